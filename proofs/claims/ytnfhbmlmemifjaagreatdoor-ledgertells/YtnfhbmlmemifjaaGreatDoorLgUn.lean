/- The document's Union of two trees, and Touched. mkLgUn.py writes it. -/
import Derived.Test.YtnfhbmlmemifjaaGreatDoorZ30
import Derived.Test.YtnfhbmlmemifjaaGreatDoorZ13
import Derived.Test.YtnfhbmlmemifjaaGreatDoorZ24
import Derived.Test.YtnfhbmlmemifjaaGreatDoorZ19
import Derived.Deep.QuietTactic
import Derived.BigQuiet
namespace Go.Proofs.YtnfhbmlmemifjaaGreatDoor
open Go.RowKit Go.Maps
def sln : Value → Nat
  | .slice _ n _ => n
  | _ => 0
theorem ints_keep {B : Nat} {w w' : World} {v : Value} {l : List Int} (h : Ints B w v l) (hb : Below w.heap.size w w') : Ints B w' v l := own_keep h (fun k hk => hb.block k (World.ownsRow.lt h k hk).2)
theorem add_at (g j : Nat) : (⟨g, 0, none⟩ : Addr).add j = ⟨g, j, none⟩ := by unfold Addr.add; by_cases hz : j = 0 <;> simp [hz]
theorem bg_app {P : Program} {ops : Array Oper} {o : Oper} {a : Act} {w : World} {K : Act → World → Prop} {Q : Exit → Act → World → Prop} {E : Prop}
    (hg : o.guard = none) (s x : Operand) (t : TypeId) (hop : o.op = Op.call { callee := Callee.builtin Builtin.append, args := #[s, x], argTypes := #[t, t] })
    (base : Nat) (e : TypeId) (i : TypeInfo) (z : Value) (size bytes : Nat) (h1 : P.underlying t = some (.slice e)) (h2 : P.info? e = some i) (h3 : i.zero = some z) (h4 : i.size = size) (h5 : i.bytes = bytes) (h6 : z.cells.size = size) (h7 : 0 < size)
    (v : Value) (n : Nat) (xs : List Value) (hs : a.eval s = v) (hown : w.ownsRow base e size v n xs)
    (ad : Addr) (m c : Nat) (news : List Value) (hx : a.eval x = .slice (some ad) m c) (hn : news.length = m * size) (hc : ∀ j u, news[j]? = some u → w.cell? (ad.add j) = some u) (h1c : ∀ u ∈ news, u.oneCell' = true)
    (b1 : n + m ≤ maxLen) (b2 : (n + m) * bytes ≤ 140737488355328) (hbase : base ≤ w.heap.size)
    (hK : ∀ v' w', w'.ownsRow base e size v' (n + m) (xs ++ news) → w.grownBy w' v.ownBlock → (v'.ownBlock = v.ownBlock ∨ v'.ownBlock = some w.heap.size) → K (a.put o.dst v') w') :
    if Region.wanted o (yielded ops a.tmps) = true then Oper.wp P o a w K Q else E := by
  have hw : Region.wanted o (yielded ops a.tmps) = true := by simp [Region.wanted, hg]
  rw [if_pos hw]
  obtain ⟨v', w', hr, r2, r3, _, r5⟩ := run_append_own_at (P := P) w base t o.type e i z size bytes h1 h2 h3 h4 h5 h6 h7 v n xs hown ad m c news hn hc h1c b1 b2 hbase
  unfold Oper.wp
  simp [execOp, hop, resolve, invoke, builtin, hs, hx, hr, Result.andThen]
  exact hK v' w' r2 r3 r5
def mmb (T : List Nd) : List Int := if mayB T = true then mems T else []
theorem mmb_len (T : List Nd) : (mmb T).length ≤ 8 := by
  unfold mmb
  split
  · next h =>
    have h1 := memsOf_len (lvs T)
    rw [lvs_len] at h1
    have := (mayB_15 h).2
    unfold mems
    omega
  · simp
set_option maxRecDepth 100000 in
set_option maxHeartbeats 8000000 in
theorem runion_any {w : World} {va vb : Value} {A B : List Nd} (ha : Trd w va A) (hb : Trd w vb B) (hne : mmb B ≠ []) :
    Calls Tryz.prog 42 #[.agg #[va], .agg #[vb]] w fun e w' => ∃ v', e = .returned v' ∧ Ints w.heap.size w' v' (uni (mmb A) (mmb B)) ∧ Below w.heap.size w w' := by
  obtain ⟨i0, hi, hz0, hz1, hz2⟩ := info_parts Tryz.infoInt
  have hi0 := hi
  obtain ⟨a, ca, rfl⟩ := ha.slice
  obtain ⟨b, cb, rfl⟩ := hb.slice
  obtain ⟨w0, hw0⟩ : ∃ W, W = (w.alloc (.cells #[.slice a A.length ca] 32)).alloc (.cells #[.slice b B.length cb] 32) := ⟨_, rfl⟩
  have hb0 : Below w.heap.size w w0 := by rw [hw0]; exact bw_tr (bwA _ _) (bwA _ _)
  have k1 : w0.heap[w.heap.size]? = some (.cells #[.slice a A.length ca] 32 (0, 0)) := by rw [hw0, Below.heap_alloc _ _ _ (by simp)]; exact heap_alloc_new _ _
  have k2 : w0.heap[w.heap.size + 1]? = some (.cells #[.slice b B.length cb] 32 (0, 0)) := by rw [hw0]; simpa using heap_alloc_new (w.alloc (.cells #[.slice a A.length ca] 32)) (.cells #[.slice b B.length cb] 32)
  have HS0 : Hid (w0.heap.size = w.heap.size + 2) := by unfold Hid; rw [hw0]; simp
  have HC : Hid (∀ W, Below w0.heap.size w0 W → W.cell? ⟨w.heap.size, 0, none⟩ = some (.slice a A.length ca) ∧ W.cell? ⟨w.heap.size + 1, 0, none⟩ = some (.slice b B.length cb)) := fun W hW => ⟨blk_c (kept_b k1 (lt_of_blk k1) hW) rfl, blk_c (kept_b k2 (lt_of_blk k2) hW) rfl⟩
  obtain ⟨mA, hmA⟩ : ∃ z, z = mmb A := ⟨_, rfl⟩
  obtain ⟨mB, hmB⟩ : ∃ z, z = mmb B := ⟨_, rfl⟩
  have KA : Hid (∀ W, Below w0.heap.size w0 W → Calls Tryz.prog 186 #[.agg #[.slice a A.length ca]] W fun e w' => ∃ r, e = .returned r ∧ Ints w0.heap.size w' r mA ∧ Below W.heap.size W w') := fun W hW => by
    rw [hmA]
    refine (rmembers_any (ha.bw (bw_tr hb0 hW))).mono ?_
    rintro e w' ⟨r, rfl, h1, h2⟩
    exact ⟨r, rfl, h1.mono hW.size, h2⟩
  have KB : Hid (∀ W, Below w0.heap.size w0 W → Calls Tryz.prog 186 #[.agg #[.slice b B.length cb]] W fun e w' => ∃ r, e = .returned r ∧ Ints w0.heap.size w' r mB ∧ Below W.heap.size W w') := fun W hW => by
    rw [hmB]
    refine (rmembers_any (hb.bw (bw_tr hb0 hW))).mono ?_
    rintro e w' ⟨r, rfl, h1, h2⟩
    exact ⟨r, rfl, h1.mono hW.size, h2⟩
  have HLN : Hid (mA.length + mB.length ≤ 16) := by have := mmb_len A; have := mmb_len B; unfold Hid; rw [hmA, hmB]; omega
  have HBP : Hid (0 < mB.length) := by unfold Hid; rw [hmB]; exact List.length_pos_iff.2 hne
  rw [← hmA, ← hmB]
  unfold uni
  have HB0 := hide hb0
  have S0 := unhide HC w0.drew ((Below.refl _ _).drew)
  have BD : Below w0.heap.size w0 w0.drew := (Below.refl _ _).drew
  have HW := hide hw0
  clear ha hb hne hmA hmB hb0 k1 k2 hw0
  generalize A.length = nA at *
  generalize B.length = nB at *
  go_enter Tryz.func42, Tryz.ntmps42
  go_upto_region 2 with fail
  rw [← unhide HW]
  clear HW
  refine wp_region_held_drew (S := fun w' : World => w'.cell? ⟨w.heap.size, 0, none⟩ = some (.slice a nA ca) ∧ w'.cell? ⟨w.heap.size + 1, 0, none⟩ = some (.slice b nB cb)) (by kernel_rfl) S0 (fun hHeld => ?_)
  refine wpAnyH_take (i := 0) (oi := { dst := some 9, op := Op.load 32 (Operand.tmp 2), type := 32, pos := "ref.go:97", after := #[], guard := none }) (v := .agg #[.slice a nA ca]) rfl (by kernel_rfl) (by kernel_rfl) (by kernel_rfl) (fun _ _ _ h => h) (Or.inl ⟨by rfl, fun w hSw => by (try dsimp only at hSw); go_simp⟩) (by exact hHeld) ?_
  try simp only [Act.put, List.setIfInBounds_toArray, List.set_cons_zero, List.set_cons_succ]
  refine wpAnyH_take (i := 2) (oi := { dst := some 11, op := Op.load 32 (Operand.tmp 3), type := 32, pos := "ref.go:97", after := #[], guard := none }) (v := .agg #[.slice b nB cb]) rfl (by kernel_rfl) (by kernel_rfl) (by kernel_rfl) (fun _ _ _ h => h) (Or.inl ⟨by rfl, fun w hSw => by (try dsimp only at hSw); go_simp⟩) (by exact hHeld) ?_
  try simp only [Act.put, List.setIfInBounds_toArray, List.set_cons_zero, List.set_cons_succ]
  refine wpAnyH_ready (rs := [1]) (by kernel_rfl) (by simp) ?_
  refine (AllReadyH.cons (o := { dst := some 10, op := Op.call { callee := Callee.value (Operand.func 186), args := #[Operand.tmp 9], argTypes := #[32] }, type := 27, pos := "ref.go:97", after := #[{ on := 0, ground := Ground.data }], guard := none }) rfl (fun K hK => ?_) AllReadyH.nil)
  go_simp
  go_at_call 186
  refine (unhide KA _ BD).mono ?_
  rintro e z1 ⟨r1, rfl, hr1, b1⟩
  have B1 := hide (bw_tr BD b1)
  have S1 := unhide HC z1 (unhide B1)
  go_wp2_with fail
  refine hK.out _ _ S1 (fun _ => ?_)
  clear hK K
  try simp only [Act.put, List.setIfInBounds_toArray, List.set_cons_zero, List.set_cons_succ]
  refine wpAnyH_ready (rs := [3]) (by kernel_rfl) (by simp) ?_
  refine (AllReadyH.cons (o := { dst := some 12, op := Op.call { callee := Callee.value (Operand.func 186), args := #[Operand.tmp 11], argTypes := #[32] }, type := 27, pos := "ref.go:97", after := #[{ on := 2, ground := Ground.data }, { on := 1, ground := Ground.chain }], guard := none }) rfl (fun K hK => ?_) AllReadyH.nil)
  go_simp
  go_at_call 186
  refine (unhide KB _ (unhide B1)).mono ?_
  rintro e z2 ⟨r2, rfl, hr2, b2⟩
  have B2 := hide (bw_tr (unhide B1) b2)
  have S2 := unhide HC z2 (unhide B2)
  have hr1' := ints_keep hr1 b2
  obtain ⟨g2, k2, e2, hg2, -, -⟩ := own_open hr2 (unhide HBP)
  subst e2
  go_wp2_with fail
  refine hK.out _ _ S2 (fun _ => ?_)
  clear hK K
  try simp only [Act.put, List.setIfInBounds_toArray, List.set_cons_zero, List.set_cons_succ]
  refine wpAnyH_ready (rs := [4]) (by kernel_rfl) (by simp) ?_
  refine (AllReadyH.cons (o := { dst := some 13, op := Op.call { callee := Callee.builtin Builtin.append, args := #[Operand.tmp 10, Operand.tmp 12], argTypes := #[27, 27] }, type := 27, pos := "ref.go:97", after := #[{ on := 1, ground := Ground.data }, { on := 3, ground := Ground.data }, { on := 3, ground := Ground.chain }], guard := none }) rfl (fun K hK => ?_) AllReadyH.nil)
  refine bg_app rfl (.tmp 10) (.tmp 12) 27 rfl w0.heap.size 3 i0 (.int .i64 0) 1 8 Tryz.underlying27 hi hz0 hz1 hz2 rfl (by decide) r1 mA.length (mA.map I64) (by first | rfl | simp [Act.eval, Act.put]) hr1' ⟨g2, 0, none⟩ mB.length k2 (mB.map I64) (by first | rfl | simp [Act.eval, Act.put]) (by simp) (fun j u hu => by rw [add_at]; exact own_cell hr2 rfl hu) (i64_one mB) (by have := unhide HLN; unfold maxLen; omega) (by have := unhide HLN; omega) (unhide B2).size ?_
  intro v3 w4 hown3 hgrow3 _
  have B4 : Hid (Below w0.heap.size w0 w4) := Fr.toBase (unhide B2) (Fr.ofGrown hgrow3) (fun z hz => (World.ownsRow.lt hr1' z (by simpa using hz)).1)
  have S4 := unhide HC w4 (unhide B4)
  refine hK.out _ _ S4 (fun _ => ?_)
  clear hK K
  try simp only [Act.put, List.setIfInBounds_toArray, List.set_cons_zero, List.set_cons_succ]
  refine wpAnyH_take (i := 5) (oi := { dst := some 6, op := Op.assign (Operand.tmp 13), type := 27, pos := "ref.go:97", after := #[{ on := 4, ground := Ground.data }, { on := 4, ground := Ground.chain }, { on := 0, ground := Ground.phase }, { on := 1, ground := Ground.phase }, { on := 2, ground := Ground.phase }, { on := 3, ground := Ground.phase }, { on := 4, ground := Ground.phase }], guard := none }) (v := v3) rfl (by kernel_rfl) (by kernel_rfl) (by kernel_rfl) (fun _ _ _ h => h) (Or.inl ⟨by rfl, fun w hSw => by (try dsimp only at hSw); go_simp⟩) (by exact S4) ?_
  try simp only [Act.put, List.setIfInBounds_toArray, List.set_cons_zero, List.set_cons_succ]
  refine wpAnyH_done (by kernel_rfl) ?_ _
  have HL0 : Hid (Ints w0.heap.size w4 v3 (mA ++ mB)) := by unfold Hid Ints; rw [List.length_append, List.map_append]; exact hown3
  clear hown3 hgrow3 hr1 hr1' hr2 b1 b2 B1 B2 S1 S2 S4 KA KB hg2
  obtain ⟨l, hl⟩ : ∃ l, l = mA ++ mB := ⟨_, rfl⟩
  have HU : Hid (l = mA ++ mB ∧ l.length ≤ 16) := ⟨hl, by rw [hl, List.length_append]; exact unhide HLN⟩
  rw [← hl] at HL0
  have hlb : l.length ≤ 16 := (unhide HU).2
  obtain ⟨al, cl, hv3⟩ := own_slice (unhide HL0)
  subst hv3
  have HLC : Hid (∀ (j : Nat) (x : Int), l[j]? = some x → ∃ gl, al = some ⟨gl, 0, none⟩ ∧ ∀ W, Below w4.heap.size w4 W → W.cell? ⟨gl, j, none⟩ = some (.int .i64 x)) := fun j x hj => by
    have hlt := (List.getElem?_eq_some_iff.1 hj).1
    obtain ⟨gl, cp, e, hgl, -, -⟩ := own_open (unhide HL0) (by omega)
    cases e
    refine ⟨gl, rfl, fun W hW => ?_⟩
    rw [hW.cell (p := ⟨gl, j, none⟩) hgl]
    exact own_cell (unhide HL0) rfl (by rw [List.getElem?_map, hj]; rfl)
  have HSZ : Hid (w.heap.size ≤ w4.heap.size) := by have := (unhide B4).size; have := unhide HS0; unfold Hid; omega
  have HB4 : Hid (Below w.heap.size w w4) := bw_tr (unhide HB0) (unhide B4)
  obtain ⟨N, hN⟩ : ∃ N, N = l.length := ⟨_, rfl⟩
  have HN := hide hN
  rw [← hN] at hlb ⊢
  clear hN hl B4 HL0 HC HBP HLN HS0 HB0
  have hNI : (N : Int) ≤ 16 := by omega
  go_wp2_with fail
  go_loopw [5] (fun ov wr => ∃ out, Hid (Un l out) ∧ Ints w4.heap.size wr ov out ∧ Below w4.heap.size w4 wr) (fun ov _ => N + 1 - sln ov)
  case atStart => exact ⟨[], Un.start l, ints_nil _ _, Below.refl _ _⟩
  case round =>
    obtain ⟨out, hu, hown, hbel⟩ := hrel
    obtain ⟨ao, co, ho⟩ := own_slice hown
    subst ho
    have HO : Hid (Ints w4.heap.size wr (.slice ao out.length co) out ∧ Below w4.heap.size w4 wr) := ⟨hown, hbel⟩
    have hol : out.length ≤ 16 := by have := (unhide hu).n; rw [← unhide HN] at this; omega
    obtain ⟨M, hM⟩ : ∃ M, M = out.length := ⟨_, rfl⟩
    have HM := hide hM
    have HCO : Hid (M ≠ 0 → ∃ go, ao = some ⟨go, 0, none⟩ ∧ ∀ W, Below wr.heap.size wr W → W.cell? ⟨go, M - 1, none⟩ = some (.int .i64 (lstI out))) := fun h0 => by
      obtain ⟨go, cp, e, hgo, -, -⟩ := own_open hown (by omega)
      cases e
      refine ⟨go, rfl, fun W hW => ?_⟩
      rw [hW.cell (p := ⟨go, M - 1, none⟩) hgo]
      refine own_cell hown rfl ?_
      rw [List.getElem?_map, hM]
      unfold lstI
      rw [List.getLast?_eq_getElem?, List.getElem?_eq_getElem (by omega)]
      rfl
    rw [← hM] at hol ⊢
    have hMI : (M : Int) ≤ 16 := by omega
    clear hM hown hbel
    rename World => wo
    go_wp2_with fail
    go_loopw [7, 8] (fun av iv wr => ∃ (i : Nat) (kz : Int), iv = .int .i64 (i : Int) ∧ av = .int .i64 kz ∧ i ≤ N ∧ Hid (Lk1 l out i kz) ∧ Hid (Below wo.heap.size wo wr)) (fun _ iv _ => (N - intOf iv).toNat)
    case atStart => exact ⟨0, -1, rfl, rfl, by omega, Lk1.start l out, Below.refl _ _⟩
    case round =>
      obtain ⟨i, kz, rfl, rfl, hi, hlk, HBW⟩ := hrel
      by_cases hin : i < N
      · obtain ⟨x, hx⟩ : ∃ x, l[i]? = some x := ⟨_, List.getElem?_eq_getElem (by rw [← unhide HN]; exact hin)⟩
        obtain ⟨gl, eal, hcx⟩ := unhide HLC i x hx
        subst eal
        have d0 := hcx wr (bw_tr (unhide HO).2 (unhide HBW))
        have HX := hide hx
        have iN : (i : Int) < (N : Int) := by omega
        have i0' : (0 : Int) ≤ (i : Int) := by omega
        clear hx hcx
        by_cases hM0 : M = 0
        · have HCN : Hid (cnd out x = true) := by unfold Hid cnd; rw [decide_eq_true (by rw [← unhide HM]; exact hM0)]; rfl
          subst hM0
          rcases unhide hlk with ⟨hk, -⟩ | ⟨n, m, hk, hn, hm, -, -⟩
          · have HLK : Hid (Lk1 l out (i + 1) (i : Int)) := (unhide hlk).take (unhide HX) (unhide HCN) (Or.inl hk)
            subst hk
            clear hlk HX HLC
            go_wp2_with fail
            go_quiet (fail)
            generalize hWQ : World.drewN _ _ = wq
            have HQ : Hid (Below wo.heap.size wo wq) := by rw [← hWQ]; exact below_drewN (unhide HBW) _
            clear hWQ
            go_wp2_with fail
            go_roundw
            case rel => exact ⟨i + 1, (i : Int), by go_num, rfl, by omega, HLK, HQ⟩
            case measure => simp only [intOf]; omega
          · obtain ⟨gl', eal', hcm⟩ := unhide HLC n m hm
            cases eal'
            have d2 := hcm wr (bw_tr (unhide HO).2 (unhide HBW))
            have n0 : ¬ ((n : Int) < 0) := by omega
            have n1 : (n : Int) < (N : Int) := by omega
            have n2 : (0 : Int) ≤ (n : Int) := by omega
            have n3 : decide ((n : Int) < 0) = false := decide_eq_false n0
            by_cases hxm : x < m
            · have HLK : Hid (Lk1 l out (i + 1) (i : Int)) := (unhide hlk).take (unhide HX) (unhide HCN) (Or.inr ⟨n, m, hk, hm, hxm⟩)
              have n4 : decide (x < m) = true := decide_eq_true hxm
              subst hk
              clear hcm hm hn
              clear hlk HX HLC
              go_wp2_with fail
              go_quiet (fail)
              generalize hWQ : World.drewN _ _ = wq
              have HQ : Hid (Below wo.heap.size wo wq) := by rw [← hWQ]; exact below_drewN (unhide HBW) _
              clear hWQ
              go_wp2_with fail
              go_roundw
              case rel => exact ⟨i + 1, (i : Int), by go_num, rfl, by omega, HLK, HQ⟩
              case measure => simp only [intOf]; omega
            · have HLK : Hid (Lk1 l out (i + 1) kz) := (unhide hlk).skip (unhide HX) (Or.inr ⟨n, m, hk, hm, by omega⟩)
              have n4 : decide (x < m) = false := decide_eq_false hxm
              subst hk
              clear hcm hm hn
              clear hlk HX HLC
              go_wp2_with fail
              go_quiet (fail)
              generalize hWQ : World.drewN _ _ = wq
              have HQ : Hid (Below wo.heap.size wo wq) := by rw [← hWQ]; exact below_drewN (unhide HBW) _
              clear hWQ
              go_wp2_with fail
              go_roundw
              case rel => exact ⟨i + 1, (n : Int), by go_num, rfl, by omega, HLK, HQ⟩
              case measure => simp only [intOf]; omega
        · obtain ⟨go, eao, hco⟩ := unhide HCO hM0
          subst eao
          have d1 := hco wr (unhide HBW)
          obtain ⟨m', hm'⟩ : ∃ z, z = M - 1 := ⟨_, rfl⟩
          rw [← hm'] at d1
          obtain ⟨lo, hlo⟩ : ∃ z, z = lstI out := ⟨_, rfl⟩
          rw [← hlo] at d1
          have v1 : (M : Int) - 1 = (m' : Int) := by omega
          have v2 : (m' : Int) < (M : Int) := by omega
          have v3 : (0 : Int) ≤ (m' : Int) := by omega
          have v5 : IntKind.i64.wrap (m' : Int) = (m' : Int) := by rw [IntKind.wrap_i64]; omega
          have v6 : ¬ (M : Int) = 0 := by omega
          have v7 : ((M : Int) == 0) = false := by simp [hM0]
          have v8 : decide ((M : Int) = 0) = false := decide_eq_false v6
          have HLO := hide hlo
          clear hco hlo hm'
          by_cases hlt : lo < x
          · have HCN : Hid (cnd out x = true) := by unfold Hid cnd; rw [← unhide HLO, decide_eq_true hlt, Bool.or_true]
            have v9 : decide (lo < x) = true := decide_eq_true hlt
            rcases unhide hlk with ⟨hk, -⟩ | ⟨n, m, hk, hn, hm, -, -⟩
            · have HLK : Hid (Lk1 l out (i + 1) (i : Int)) := (unhide hlk).take (unhide HX) (unhide HCN) (Or.inl hk)
              subst hk
              clear hlk HX HLC
              go_wp2_with fail
              go_quiet (fail)
              generalize hWQ : World.drewN _ _ = wq
              have HQ : Hid (Below wo.heap.size wo wq) := by rw [← hWQ]; exact below_drewN (unhide HBW) _
              clear hWQ
              go_wp2_with fail
              go_roundw
              case rel => exact ⟨i + 1, (i : Int), by go_num, rfl, by omega, HLK, HQ⟩
              case measure => simp only [intOf]; omega
            · obtain ⟨gl', eal', hcm⟩ := unhide HLC n m hm
              cases eal'
              have d2 := hcm wr (bw_tr (unhide HO).2 (unhide HBW))
              have n0 : ¬ ((n : Int) < 0) := by omega
              have n1 : (n : Int) < (N : Int) := by omega
              have n2 : (0 : Int) ≤ (n : Int) := by omega
              have n3 : decide ((n : Int) < 0) = false := decide_eq_false n0
              by_cases hxm : x < m
              · have HLK : Hid (Lk1 l out (i + 1) (i : Int)) := (unhide hlk).take (unhide HX) (unhide HCN) (Or.inr ⟨n, m, hk, hm, hxm⟩)
                have n4 : decide (x < m) = true := decide_eq_true hxm
                subst hk
                clear hcm hm hn
                clear hlk HX HLC
                go_wp2_with fail
                go_quiet (fail)
                generalize hWQ : World.drewN _ _ = wq
                have HQ : Hid (Below wo.heap.size wo wq) := by rw [← hWQ]; exact below_drewN (unhide HBW) _
                clear hWQ
                go_wp2_with fail
                go_roundw
                case rel => exact ⟨i + 1, (i : Int), by go_num, rfl, by omega, HLK, HQ⟩
                case measure => simp only [intOf]; omega
              · have HLK : Hid (Lk1 l out (i + 1) kz) := (unhide hlk).skip (unhide HX) (Or.inr ⟨n, m, hk, hm, by omega⟩)
                have n4 : decide (x < m) = false := decide_eq_false hxm
                subst hk
                clear hcm hm hn
                clear hlk HX HLC
                go_wp2_with fail
                go_quiet (fail)
                generalize hWQ : World.drewN _ _ = wq
                have HQ : Hid (Below wo.heap.size wo wq) := by rw [← hWQ]; exact below_drewN (unhide HBW) _
                clear hWQ
                go_wp2_with fail
                go_roundw
                case rel => exact ⟨i + 1, (n : Int), by go_num, rfl, by omega, HLK, HQ⟩
                case measure => simp only [intOf]; omega
          · have HLK : Hid (Lk1 l out (i + 1) kz) := (unhide hlk).skip (unhide HX) (Or.inl (by unfold cnd; rw [← unhide HLO, ← unhide HM, decide_eq_false hlt, decide_eq_false hM0]; rfl))
            have v9 : decide (lo < x) = false := decide_eq_false hlt
            clear hlk HX HLC
            go_wp2_with fail
            go_quiet (fail)
            generalize hWQ : World.drewN _ _ = wq
            have HQ : Hid (Below wo.heap.size wo wq) := by rw [← hWQ]; exact below_drewN (unhide HBW) _
            clear hWQ
            go_wp2_with fail
            go_roundw
            case rel => exact ⟨i + 1, kz, by go_num, rfl, by omega, HLK, HQ⟩
            case measure => simp only [intOf]; omega
      · obtain rfl : i = N := by omega
        rcases unhide hlk with ⟨rfl, hno⟩ | ⟨n, m, rfl, hn, hm, hc, hleast⟩
        · have HF : Hid (Ints w.heap.size wr (.slice ao M co) (Lib.compact (srI (mA ++ mB))) ∧ Below w.heap.size w wr) := by
            have e := (unhide hu).done (fun x hx => by
              obtain ⟨j, hj⟩ := List.mem_iff_getElem?.1 hx
              exact hno j x (by rw [unhide HN]; exact (List.getElem?_eq_some_iff.1 hj).1) hj)
            rw [← (unhide HU).1, ← e, unhide HM]
            exact ⟨(ints_keep (unhide HO).1 (unhide HBW)).mono (unhide HSZ), bw_tr (unhide HB4) (bw_tr (unhide HO).2 (unhide HBW))⟩
          clear hlk hno HLC HCO HO HBW
          go_wp2_with fail
          go_ret
          exact ⟨_, rfl, (unhide HF).1, (unhide HF).2⟩
        · obtain ⟨gl, eal, hcx⟩ := unhide HLC n m hm
          subst eal
          have d0 := hcx wr (bw_tr (unhide HO).2 (unhide HBW))
          have HU2 : Hid (Un l (out ++ [m])) := (unhide hu).snoc (List.mem_of_getElem? hm) hc (fun x hx q => by
            obtain ⟨j, hj⟩ := List.mem_iff_getElem?.1 hx
            exact hleast j x (by rw [unhide HN]; exact (List.getElem?_eq_some_iff.1 hj).1) hj q)
          have n0 : ¬ ((n : Int) < 0) := by omega
          have n1 : (n : Int) < (i : Int) := by omega
          have n2 : (0 : Int) ≤ (n : Int) := by omega
          have hlen2 : M + 1 ≤ i := by have := (unhide HU2).n; rw [List.length_append, List.length_singleton, ← unhide HM] at this; have := unhide HN; omega
          have ho2 : Ints w4.heap.size wr (.slice ao M co) out := by rw [unhide HM]; exact ints_keep (unhide HO).1 (unhide HBW)
          have hb2 : Below w4.heap.size w4 wr := bw_tr (unhide HO).2 (unhide HBW)
          have hsz := hb2.size
          have HML := hide (unhide HM)
          clear hlk hm hc hleast hcx HLC HCO HO HBW hu
          have ho3 : wr.ownsRow w4.heap.size 3 1 (.slice ao M co) M (out.map I64) := by have := ho2; unfold Ints at this; rw [← unhide HM] at this; exact this
          go_wp2_with (at_builtin; refine wpList_append_own _ rfl (.tmp 55) (.tmp 60) 27 rfl w4.heap.size 3 i0 (.int .i64 0) 1 8 Tryz.underlying27 hi0 hz0 hz1 hz2 rfl (by decide) _ M _ rfl (World.ownsRow.alloc ho3 _) ⟨wr.heap.size, 0, none⟩ 1 1 [_] rfl rfl (cell_one_new _ _ _) ?c2 ?c3 ?c4 ?c5 ?nx)
          case c2 => first | rfl | (intro u hu; simp at hu; subst hu; rfl)
          case c3 => unfold maxLen; omega
          case c4 => omega
          case c5 => first | omega | (simp; omega)
          case nx =>
            intro v' w5 hown' hgrow _
            obtain ⟨R1, R2⟩ := ints_snoc m hb2 ho2 (by rw [← unhide HM]; simpa using hown') hgrow
            have HR := hide (And.intro R1 R2)
            obtain ⟨av, cv, hv⟩ := own_slice R1
            subst hv
            clear hown' hgrow R1 R2 ho2 ho3 hb2
            go_wp2_with fail
            go_roundw
            case rel => exact ⟨out ++ [m], HU2, (unhide HR).1, (unhide HR).2⟩
            case measure => simp only [sln, List.length_append, List.length_singleton]; have := unhide HM; omega
end Go.Proofs.YtnfhbmlmemifjaaGreatDoor
