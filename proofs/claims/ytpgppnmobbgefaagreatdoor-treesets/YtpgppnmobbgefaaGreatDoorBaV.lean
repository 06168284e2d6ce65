/- Texts joined: TrG0 TrG1 TrG. -/
import Derived.Test.YtpgppnmobbgefaaGreatDoorBaX
/- Plain facts of resolutions; the append of a row that reads as numbers, as a step of a region that draws. -/
namespace Go.Proofs.YtpgppnmobbgefaaGreatDoor
open Go.RowKit Go.Maps

/-- Unmerged leaves are few, and small numbers. -/
def Sm (T : List Nd) : Prop := ∀ y, y < T.length → (ndAt T y).un.length ≤ 8 ∧ ∀ u ∈ (ndAt T y).un, 0 ≤ u ∧ u ≤ 7
theorem unM_bounds {T : List Nd} {L : Int} : ∀ {l : List Int} {f : Int}, unM T f L l = true → l.length ≤ (L + 1 - f).toNat ∧ ∀ u ∈ l, f ≤ u ∧ u ≤ L ∧ pos (ndAt T (2 * u.toNat)) = true
  | [], _, _ => ⟨by simp, by simp⟩
  | u :: us, f, h => by
    simp only [unM, Bool.and_eq_true, decide_eq_true_eq] at h
    obtain ⟨⟨⟨h1, h2⟩, h3⟩, h4⟩ := h
    obtain ⟨i1, i2⟩ := unM_bounds h4
    refine ⟨by simp only [List.length_cons]; omega, fun z hz => ?_⟩
    rcases List.mem_cons.1 hz with rfl | hz
    · exact ⟨h1, h2, h3⟩
    · have := i2 z hz; exact ⟨by omega, this.2.1, this.2.2⟩
theorem ndM_un {T : List Nd} {x : Nat} (h : ndM T x = true) : (ndAt T x).un = [] ∨ (x % 2 = 1 ∧ 0 < (ndAt T x).pub ∧ unM T (spF (x : Nat)) (spT (x : Nat)) (ndAt T x).un = true) := by
  unfold ndM at h
  split at h
  · simp only [Bool.and_eq_true] at h; exact Or.inl (List.isEmpty_iff.1 h.2)
  · split at h
    · cases h
    · split at h
      · simp only [Bool.and_eq_true] at h; exact Or.inl (List.isEmpty_iff.1 h.2)
      · simp only [Bool.and_eq_true] at h; exact Or.inr ⟨by omega, by omega, h.2⟩
/-- A tree that may be, and has nodes. -/
structure Ok (T : List Nd) : Prop where
  wd : Wd T
  nd : ∀ x, x < T.length → ndM T x = true
  nodup : (mems T).Nodup
  right : anyM T (nlv T / 2) (nlv T) = true
theorem mayB_ok {T : List Nd} (h : mayB T = true) : T = [] ∨ Ok T := by
  rcases mayB_wd h with c | c
  · exact Or.inl c
  · unfold mayB at h
    simp only [Bool.or_eq_true, Bool.and_eq_true, decide_eq_true_eq] at h
    rcases h with h | h
    · exact Or.inl (List.isEmpty_iff.1 h)
    · exact Or.inr ⟨c, fun x hx => List.all_eq_true.1 h.1.1.2 x (List.mem_range.2 hx), h.1.2, h.2⟩
theorem Ok.mayB {T : List Nd} (h : Ok T) : mayB T = true := by
  obtain ⟨g1, g2, g3, g4, g5⟩ := h.wd.facts
  unfold Go.Proofs.YtpgppnmobbgefaaGreatDoor.mayB
  have hw : wid (nlv T : Nat) = (T.length : Nat) := by
    have hh : ∀ n ∈ sizes, wid (n : Nat) = ((2 * n - 1 : Nat) : Int) := by decide +kernel
    rw [hh _ g1, g2]
  rw [decide_eq_true g4, decide_eq_true hw, decide_eq_true h.nodup, h.right, (List.all_eq_true.2 fun x hx => h.nd x (List.mem_range.1 hx))]
  simp
theorem Ok.sm {T : List Nd} (h : Ok T) : Sm T := by
  intro y hy
  obtain ⟨g1, g2, g3, g4, g5⟩ := h.wd.facts
  rcases ndM_un (h.nd y hy) with e | ⟨_, _, e⟩
  · rw [e]; simp
  · obtain ⟨⟨s1, s2, s3, _⟩, _⟩ := span_of g1 (show y < 2 * nlv T - 1 by omega)
    obtain ⟨i1, i2⟩ := unM_bounds e
    exact ⟨by omega, fun u hu => by have := i2 u hu; omega⟩

theorem rsF_fuel {T : List Nd} {n : Nat} (hn : n ∈ sizes) : ∀ (f g x : Nat), x < 2 * n - 1 → lvl (x : Nat) < f → lvl (x : Nat) < g → rsF f T x = rsF g T x := by
  intro f
  induction f with
  | zero => intro g x hx h1 h2; have := (span_of hn hx).2.2.1; omega
  | succ f ih =>
    intro g x hx h1 h2
    cases g with
    | zero => have := (span_of hn hx).2.2.1; omega
    | succ g =>
      unfold rsF
      by_cases hp : pos (ndAt T x) = true
      · rw [if_pos hp, if_pos hp]
      · rw [if_neg hp, if_neg hp]
        by_cases ho : x % 2 = 0
        · rw [if_pos ho, if_pos ho]
        · rw [if_neg ho, if_neg ho]
          obtain ⟨a1, a2, a3, a4, a5, a6, a7, a8, _⟩ := (span_of hn hx).2.1 (by omega)
          rw [ih g (lN x) a5 (by omega) (by omega), ih g (rN x) a6 (by omega) (by omega)]
theorem rsl_pos {T : List Nd} {x : Nat} (hp : pos (ndAt T x) = true) : rsl T x = (x : Int) :: (ndAt T x).un.map (2 * ·) := by
  unfold rsl rsF; rw [if_pos hp]
theorem rsl_leaf {T : List Nd} {x : Nat} (hp : pos (ndAt T x) = false) (ho : x % 2 = 0) : rsl T x = [] := by
  unfold rsl rsF; rw [if_neg (by simp [hp]), if_pos ho]
theorem rsl_par {T : List Nd} {n x : Nat} (hn : n ∈ sizes) (hx : x < 2 * n - 1) (hp : pos (ndAt T x) = false) (ho : x % 2 = 1) : rsl T x = rsl T (lN x) ++ rsl T (rN x) := by
  obtain ⟨a1, a2, a3, a4, a5, a6, a7, a8, _⟩ := (span_of hn hx).2.1 ho
  have h3 := (span_of hn hx).2.2.2.1
  show rsF 5 T x = rsF 5 T (lN x) ++ rsF 5 T (rN x)
  rw [rsF_fuel hn 5 4 (lN x) a5 (by omega) (by omega), rsF_fuel hn 5 4 (rN x) a6 (by omega) (by omega)]
  conv => lhs; unfold rsF
  rw [if_neg (by simp [hp]), if_neg (by omega)]
/-- A proof over nodes from the leaves up. -/
theorem node_ind {n : Nat} (hn : n ∈ sizes) {P : Nat → Prop} (h0 : ∀ x, x < 2 * n - 1 → x % 2 = 0 → P x) (h1 : ∀ x, x < 2 * n - 1 → x % 2 = 1 → P (lN x) → P (rN x) → P x) : ∀ x, x < 2 * n - 1 → P x := by
  have key : ∀ (k x : Nat), x < 2 * n - 1 → lvl (x : Nat) ≤ (k : Nat) → P x := by
    intro k
    induction k with
    | zero =>
      intro x hx hl
      have s := (span_of hn hx).2.2
      exact h0 x hx (s.2.2.1.1 (by omega))
    | succ k ih =>
      intro x hx hl
      rcases Nat.mod_two_eq_zero_or_one x with c | c
      · exact h0 x hx c
      · obtain ⟨a1, a2, a3, a4, a5, a6, a7, a8, _⟩ := (span_of hn hx).2.1 c
        exact h1 x hx c (ih _ a5 (by omega)) (ih _ a6 (by omega))
  intro x hx
  exact key 3 x hx (span_of hn hx).2.2.2.1
theorem rsl_len {T : List Nd} (hw : Wd T) (hs : Sm T) : ∀ x, x < T.length → (rsl T x).length ≤ 9 * 2 ^ (lvl (x : Nat)).toNat := by
  obtain ⟨g1, g2, g3, g4, g5⟩ := hw.facts
  rw [g2]
  have hp1 : ∀ k : Nat, 1 ≤ 2 ^ k := fun k => Nat.one_le_two_pow
  refine node_ind g1 (fun x hx ho => ?_) (fun x hx ho i1 i2 => ?_)
  · have := hp1 (lvl (x : Nat)).toNat
    cases hp : pos (ndAt T x)
    · rw [rsl_leaf hp ho]; simp
    · rw [rsl_pos hp]; have := (hs x (by omega)).1; simp; omega
  · have h1 := hp1 (lvl (x : Nat)).toNat
    cases hp : pos (ndAt T x)
    · rw [rsl_par g1 hx hp ho, List.length_append]
      obtain ⟨a1, a2, a3, a4, a5, a6, a7, a8, _⟩ := (span_of g1 hx).2.1 ho
      have l0 := (span_of g1 a5).2.2.1
      have e1 : (lvl (lN x : Nat)).toNat = (lvl (rN x : Nat)).toNat := by omega
      have e2 : (lvl (x : Nat)).toNat = (lvl (rN x : Nat)).toNat + 1 := by omega
      rw [e1] at i1
      rw [e2, Nat.pow_succ]; omega
    · rw [rsl_pos hp]; have := (hs x (by omega)).1; simp; omega
theorem rsl_72 {T : List Nd} (hw : Wd T) (hs : Sm T) {x : Nat} (hx : x < T.length) : (rsl T x).length ≤ 72 := by
  have h := rsl_len hw hs x hx
  obtain ⟨g1, g2, g3, g4, g5⟩ := hw.facts
  have h3 := (span_of g1 (show x < 2 * nlv T - 1 by omega)).2.2.2.1
  have : (2 : Nat) ^ (lvl (x : Nat)).toNat ≤ 2 ^ 3 := Nat.pow_le_pow_right (by decide) (by omega)
  omega

theorem step_join {ops : Array Oper} {o : Oper} {a : Act} {w : World} {K : Act → World → Prop} {Q : Exit → Act → World → Prop} {E : Prop}
    (hg : o.guard = none) (s x : Operand) (hop : o.op = Op.call { callee := Callee.builtin Builtin.append, args := #[s, x], argTypes := #[31, 31] })
    (base : Nat) (v u : Value) (l l' : List Int) (hs : a.eval s = v) (hown : Ints base w v l) (hx : a.eval x = u) (hu : Nums w u l') (hlen : l.length + l'.length ≤ 100000) (hbase : base ≤ w.heap.size)
    (hK : ∀ v' w', Ints base w' v' (l ++ l') → w.grownBy w' v.ownBlock → (v'.ownBlock = v.ownBlock ∨ v'.ownBlock = some w.heap.size) → K (a.put o.dst v') w') :
    if Region.wanted o (yielded ops a.tmps) = true then Oper.wp Tryz.prog o a w K Q else E := by
  have hw : Region.wanted o (yielded ops a.tmps) = true := by simp [Region.wanted, hg]
  rw [if_pos hw]
  obtain ⟨i0, hi, hz0, hz1, hz2⟩ := info_parts Tryz.infoInt
  rcases hu with ⟨rfl, a', c', rfl, hac⟩ | ⟨g, off, cap, rfl, h1, h2, hc⟩
  · cases a' with
    | some ad =>
      obtain ⟨v', w', hr, r2, r3, _, r5⟩ := run_append_own_at (P := Tryz.prog) (w := w) base 31 o.type 3 i0 (.int .i64 0) 1 8 Tryz.underlying31 hi hz0 hz1 hz2 rfl (by decide) v l.length _ hown ad 0 c' [] (by simp) (by simp) (by simp) (by unfold maxLen; simp at hlen; omega) (by simp at hlen; omega) hbase
      unfold Oper.wp
      simp [execOp, hop, resolve, invoke, builtin, hs, hx, hr, Result.andThen]
      exact hK v' w' (by simpa [Ints] using r2) r3 r5
    | none =>
    obtain rfl := hac rfl
    have hrun := run_append_owned_none (P := Tryz.prog) (w := w) base 31 o.type 3 i0 1 Tryz.underlying31 hi v l.length _ hown
    unfold Oper.wp
    simp [execOp, hop, resolve, invoke, builtin, hs, hx, hrun, Result.andThen]
    exact hK v w (by simpa using hown) (World.grownBy.refl _ _) (Or.inl rfl)
  · have ea : ∀ j, (⟨g, off, none⟩ : Addr).add j = ⟨g, off + j, none⟩ := fun j => by
      unfold Addr.add; by_cases hj : j = 0 <;> simp [hj]
    obtain ⟨v', w', hr, r2, r3, _, r5⟩ := run_append_own_at (P := Tryz.prog) (w := w) base 31 o.type 3 i0 (.int .i64 0) 1 8 Tryz.underlying31 hi hz0 hz1 hz2 rfl (by decide) v l.length _ hown ⟨g, off, none⟩ l'.length cap (l'.map I64) (by simp)
      (fun j y hj => by
        rw [ea]
        simp only [List.getElem?_map, Option.map_eq_some_iff] at hj
        obtain ⟨z, hz, rfl⟩ := hj
        exact hc j z hz)
      (fun y hy => by obtain ⟨z, _, rfl⟩ := List.mem_map.1 hy; rfl) (by unfold maxLen; omega) (by omega) hbase
    unfold Oper.wp
    simp [execOp, hop, resolve, invoke, builtin, hs, hx, hr, Result.andThen]
    exact hK v' w' (by simpa [Ints] using r2) r3 r5
end Go.Proofs.YtpgppnmobbgefaaGreatDoor

/- The contract of resolution, of a node that is not blank. -/
namespace Go.Proofs.YtpgppnmobbgefaaGreatDoor
open Go.RowKit Go.Maps

set_option maxRecDepth 100000 in
set_option maxHeartbeats 4000000 in
theorem resolution_pos {T : List Nd} (hw : Wd T) (hs : Sm T) (x : Nat) (hx : x < 2 * nlv T - 1) (hp : pos (ndAt T x) = true) {w : World} {v : Value} (h : Trd w v T) :
    Calls Tryz.prog 167 #[.agg #[v], .int .i64 (x : Int)] w fun e w' => ∃ r, e = .returned r ∧ Ints w.heap.size w' r (rsl T x) ∧ Below w.heap.size w w' := by
  obtain ⟨g1, g2, g3, g4, g5⟩ := hw.facts
  obtain ⟨i0, hi, hz0, hz1, hz2⟩ := info_parts Tryz.infoInt
  rw [rsl_pos hp]
  have hxT : x < T.length := by omega
  clear g1 g2 g4 g5 hw
  obtain ⟨a, c, rfl⟩ := h.slice
  obtain ⟨w0, hw0⟩ : ∃ w0, w0 = bxw w (.slice a T.length c) := ⟨_, rfl⟩
  have HB : Hid (∀ W, Below w0.heap.size w0 W → W.cell? ⟨w.heap.size, 0, none⟩ = some (.slice a T.length c) ∧ Below w.heap.size w W) := fun W hW => by subst hw0; exact ⟨bx_cell hW, bx_bel hW⟩
  have b0 : Below w.heap.size w w0 := by rw [hw0]; exact bwA _ _
  have KB := blank_any (h.bw b0) hxT
  rw [hp] at KB
  obtain ⟨-, h2⟩ := h.at
  obtain ⟨b, o, rfl, h3⟩ := h2 (by omega)
  obtain ⟨u, k1, k2⟩ := h3 w (Below.refl _ _) x hxT
  have hB : b < w.heap.size := lt_of_cell k1.c3
  have HU : Hid (∀ W, Below w.heap.size w W → W.cell? ⟨b, o + x * 4 + 3, none⟩ = some u) := fun W hW => (k1.bw hB hW).c3
  obtain ⟨au, cu, rfl⟩ := nums_slice k2
  obtain ⟨s1, s2⟩ := hs x hxT
  generalize (ndAt T x).un = l at *
  have HL : Hid (∀ i z, l[i]? = some z → 0 ≤ z ∧ z ≤ 7 ∧ ∃ g o', au = some ⟨g, o', none⟩ ∧ ∀ W, Below w.heap.size w W → W.cell? ⟨g, o' + i, none⟩ = some (.int .i64 z)) := fun i z hz => by
    have hm := s2 z (List.mem_of_getElem? hz)
    refine ⟨hm.1, hm.2, ?_⟩
    obtain ⟨g, o', cap, e, hc⟩ := k2.open (by have := (List.getElem?_eq_some_iff.1 hz).1; omega)
    cases e
    refine ⟨g, o', rfl, fun W hW => ?_⟩
    have hcc := hc i z hz
    rw [hW.cell (p := ⟨g, o' + i, none⟩) (lt_of_cell (a := ⟨g, o' + i, none⟩) hcc)]; exact hcc
  have HW : Hid (w0 = w.alloc (.cells #[.slice (some ⟨b, o, none⟩) T.length c] 24)) := hw0
  have hx1 : (x : Int) < (T.length : Int) := by omega
  have hx2 : (0 : Int) ≤ (x : Int) := by omega
  have hx3 : (x : Int) ≤ 15 := by omega
  clear h h2 h3 k1 k2 hw0 hp hx s2
  obtain ⟨M, hM⟩ : ∃ M, M = l.length := ⟨_, rfl⟩
  rw [← hM] at HU s1
  have HM := hide hM
  clear hM
  have g3' : (T.length : Int) ≤ 15 := by omega
  generalize T.length = N at *
  go_enter Tryz.func167, Tryz.ntmps167
  go_wp2_with fail
  rw [← unhide HW]
  refine KB.mono ?_
  rintro e w1 ⟨rfl, b1⟩
  obtain ⟨c1, hbw⟩ := unhide HB _ b1
  have hbw2 : Below w.heap.size w (w1.alloc (.cells #[.int .i64 (x : Int)] 3)) := hbw.alloc hbw.size _
  have c2 := unhide HU _ hbw2
  have c3 := (unhide HB _ (b1.alloc b1.size (.cells #[.int .i64 (x : Int)] 3))).1
  clear KB
  go_wp2_with fail
  go_loopw [5, 25] (fun lv iv wr => ∃ i : Nat, iv = .int .i64 (i : Int) ∧ i ≤ M ∧ Ints w0.heap.size wr lv ((x : Int) :: (l.take i).map (2 * ·)) ∧ Below w0.heap.size w0 wr) (fun _ iv _ => (M - (intOf iv)).toNat)
  case atStart => exact ⟨0, rfl, by omega, (one_own w1 (x : Int)).mono b1.size, b1.alloc b1.size _⟩
  case round =>
    clear c1 c2 c3 hbw hbw2 b1
    obtain ⟨i, rfl, hin, hown, hbel⟩ := hrel
    obtain ⟨c1, hbw⟩ := unhide HB _ hbel
    by_cases hlt : i < M
    · obtain ⟨z, hz⟩ : ∃ z, l[i]? = some z := ⟨_, List.getElem?_eq_getElem (by have := unhide HM; omega)⟩
      obtain ⟨z0, z7, g, o', rfl, hc⟩ := unhide HL i z hz
      have c2 := hc _ hbw
      have q1 : (i : Int) < (M : Int) := by omega
      have q0 : (0 : Int) ≤ (i : Int) := by omega
      have hsn : Hid ((x : Int) :: (l.take (i + 1)).map (2 * ·) = ((x : Int) :: (l.take i).map (2 * ·)) ++ [2 * z]) := by
        unfold Hid; rw [List.take_add_one, hz]; simp
      have hlen : ((x : Int) :: (l.take i).map (2 * ·)).length ≤ 9 := by simp; omega
      generalize (x : Int) :: (l.take i).map (2 * ·) = cur at *
      have hsz := hbel.size
      clear hz hc
      go_wp2_with (at_builtin; refine wpList_append_own _ rfl (.tmp 29) (.tmp 32) 31 rfl w0.heap.size 3 i0 (.int .i64 0) 1 8 Tryz.underlying31 hi hz0 hz1 hz2 rfl (by decide) _ cur.length _ rfl (World.ownsRow.alloc hown _) ⟨wr.heap.size, 0, none⟩ 1 1 [_] rfl rfl (cell_one_new _ _ _) ?c2 ?c3 ?c4 ?c5 ?nx)
      case c2 => intro u hu; simp at hu; subst hu; rfl
      case c3 => unfold maxLen; omega
      case c4 => omega
      case c5 => simp; omega
      case nx =>
        intro v' w3 hown' hgrow _
        obtain ⟨R1, R2⟩ := ints_snoc (2 * z) hbel hown hown' hgrow
        clear hown' hgrow
        go_wp2_with fail
        go_roundw
        case rel => exact ⟨i + 1, by go_num, by omega, by rw [unhide hsn]; exact R1, R2⟩
        case measure => simp [intOf]; omega
    · have hie : i = M := by omega
      have e : l.take i = l := List.take_of_length_le (by have := unhide HM; omega)
      rw [e] at hown
      subst hie
      have hs0 := b0.size
      go_wp2_with fail
      go_ret
      exact ⟨_, rfl, hown.mono hs0, hbw⟩
end Go.Proofs.YtpgppnmobbgefaaGreatDoor

/- The contract of resolution: it calls itself. -/
namespace Go.Proofs.YtpgppnmobbgefaaGreatDoor
open Go.RowKit Go.Maps

set_option maxRecDepth 100000 in
set_option maxHeartbeats 4000000 in
theorem resolution_at {T : List Nd} (hw : Wd T) (hs : Sm T) : ∀ (x : Nat), x < 2 * nlv T - 1 → ∀ {w : World} {v : Value}, Trd w v T → Tab w →
    Calls Tryz.prog 167 #[.agg #[v], .int .i64 (x : Int)] w fun e w' => ∃ r, e = .returned r ∧ Ints w.heap.size w' r (rsl T x) ∧ Below w.heap.size w w' := by
  obtain ⟨g1, g2, g3, g4, g5⟩ := hw.facts
  refine node_ind g1 (fun x hx ho => ?_) (fun x hx ho i1 i2 => ?_)
  · cases hp : pos (ndAt T x)
    · intro w v h hT
      rw [rsl_leaf hp ho]
      obtain ⟨w0, hw0⟩ : ∃ w0, w0 = bxw w v := ⟨_, rfl⟩
      have b0 : Below w.heap.size w w0 := by rw [hw0]; exact bwA _ _
      have KB := blank_any (h.bw b0) (show x < T.length by omega)
      rw [hp] at KB
      have KL : ∀ W, Below w.heap.size w W → _ := fun W hW => left_any (x : Int) W (by omega) (hT.bw hW)
      have hlf : lfB (x : Nat) = false := by rw [(span_of g1 hx).2.2.2.2.2]; simp; omega
      rw [hlf] at KL
      have HW : Hid (w0 = w.alloc (.cells #[v] 24)) := hw0
      clear h hT hw0
      clear g1 g2 g3 g4 g5
      go_enter Tryz.func167, Tryz.ntmps167
      go_wp2_with fail
      rw [← unhide HW]
      refine KB.mono ?_
      rintro e w1 ⟨rfl, b1⟩
      have b2 := bw_tr b0 b1
      have KL2 := KL _ b2
      clear KL KB
      go_wp2_with fail
      refine KL2.mono ?_
      rintro e w1 ⟨rfl, rfl⟩
      go_wp2
      go_ret
      exact ⟨_, rfl, ints_nil _ _, b2⟩
    · intro w v h hT; exact resolution_pos hw hs x hx hp h
  · cases hp : pos (ndAt T x)
    · intro w v h hT
      rw [rsl_par g1 hx hp ho]
      obtain ⟨a1, a2, a3, a4, a5, a6, a7, a8, _⟩ := (span_of g1 hx).2.1 ho
      have hl1 := rsl_72 hw hs (show lN x < T.length by omega)
      have hl2 := rsl_72 hw hs (show rN x < T.length by omega)
      obtain ⟨w0, hw0⟩ : ∃ w0, w0 = bxw w v := ⟨_, rfl⟩
      have b0 : Below w.heap.size w w0 := by rw [hw0]; exact bwA _ _
      have KB := blank_any (h.bw b0) (show x < T.length by omega)
      rw [hp] at KB
      have KL : ∀ W, Below w.heap.size w W → _ := fun W hW => left_any (x : Int) W (by omega) (hT.bw hW)
      have KR : ∀ W, Below w.heap.size w W → _ := fun W hW => right_any (x : Int) W (by omega) (hT.bw hW)
      rw [a1, a3] at KL
      rw [a2, a4] at KR
      have HB : Hid (∀ W, Below w0.heap.size w0 W → W.cell? ⟨w.heap.size, 0, none⟩ = some v ∧ Below w.heap.size w W) := fun W hW => by subst hw0; exact ⟨bx_cell hW, bx_bel hW⟩
      have HC : Hid (∀ W, Below w.heap.size w W → Trd W v T ∧ Tab W) := fun W hW => ⟨h.bw hW, hT.bw hW⟩
      have HW : Hid (w0 = w.alloc (.cells #[v] 24)) := hw0
      clear h hT hw0
      clear g1 g2 g3 g4 g5
      have I1 : Hid (∀ W, Below w0.heap.size w0 W → Calls Tryz.prog 167 #[.agg #[v], .int .i64 (lN x : Nat)] W fun e w' => ∃ r, e = .returned r ∧ Ints W.heap.size w' r (rsl T (lN x)) ∧ Below W.heap.size W w') := fun W hW => i1 (unhide HC _ (unhide HB _ hW).2).1 (unhide HC _ (unhide HB _ hW).2).2
      have I2 : Hid (∀ W, Below w0.heap.size w0 W → Calls Tryz.prog 167 #[.agg #[v], .int .i64 (rN x : Nat)] W fun e w' => ∃ r, e = .returned r ∧ Ints W.heap.size w' r (rsl T (rN x)) ∧ Below W.heap.size W w') := fun W hW => i2 (unhide HC _ (unhide HB _ hW).2).1 (unhide HC _ (unhide HB _ hW).2).2
      generalize rsl T (lN x) = L1 at *
      generalize rsl T (rN x) = L2 at *
      generalize ((lN x : Nat) : Int) = y1 at *
      generalize ((rN x : Nat) : Int) = y2 at *
      clear i1 i2 a1 a2 a3 a4 a5 a6 a7 a8 HC hw hs
      go_enter Tryz.func167, Tryz.ntmps167
      go_wp2_with fail
      rw [← unhide HW]
      refine KB.mono ?_
      rintro e w1 ⟨rfl, b1⟩
      obtain ⟨c1, hbw⟩ := unhide HB _ b1
      have KL2 := KL _ hbw
      have KR2 := KR _ hbw
      clear KL KB KR
      go_wp2_with fail
      refine KL2.mono ?_
      rintro e w1 ⟨rfl, rfl⟩
      go_wp2_with fail
      refine KR2.mono ?_
      rintro e w1 ⟨rfl, rfl⟩
      clear KL2 KR2
      have HL12 : L1.length + L2.length ≤ 100000 := by omega
      clear hl1 hl2
      have bd : Below w0.heap.size w0 w1.drew := b1.drew
      have J1 := unhide I1 _ bd
      have S0 := (unhide HB _ bd).1
      have hs0 := b0.size
      go_wp2_with fail
      go_region_held3 (fun w' : World => w'.cell? ⟨w.heap.size, 0, none⟩ = some v) (first | with_reducible exact S0 | with_reducible exact S1 | with_reducible exact S2 | with_reducible exact S3) (first
        | (go_at_call_of 167 (Value.int IntKind.i64 y2); refine J2.mono ?_; rintro e z2 ⟨r2, rfl, R2', b3⟩; have b4 := bw_tr b2 b3; have S2 := (unhide HB _ b4).1; have R1 := R1'.bw b3; have R2 := R2'.nums; have hl12 := HL12; have hsz2 := b4.size)
        | (go_at_call_of 167 (Value.int IntKind.i64 y1); refine J1.mono ?_; rintro e z1 ⟨r1, rfl, R1'', b1'⟩; have b2 := bw_tr bd b1'; have R1' := R1''.mono bd.size; have S1 := (unhide HB _ b2).1; have J2 := unhide I2 _ b2)
        | (refine step_join rfl (.tmp 50) (.tmp 53) rfl w0.heap.size r1 r2 L1 L2 (by simp [Act.eval]) R1 (by simp [Act.eval]) R2 hl12 hsz2 ?_; intro r3 z3 R3 hg3 _; have b5 := (b4.grown hg3 (by exact b4.size) (fun k hk => (World.ownsRow.lt R1 k hk).1)); have S3 := (unhide HB _ b5).1))
      all_goals
        go_wp2_with fail
        go_ret
        exact ⟨_, rfl, R3.mono hs0, bw_tr b0 b5⟩
    · intro w v h hT; exact resolution_pos hw hs x hx hp h
end Go.Proofs.YtpgppnmobbgefaaGreatDoor
