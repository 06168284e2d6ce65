/- DiskCut: for every number and all ops, the law answers true: a cut lets just so many writes and syncs be done, and the next one finds it down. No condition (the law itself claims nothing of more than 2^18 ops). -/
import Derived.Test.YtimhjheigejjmaaDkEnvB
namespace Go.Proofs.Ytimhjheigejjmaa
open Go.ChangeShapes Go.WideShapes Go.ChangeAt Go.RowKit Go.Joins Go.Maps

theorem and3 (a : Int) : ∃ k : Nat, k < 4 ∧ Go.bits BinOp.and IntKind.i64 a 3 = (k : Int) := by
  refine ⟨(BitVec.ofInt 64 a).toNat % 4, Nat.mod_lt _ (by decide), ?_⟩
  have h : Go.bits BinOp.and IntKind.i64 a 3 = IntKind.i64.wrap ((BitVec.ofInt 64 a &&& BitVec.ofInt 64 3).toNat : Int) := rfl
  have e : (BitVec.ofInt 64 3).toNat = 2 ^ 2 - 1 := by decide
  rw [h, BitVec.toNat_and, e, Nat.and_two_pow_sub_one_eq_mod]
  simp only [IntKind.wrap, IntKind.bits, IntKind.signed]
  have : (BitVec.ofInt 64 a).toNat % 2 ^ 2 < 4 := Nat.mod_lt _ (by decide)
  generalize (BitVec.ofInt 64 a).toNat % 2 ^ 2 = r at *
  simp
  omega
structure CutInv (n q : Nat) (S : DS) : Prop where
  N : S.N = 4
  cnt : S.cnt = q
  le : q ≤ n
  cut : S.up = true → S.cut = some (n - q, 0)
  down : S.up = false → q = n
  len : S.since.length ≤ q
theorem cut_step {n q : Nat} {S : DS} (h : CutInv n q S) (f : DS → DS) (f1 : ∀ T : DS, (f T).N = T.N) (f2 : ∀ T : DS, (f T).up = T.up) (f3 : ∀ T : DS, (f T).cut = T.cut) (f4 : ∀ T : DS, (f T).cnt = T.cnt) (f5 : ∀ T : DS, (f T).since.length ≤ T.since.length + 1) {r : DS × Int} (hr : r = if S.up = false then (S, 6) else S.come f) :
    (q < n ∧ r.2 = 0 ∧ r.1.up = true ∧ CutInv n (q + 1) r.1) ∨ (¬ q < n ∧ r.2 = 6 ∧ r.1.up = false ∧ CutInv n q r.1) := by
  cases hu : S.up
  · rw [hu, if_pos rfl] at hr
    subst hr
    have := h.down hu
    exact Or.inr ⟨by omega, rfl, hu, h⟩
  · have hc := h.cut hu
    rw [hu, if_neg (by simp)] at hr
    by_cases hq : q < n
    · obtain ⟨m, hm⟩ : ∃ m, n - q = m + 1 := ⟨n - q - 1, by omega⟩
      rw [hm] at hc
      have e : S.come f = ((f { S with cut := some (m, 0) }).did, 0) := by simp [DS.come, hc]
      rw [e] at hr
      subst hr
      refine Or.inl ⟨hq, rfl, by simp only [DS.did, f2]; exact hu, ⟨by simp only [DS.did, f1]; exact h.N, by simp only [DS.did, f4]; rw [h.cnt], by omega, fun _ => ?_, fun c => ?_, ?_⟩⟩
      · simp only [DS.did, f3]
        have : m = n - (q + 1) := by omega
        rw [this]
      · simp only [DS.did, f2] at c; rw [hu] at c; cases c
      · have := f5 { S with cut := some (m, 0) }
        have := h.len
        simp only [DS.did] at *
        omega
    · have hn : n - q = 0 := by omega
      rw [hn] at hc
      have e : S.come f = (S.fall 0, 6) := by simp [DS.come, hc]
      rw [e] at hr
      subst hr
      exact Or.inr ⟨hq, rfl, rfl, ⟨h.N, h.cnt, h.le, (fun c => by cases c), (fun _ => by have := h.le; omega), by simp [DS.fall]⟩⟩
theorem cut_sync {n q : Nat} {S : DS} (h : CutInv n q S) : (q < n ∧ S.sync.2 = 0 ∧ S.sync.1.up = true ∧ CutInv n (q + 1) S.sync.1) ∨ (¬ q < n ∧ S.sync.2 = 6 ∧ S.sync.1.up = false ∧ CutInv n q S.sync.1) :=
  cut_step h DS.settle (fun _ => rfl) (fun _ => rfl) (fun _ => rfl) (fun _ => rfl) (fun _ => by simp [DS.settle]) rfl
theorem cut_write {n q : Nat} {S : DS} (h : CutInv n q S) {k : Nat} (hk : k < 4) {s : ByteArray} (hs : s.size = 64) : (q < n ∧ (S.write (k : Int) s).2 = 0 ∧ (S.write (k : Int) s).1.up = true ∧ CutInv n (q + 1) (S.write (k : Int) s).1) ∨ (¬ q < n ∧ (S.write (k : Int) s).2 = 6 ∧ (S.write (k : Int) s).1.up = false ∧ CutInv n q (S.write (k : Int) s).1) := by
  refine cut_step h (fun T => T.put k s) (fun _ => rfl) (fun _ => rfl) (fun _ => rfl) (fun _ => rfl) (fun _ => by simp [DS.put]) ?_
  unfold DS.write
  split
  · rfl
  · have : ¬ ((k : Int) < 0 ∨ (S.N : Int) ≤ (k : Int) ∨ s.size ≠ 64) := by rw [h.N]; omega
    rw [if_neg this]
    rfl
def EC (w W : World) (d n q : Nat) : Prop := ∃ S, ED w W d S [] ∧ CutInv n q S
theorem EC.drew {w W : World} {d n q : Nat} (h : EC w W d n q) : EC w W.drew d n q := by obtain ⟨S, h1, h2⟩ := h; exact ⟨S, h1.drew, h2⟩
theorem EC.new {w W W1 : World} {d n q : Nat} (h : EC w W d n q) (hb : Below W.heap.size W W1) : EC w W1 d n q := by obtain ⟨S, h1, h2⟩ := h; exact ⟨S, h1.new hb, h2⟩
theorem EC.bel {w W : World} {d n q : Nat} (h : EC w W d n q) : Below w.heap.size w W := by obtain ⟨S, h1, h2⟩ := h; exact h1.bel
/-- What stands behind a write or a sync that comes. -/
def Came (w W : World) (d n q : Nat) (e : Int) : Prop := (q < n ∧ e = 0 ∧ EC w W d n (q + 1) ∧ Calls Try.prog 14 #[.pointer (some ⟨d, 0, none⟩)] W fun e W' => e = .returned (.bool true) ∧ W' = W) ∨ (¬ q < n ∧ e = 6 ∧ EC w W d n q ∧ Calls Try.prog 14 #[.pointer (some ⟨d, 0, none⟩)] W fun e W' => e = .returned (.bool false) ∧ W' = W)
theorem Came.bel {w W : World} {d n q : Nat} {e : Int} (h : Came w W d n q e) : Below w.heap.size w W := by
  rcases h with ⟨_, _, h, _⟩ | ⟨_, _, h, _⟩ <;> exact h.bel
theorem came_of {w W : World} {d n q : Nat} {r : DS × Int} (hE : ED w W d r.1 []) (h : (q < n ∧ r.2 = 0 ∧ r.1.up = true ∧ CutInv n (q + 1) r.1) ∨ (¬ q < n ∧ r.2 = 6 ∧ r.1.up = false ∧ CutInv n q r.1)) : Came w W d n q r.2 := by
  have KU := hE.up
  rcases h with ⟨h1, h2, h3, h4⟩ | ⟨h1, h2, h3, h4⟩
  · rw [h3] at KU; exact Or.inl ⟨h1, h2, ⟨_, hE, h4⟩, KU⟩
  · rw [h3] at KU; exact Or.inr ⟨h1, h2, ⟨_, hE, h4⟩, KU⟩
theorem EC.sync {w W : World} {d n q : Nat} (h : EC w W d n q) (hq : q ≤ 262144) : Calls Try.prog 19 #[.pointer (some ⟨d, 0, none⟩)] W fun e W' => ∃ x, e = .returned (.int .i64 x) ∧ Came w W' d n q x := by
  obtain ⟨S, h1, h2⟩ := h
  refine (h1.sync (by rw [h2.cnt]; omega)).mono ?_
  rintro e W' ⟨rfl, hE⟩
  exact ⟨_, rfl, came_of hE (cut_sync h2)⟩
theorem EC.write {w W : World} {d n q : Nat} (h : EC w W d n q) (hq : q ≤ 262144) {k : Nat} (hk : k < 4) {s : ByteArray} (hs : s.size = 64) : Calls Try.prog 18 #[.pointer (some ⟨d, 0, none⟩), .int .i64 (k : Int), .string s] W fun e W' => ∃ x, e = .returned (.int .i64 x) ∧ Came w W' d n q x := by
  obtain ⟨S, h1, h2⟩ := h
  refine (h1.write (by rw [h2.cnt]; omega) (by have := h2.len; omega) (k : Int) s (by omega)).mono ?_
  rintro e W' ⟨rfl, hE⟩
  exact ⟨_, rfl, came_of hE (cut_write h2 hk hs)⟩
theorem EC.count {w W : World} {d n q : Nat} (h : EC w W d n q) : Calls Try.prog 15 #[.pointer (some ⟨d, 0, none⟩)] W fun e W' => e = .returned (.int .i64 (q : Int)) ∧ W' = W := by
  obtain ⟨S, h1, h2⟩ := h
  have := h1.count
  rw [h2.cnt] at this
  exact this
theorem fil64 (b : Int) : (fil b 64).size = 64 := fil_size b 64
set_option maxRecDepth 100000 in
set_option maxHeartbeats 8000000 in
theorem DiskCut_walk (w : World) (n : Int) (hn1 : -9223372036854775808 ≤ n) (hn2 : n ≤ 9223372036854775807) (a1 : Option Addr) (cap1 : Nat) (l1 : List OpR) (h1 : OpsAt w a1 l1) :
    Calls Try.prog 6 #[.int .i64 n, .slice a1 l1.length cap1] w fun e w' => e = .returned (.bool true) ∧ Below w.heap.size w w' := by
  have hl1 := h1.len
  have HW := hide h1
  clear h1
  obtain ⟨M1, hM1⟩ : ∃ M, M = l1.length := ⟨_, rfl⟩
  rw [← hM1] at hl1 ⊢
  have HM := hide hM1
  clear hM1
  have K := ED.start (Env.nil w) 4 (by omega) (by omega)
  have HNN := hide (And.intro hn1 hn2)
  clear hn1 hn2
  go_enter Try.func6, Try.ntmps6
  go_wp2_with fail
  refine K.mono ?_
  rintro e w1 ⟨d, rfl, E1⟩
  clear K
  have E2 := hide (E1.new (bw_alloc w1 (.cells #[.int .i64 (M1 : Int)] 3)))
  have hc := cell_one5 w1 (.int .i64 (M1 : Int)) 3
  have KB := beyond_one w1.heap.size M1 1 (w1.alloc (.cells #[.int .i64 (M1 : Int)] 3)) (by omega) hc
  clear E1 hc
  by_cases big : 262144 < M1
  · rw [decide_eq_true big] at KB
    clear big
    go_wp2_with fail
    refine KB.mono ?_
    rintro e w2 ⟨rfl, rfl⟩
    have hbb := (unhide E2).bel
    go_wp2_with fail
    go_ret
    exact ⟨rfl, hbb⟩
  rw [decide_eq_false big] at KB
  have HB := hide big
  clear big
  go_wp2_with fail
  refine KB.mono ?_
  rintro e w2 ⟨rfl, rfl⟩
  clear KB
  generalize w1.alloc _ = w2 at *
  have KC := (unhide E2).cut n 0 (unhide HNN).2
  by_cases hneg : n < 0
  · have e1 : (DS.new 4).doCut n 0 = (DS.new 4, 1) := by simp [DS.doCut, DS.new, hneg]
    rw [e1] at KC
    clear e1
    go_wp2_with fail
    refine KC.mono ?_
    rintro e w3 ⟨rfl, E3⟩
    have HE3 := hide E3
    clear E3 KC
    go_wp2_with fail
    refine (alive5_any _).mono ?_
    rintro e w9 ⟨rfl, hb9⟩
    have hbb := bw_tr (unhide HE3).bel hb9
    go_wp2_with fail
    go_ret
    exact ⟨rfl, hbb⟩
  obtain ⟨m, rfl⟩ : ∃ m : Nat, n = (m : Int) := ⟨n.toNat, by omega⟩
  have e1 : (DS.new 4).doCut (m : Int) 0 = ({ DS.new 4 with cut := some (m, 0) }, 0) := by simp [DS.doCut, DS.new, hneg]
  rw [e1] at KC
  have hmn : ¬ ((m : Int) < 0) := by omega
  clear e1 hneg
  go_wp2_with fail
  refine KC.mono ?_
  rintro e w3 ⟨rfl, E3⟩
  have HE3 : Hid (EC w w3 d m 0) := ⟨_, E3, ⟨rfl, rfl, by omega, fun _ => rfl, fun c => by simp [DS.new] at c, by simp [DS.new]⟩⟩
  clear E3 KC E2
  go_wp2_with fail
  go_loopw [8, 9] (fun dv iv wr => ∃ i q : Nat, i ≤ M1 ∧ iv = .int .i64 (i : Int) ∧ dv = .int .i64 (q : Int) ∧ q ≤ i ∧ Hid (EC w wr d m q)) (fun _ iv _ => (M1 - intOf iv).toNat)
  case atStart => exact ⟨0, 0, by omega, rfl, rfl, by omega, HE3⟩
  case round =>
    clear HE3
    obtain ⟨i, q, hi, rfl, rfl, hq, HR⟩ := hrel
    by_cases hgo : i < M1
    · obtain ⟨x, hx⟩ : ∃ x, l1[i]? = some x := ⟨_, List.getElem?_eq_getElem (by have := unhide HM; omega)⟩
      obtain ⟨b, off, rfl, hc⟩ := (unhide HW).get hx
      have hok := (unhide HW).fit x (List.mem_of_getElem? hx)
      obtain ⟨xk, xa, xb, xm, xi⟩ := x
      have HC : Hid (∀ W, Below w.heap.size w W → W.cell? ⟨b, off + i * 5, none⟩ = some (.int .i64 xk) ∧ W.cell? ⟨b, off + i * 5 + 1, none⟩ = some (.int .i64 xa) ∧ W.cell? ⟨b, off + i * 5 + 2, none⟩ = some (.int .u8 xb)) := fun W hW => ⟨(hc W hW).1, (hc W hW).2.1, (hc W hW).2.2.1⟩
      obtain ⟨z0, z1, z2⟩ := unhide HC wr (unhide HR).bel
      obtain ⟨y0, y1, y2⟩ := unhide HC wr.drew (unhide HR).drew.bel
      have KF : Hid (∀ W : World, Calls Try.prog 25 #[.int .u8 xb, .int .i64 0] W fun e w' => e = .returned (.string (fil xb 64)) ∧ Below W.heap.size W w') := fun W => by have := filled_any xb 0 hok.b1 hok.b2 W; rw [fln_zero] at this; exact this
      obtain ⟨k3, hk3, ha3⟩ := and3 xa
      have HQ : Hid (q ≤ 262144) := by have := unhide HB; unfold Hid; omega
      have HK3 := hide hk3
      have hi1 : (i : Int) < (M1 : Int) := by omega
      clear hx hc hok hk3
      by_cases hk1 : xk = 1
      · subst hk1
        have KS := (unhide HR).sync (unhide HQ)
        clear HR
        go_wp2_with fail
        refine KS.mono ?_
        rintro e w5 ⟨x, rfl, hx⟩
        clear KS z0 z1 z2 y0 y1 y2
        rcases hx with ⟨c1, rfl, hE, KU⟩ | ⟨c1, rfl, hE, KU⟩
        · have HE := hide hE
          have c2 : (q : Int) < (m : Int) := by omega
          clear hE c1
          go_wp2_with fail
          refine KU.mono ?_
          rintro e w6 ⟨rfl, rfl⟩
          clear KU
          go_wp2_with fail
          go_roundw
          case rel => exact ⟨i + 1, q + 1, by omega, by go_num, by go_num, by omega, HE⟩
          case measure => simp only [intOf]; omega
        · have HE := hide hE
          have c2 : ¬ ((q : Int) < (m : Int)) := by omega
          clear hE c1
          go_wp2_with fail
          refine KU.mono ?_
          rintro e w6 ⟨rfl, rfl⟩
          clear KU
          go_wp2_with fail
          go_roundw
          case rel => exact ⟨i + 1, q, by omega, by go_num, rfl, by omega, HE⟩
          case measure => simp only [intOf]; omega
      · have KW : Hid (∀ W, EC w W d m q → Calls Try.prog 18 #[.pointer (some ⟨d, 0, none⟩), .int .i64 (k3 : Int), .string (fil xb 64)] W fun e W' => ∃ x, e = .returned (.int .i64 x) ∧ Came w W' d m q x) := fun W hW => hW.write (unhide HQ) (unhide HK3) (fil64 xb)
        have HRd := hide (unhide HR).drew
        have hk2 : (xk == 1) = false := by simp [hk1]
        have hk4 : decide (xk = 1) = false := by simp [hk1]
        clear HR
        generalize fil xb 64 = sf at *
        go_wp2_with fail
        go_region_held3 (fun w' : World => w'.cell? ⟨b, off + i * 5 + 1, none⟩ = some (.int .i64 xa) ∧ w'.cell? ⟨b, off + i * 5 + 2, none⟩ = some (.int .u8 xb)) (first | exact ⟨z1, z2⟩ | exact ⟨y1, y2⟩ | exact ⟨x1, x2⟩ | exact ⟨v1, v2⟩) (first
          | (go_at_call 18; with_reducible refine (unhide KW _ EA).mono ?_; rintro e w5 ⟨x, rfl, hx⟩; obtain ⟨_, v1, v2⟩ := unhide HC w5 hx.bel)
          | (go_at_call 25; with_reducible refine (unhide KF _).mono ?_; rintro e wA ⟨rfl, b1⟩; have EA := (unhide HRd).new b1; clear b1; obtain ⟨_, x1, x2⟩ := unhide HC wA EA.bel))
        all_goals
          clear KW EA v1 v2 x1 x2 z0 z1 z2 y0 y1 y2
          rcases hx with ⟨c1, rfl, hE, KU⟩ | ⟨c1, rfl, hE, KU⟩
          · have HE := hide hE
            have c2 : (q : Int) < (m : Int) := by omega
            clear hE c1
            go_wp2_with fail
            refine KU.mono ?_
            rintro e w6 ⟨rfl, rfl⟩
            clear KU
            go_wp2_with fail
            go_roundw
            case rel => exact ⟨i + 1, q + 1, by omega, by go_num, by go_num, by omega, HE⟩
            case measure => simp only [intOf]; omega
          · have HE := hide hE
            have c2 : ¬ ((q : Int) < (m : Int)) := by omega
            clear hE c1
            go_wp2_with fail
            refine KU.mono ?_
            rintro e w6 ⟨rfl, rfl⟩
            clear KU
            go_wp2_with fail
            go_roundw
            case rel => exact ⟨i + 1, q, by omega, by go_num, rfl, by omega, HE⟩
            case measure => simp only [intOf]; omega
    · obtain rfl : i = M1 := by omega
      have KN := (unhide HR).count
      go_wp2_with fail
      refine KN.mono ?_
      rintro e w5 ⟨rfl, rfl⟩
      clear KN
      go_wp2_with fail
      refine (alive5_any _).mono ?_
      rintro e w9 ⟨rfl, hb9⟩
      have hbb := bw_tr (unhide HR).bel hb9
      go_wp2_with fail
      go_ret
      exact ⟨rfl, hbb⟩

set_option maxRecDepth 100000 in
theorem DiskCut_lifted (os : Os) (started : os.Started) (H : Type) (enc : TypeId × Value → H) :
    ReturnsInHanded {} Try.checked os 6 .any (Rows.diskCutSpec.pre6 enc Try.prog Try.f6 Rows.diskCutRow.domain false) (Rows.diskCutSpec.post enc Try.prog Try.f6 false true false false) := by
  refine returnsInHanded_of_change_sized (C := Try.checked) own started (by kernel_rfl) Try.func6
    (ChangeSpec.witness6 (enc := enc) (C := Try.checked) false ⟨#[], #[.int .i64 0, .slice none 0 0], []⟩ 8 (by kernel_rfl) (by kernel_rfl) (by kernel_rfl) (by kernel_rfl)) ?_
  intro W base args ds gs before hval0 hW hcnd hsz0 _
  have hval : ∀ (j : Nat) t v, Try.f6.params[j]? = some t → args[j]? = some v → Value.okWide Try.prog W .any base t v := hval0
  have hsz : (DataW.weightsEach Try.prog (Try.f6.params.toList ++ Rows.diskCutSpec.plain.varTypes Try.prog) (ds ++ gs)).all (· ≤ reachBytes) = true := hsz0
  have hW' := hW
  obtain ⟨p, q, hA0, hV, rfl, hfz, hnd⟩ := hW
  have hA : DataW.TrodAll enc Try.prog W 0 (fun _ => true) true Try.f6.params.toList args.toList ds p := hA0
  rw [Try.params6] at hA hval hsz
  obtain ⟨v0, vs0, d0, ds0, p0, q0, hargs, rfl, rfl, h0, r0⟩ := trodAll_cons hA
  obtain ⟨v1, vs1, d1, ds1, p1, q1, rfl, rfl, rfl, h1, r1⟩ := trodAll_cons r0
  obtain ⟨rfl, rfl, rfl⟩ := trodAll_nil r1
  obtain rfl : args = #[v0, v1] := by cases args; simp_all
  obtain ⟨rfl, rfl⟩ := trodVars_none hV
  obtain ⟨a0, rfl, rfl, rfl, w0⟩ := open_int Try.underlying3 (hval 0 3 v0 rfl rfl) h0
  have k1 := h1
  have lt1 : ∀ x ∈ p1, x.block < W.heap.size := by obtain ⟨m, hm⟩ := k1; exact DataW.trod_lt m _ _ _ hm
  obtain ⟨a1, len1, cap1, rfl⟩ := okWide_slice Try.underlying22 (hval 1 22 v1 rfl rfl)
  obtain ⟨l1, rfl, i1⟩ := open_ops h1 (fun n hn => by simpa using List.all_eq_true.1 hsz n (DataW.weights_mem_each (j := 1) (t := 22) rfl rfl n hn))
  clear hA0 hval0
  refine (DiskCut_walk W a0 (bounds64 w0).1 (bounds64 w0).2 a1 cap1 l1 i1).mono fun e W' ⟨he, bel⟩ => ?_
  subst he
  exact ⟨_, rfl, _, _, _, [], _, [], hW', trodAll_mk1 (shut_bool Try.underlying4 _), (trodAll_cons_mk (shut_int Try.underlying3 w0) (trodAll_cons_mk (Below.trod laidOut (by kernel_rfl) (of_decide_eq_true (by kernel_rfl)) k1 bel lt1) trodAll_mk0)), rfl, bel.frame _, fun h => by cases h⟩

theorem DiskCut_over : Rows.diskCutRow.holds Try.pinned (OpenSpec.ofChange Rows.diskCutSpec) :=
  OpenClaim.holds_of_wide 6 Try.f6 rfl rfl rfl rfl rfl rfl rfl ⟨rfl, rfl, rfl, rfl, rfl⟩ rfl rfl rfl rfl rfl (by kernel_rfl) Try.func6 (by kernel_rfl)
    (of_decide_eq_true (by kernel_rfl)) (by unfold Func.isWrapper; first | (rw [if_pos (by decide +kernel)]; kernel_rfl) | (rw [if_neg (by decide +kernel)]; exact ⟨rfl, rfl⟩))
    (fun os started H enc _ => DiskCut_lifted os started H enc)

theorem DiskCut_holds : Rows.DiskCutSaid := DiskCut_over
#print axioms DiskCut_holds

end Go.Proofs.Ytimhjheigejjmaa
