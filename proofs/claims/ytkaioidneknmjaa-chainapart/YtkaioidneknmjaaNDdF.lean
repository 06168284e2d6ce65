/- Contracts of Has, Learn and Clone of package deduce. -/
import Derived.Test.YtkaioidneknmjaaNDdE
namespace Go.Proofs.Ytkaioidneknmjaa.Tn
open Go.RowKit Go.Maps

/-- Does a term follow? -/
noncomputable def hasB (L : List Tm) (K : Nat → Prop) (x : Int) : Bool := @decide (1 ≤ x ∧ Fol L K x.toNat) (Classical.propDecidable _)
theorem hasB_iff {L : List Tm} {K : Nat → Prop} {x : Int} : hasB L K x = true ↔ 1 ≤ x ∧ Fol L K x.toNat := by
  unfold hasB; exact @decide_eq_true_iff _ (Classical.propDecidable _)
theorem hasB_nat {L : List Tm} {K : Nat → Prop} (hG : Good L) {m : Nat} : hasB L K (m : Int) = true ↔ Fol L K m := by
  rw [hasB_iff, Int.toNat_natCast]
  exact ⟨fun h => h.2, fun h => ⟨by have := h.rng hG; omega, h⟩⟩
theorem hasB_out {L : List Tm} {K : Nat → Prop} (hG : Good L) {x : Int} (h : thr L.length x = false) : hasB L K x = false := by
  cases e : hasB L K x
  · rfl
  · obtain ⟨h1, h2⟩ := hasB_iff.1 e
    have := h2.rng hG
    exact absurd (by omega : 1 ≤ x ∧ x ≤ (L.length : Int)) (thr_false.1 h)

set_option maxRecDepth 100000 in
set_option maxHeartbeats 4000000 in
theorem kHas_any (kb b : Nat) (sv : Value) (mb : Nat) (L : List Tm) (K : Nat → Prop) (Z : List Nat) (x : Int) (w : World) (h : KS w kb b L K Z) (hS : St w b sv mb L) (hd : ∀ y ∈ Z, y ∉ foot b sv mb) :
    Calls Try.prog 16 #[.pointer (some ⟨kb, 0, none⟩), .int .i64 x] w fun e w' => e = .returned (.bool (hasB L K x)) ∧ ∃ Z', KS w' kb b L K Z' ∧ Mv w w' Z Z' := by
  obtain ⟨fv, tv, lv, F, fs, ls, rfl, hK, hl, hs⟩ := h
  obtain ⟨c0, _, _, _, _⟩ := hK.cells
  have K0 := kmissing_any kb _ w c0
  have KG := get_any b sv mb L x w hS
  have hG := hS.good
  cases hx : thr L.length x
  · have e : hasB L K x = false := hasB_out hG hx
    rw [e]
    rw [hx] at KG
    have HE : Hid (∀ W, Below w.heap.size w W → ∃ Z', KS W kb b L K Z' ∧ Mv w W (kfoot kb fv tv lv) Z') := fun W hW => ⟨_, ⟨fv, tv, lv, F, fs, ls, rfl, hK.bw hW, hl, hs⟩, Mv.same _ hW⟩
    clear e hx hG hS hd hK hl hs
    generalize getT L x = t at *
    go_enter Try.func16, Try.ntmps16
    go_wp2_with fail
    refine K0.mono ?_
    rintro e w ⟨rfl, rfl⟩
    go_wp2_with fail
    refine KG.mono ?_
    rintro e w1 ⟨rfl, b1⟩
    have b2 := b1.alloc b1.size (.cells #[.int .u8 t.kd, .int .i64 t.n, .int .i64 t.a, .int .i64 t.b] 40)
    go_wp2_with fail
    go_ret
    exact ⟨rfl, unhide HE _ b2⟩
  · rw [hx] at KG
    obtain ⟨m, rfl⟩ : ∃ m : Nat, x = m := ⟨x.toNat, by have := thr_iff.1 hx; omega⟩
    have hm := thr_iff.1 hx
    have HI := hide (And.intro hK (And.intro hl (And.intro hs (And.intro hS (And.intro hd (And.intro hG hm))))))
    obtain ⟨rb, hrb⟩ : ∃ rb, rb = hasB L K (m : Int) := ⟨_, rfl⟩
    rw [← hrb]
    have HRB := hide hrb
    clear hx hG hS hd hK hl hs hm hrb
    generalize getT L (m : Int) = t at *
    go_enter Try.func16, Try.ntmps16
    go_wp2_with fail
    refine K0.mono ?_
    rintro e w ⟨rfl, rfl⟩
    go_wp2_with fail
    refine KG.mono ?_
    rintro e w1 ⟨rfl, b1⟩
    have b2 := b1.alloc b1.size (.cells #[.int .u8 t.kd, .int .i64 t.n, .int .i64 t.a, .int .i64 t.b] 40)
    obtain ⟨hK, hl, hs, hS, hd, hG, hm⟩ := unhide HI
    have KR := read_any kb fv tv lv b F fs ls sv mb L K _ (hK.bw b2) hl hs (hS.bw b2) hd
    have HB := hide b2
    clear K0 KG hK hl hs hS hd hG hm b1 b2 c0
    go_wp2_with fail
    refine KR.mono ?_
    rintro e w2 ⟨rfl, fv2, tv2, lv2, F2, fs2, ls2, k2, l2, s2, n2⟩
    obtain ⟨hK, hl, hs, hS, hd, hG, hm⟩ := unhide HI
    obtain ⟨_, d1, _, _, _⟩ := k2.kn.cells
    obtain ⟨g, cap, hfv, _, hmk, _⟩ := k2.kn.marks l2.zero.lt
    have mm := hmk m (by omega)
    have eb : onB F2 m = hasB L K (m : Int) := by
      rw [Bool.eq_iff_iff, onB_iff, hasB_nat hG]
      exact s2.tells hG n2 l2.zero (by omega)
    rw [eb, ← unhide HRB] at mm
    rw [hfv, n2] at d1
    have hmb : (m : Int) < ((L.length + 1 : Nat) : Int) := by omega
    have hLb : ((L.length + 1 : Nat) : Int) ≤ 1048577 := by have := hS.len; omega
    have HE : Hid (∃ Z', KS w2 kb b L K Z' ∧ Mv w w2 (kfoot kb fv tv lv) Z') := ⟨_, ⟨fv2, tv2, lv2, F2, fs2, ls2, rfl, k2.kn, l2, s2⟩, k2.mv.before (unhide HB)⟩
    clear KR hK hl hs hS hd hG hm k2 l2 s2 n2 hfv hmk eb HI HB
    generalize L.length + 1 = N at *
    go_wp2_with fail
    go_ret
    exact ⟨rfl, unhide HE⟩

theorem mul_bound {M n : Nat} (hM : M ≤ 3145731) (hn : n ≤ 1048577) : (2 * M + 3) * n ≤ 7000000000000 :=
  Nat.le_trans (Nat.mul_le_mul (show 2 * M + 3 ≤ 6291465 by omega) hn) (by decide)
theorem Lk.cap {L : List Tm} {F : List Bool} {fs : List Nat} {ls : List (Nat × Nat)} (h : Lk L F fs ls none2 0) (hL : L.length ≤ 1048576) : (2 * ls.length + 3) * nf F ≤ 7000000000000 := by
  have h1 := h.lenF
  have h2 := h.lenl
  have h3 := nf_le F
  exact mul_bound (by omega) (by omega)
/-- Behind a learning: what is known. -/
theorem Le.done {w W : World} {kb b : Nat} {sv : Value} {mb : Nat} {L : List Tm} {fv tv lv v0 v : Value} {l : List Nat} {F : List Bool} {fs : List Nat} {ls : List (Nat × Nat)} {K : Nat → Prop} (h : Le w W kb b sv mb L fv tv lv v0 v l F fs ls) (hl : Lk L F fs ls none2 0) (hs : Sm L K F [] none1) : KS W kb b L K (kfoot kb fv tv lv) := ⟨fv, tv, lv, F, fs, ls, rfl, h.kn, hl, hs⟩

end Go.Proofs.Ytkaioidneknmjaa.Tn
