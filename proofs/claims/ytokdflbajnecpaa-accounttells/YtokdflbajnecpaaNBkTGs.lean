/- The contract of the document's Get. -/
import Derived.Test.YtokdflbajnecpaaNTmBuild
namespace Go.Proofs.Ytokdflbajnecpaa.Tn
open Go.RowKit Go.Maps

set_option maxRecDepth 100000 in
set_option maxHeartbeats 4000000 in
theorem rget_any (b : Nat) (sv : Value) (L : List Tm) (x : Int) (w : World) (h : Rs w b sv L) :
    Calls Try.prog 36 #[.pointer (some ⟨b, 0, none⟩), .int .i64 x] w fun e w' => e = .returned (.tuple #[.agg #[.int .u8 (getT L x).kd, .int .i64 (getT L x).n, .int .i64 (getT L x).a, .int .i64 (getT L x).b], .bool (thr L.length x)]) ∧ Below w.heap.size w w' := by
  have K := there_any b sv L x _ (h.bw ((Below.refl w.heap.size w).alloc (Nat.le_refl _) (.cells #[.int .u8 0, .int .i64 0, .int .i64 0, .int .i64 0] 55)))
  cases ht : thr L.length x
  · have e : getT L x = ⟨0, 0, 0, 0⟩ := by simp [getT, ht]
    rw [e]
    rw [ht] at K
    clear e ht h
    go_enter Try.func36, Try.ntmps36
    go_wp2_with fail
    refine K.mono ?_
    rintro e w1 ⟨rfl, rfl⟩
    go_wp2
    exact bodyPost_ret (v := .tuple #[.agg #[.int .u8 0, .int .i64 0, .int .i64 0, .int .i64 0], .bool false]) (by simp [results, Try.results36, go_sem]) rfl ⟨rfl, (Below.refl _ _).alloc (Nat.le_refl _) _⟩
  · rw [ht] at K
    obtain ⟨i, t, rfl, hi, hlt, e⟩ := thr_open ht
    rw [e]
    have hl := h.len
    obtain ⟨c0, _⟩ := h.cells
    have hbw := lt_of_blk h.blk
    obtain ⟨g, cap, rfl, hg, t0, t1, t2, t3⟩ : ∃ g cap, sv = .slice (some ⟨g, 0, none⟩) L.length cap ∧ g < w.heap.size ∧ TAt w g (i * 4) t := by
      rcases h.row.form with ⟨_, rfl⟩ | ⟨g, cap, hv, _, hg, _⟩
      · simp at hlt
      · exact ⟨g, cap, hv, hg, h.row.at (by rw [hv]; rfl) hi⟩
    have hlt' : (i : Int) < (L.length : Int) := by omega
    clear e ht h hi
    generalize L.length = N at *
    go_enter Try.func36, Try.ntmps36
    go_wp2_with fail
    refine K.mono ?_
    rintro e w1 ⟨rfl, rfl⟩
    go_wp2
    exact bodyPost_ret (v := .tuple #[.agg #[.int .u8 t.kd, .int .i64 t.n, .int .i64 t.a, .int .i64 t.b], .bool true]) (by simp [results, Try.results36, go_sem]) rfl ⟨rfl, (Below.refl _ _).alloc (Nat.le_refl _) _⟩

end Go.Proofs.Ytokdflbajnecpaa.Tn
