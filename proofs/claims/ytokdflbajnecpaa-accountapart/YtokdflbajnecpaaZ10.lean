/- Texts joined: AcS AcM. -/
import Derived.Test.YtokdflbajnecpaaZ08
import Derived.Test.YtokdflbajnecpaaZ07
/- The document's Digest. -/
namespace Go.Proofs.Ytokdflbajnecpaa.Tn.Ax
open Go.RowKit Go.Maps
end Go.Proofs.Ytokdflbajnecpaa.Tn.Ax

/- SameNumbers of any two lists. -/
namespace Go.Proofs.Ytokdflbajnecpaa.Tn.Ax
open Go.RowKit Go.Maps
theorem nis_get {w : World} {a : Option Addr} {n cap : Nat} {l : List Int} (h : NIs w (.slice a n cap) l) {i : Nat} {z : Int} (hi : l[i]? = some z) : ∃ g o, a = some ⟨g, o, none⟩ ∧ w.cell? ⟨g, o + i, none⟩ = some (.int .i64 z) := by
  obtain ⟨a', cap', hv, -, -, hc⟩ := h
  cases hv
  rcases hc with hc | ⟨g, o, rfl, hc⟩
  · rw [hc] at hi; simp at hi
  · exact ⟨g, o, rfl, hc i z hi⟩
set_option maxRecDepth 100000 in
set_option maxHeartbeats 4000000 in
theorem snums_any (va vb : Value) (la lb : List Int) (w : World) (ha : NIs w va la) (hb : NIs w vb lb) :
    Calls Try.prog 22 #[va, vb] w fun e w' => e = .returned (.bool (decide (la = lb))) ∧ Below w.heap.size w w' := by
  obtain ⟨a, ca, rfl⟩ : ∃ a cap, va = .slice a la.length cap := by obtain ⟨a, cap, h, -⟩ := ha; exact ⟨a, cap, h⟩
  obtain ⟨b, cb, rfl⟩ : ∃ a cap, vb = .slice a lb.length cap := by obtain ⟨a, cap, h, -⟩ := hb; exact ⟨a, cap, h⟩
  have h1 : la.length ≤ 140737488355328 := by obtain ⟨_, _, _, h, _⟩ := ha; exact h
  have h2 : lb.length ≤ 140737488355328 := by obtain ⟨_, _, _, h, _⟩ := hb; exact h
  obtain ⟨N, hN⟩ : ∃ N, N = la.length := ⟨_, rfl⟩
  obtain ⟨M, hM⟩ : ∃ M, M = lb.length := ⟨_, rfl⟩
  rw [← hN] at ha h1 ⊢
  rw [← hM] at hb h2 ⊢
  have hNb : (N : Int) ≤ 140737488355328 := by omega
  have hMb : (M : Int) ≤ 140737488355328 := by omega
  obtain ⟨R, hR⟩ : ∃ R, R = decide (la = lb) := ⟨_, rfl⟩
  rw [← hR]
  have HR0 := hide hR
  have HH := hide (And.intro ha (And.intro hb (And.intro hN hM)))
  clear ha hb hN hM h1 h2 hR
  by_cases hNM : N = M
  · subst hNM
    go_enter Try.func22, Try.ntmps22
    go_wp2_with fail
    go_loopw [13] (fun iv wr => ∃ i : Nat, iv = .int .i64 i ∧ i ≤ N ∧ Hid (Below w.heap.size w wr ∧ la.take i = lb.take i)) (fun iv _ => (N - (intOf iv)).toNat)
    case atStart => exact ⟨0, rfl, by omega, Below.refl _ _, by simp⟩
    case round =>
      obtain ⟨i, rfl, hi, HR⟩ := hrel
      by_cases hin : i < N
      · obtain ⟨ha, hb, hN, hM⟩ := unhide HH
        obtain ⟨hbel, heq⟩ := unhide HR
        obtain ⟨z, hz⟩ : ∃ z, la[i]? = some z := ⟨_, List.getElem?_eq_getElem (by omega)⟩
        obtain ⟨y, hy⟩ : ∃ z, lb[i]? = some z := ⟨_, List.getElem?_eq_getElem (by omega)⟩
        obtain ⟨g, o, rfl, c1⟩ := nis_get (NIs.bw ha hbel) hz
        obtain ⟨g', o', rfl, c2⟩ := nis_get (NIs.bw hb hbel) hy
        have hi1 : (i : Int) < (N : Int) := by omega
        have HB := hide hbel
        have HQ := hide (And.intro heq (And.intro hz hy))
        clear ha hb hN hM hz hy HH HR hbel heq
        by_cases hzy : z = y
        · subst hzy
          have HQ2 : Hid (la.take (i + 1) = lb.take (i + 1)) := by
            obtain ⟨q1, q2, q3⟩ := unhide HQ
            unfold Hid
            rw [List.take_add_one, List.take_add_one, q1, q2, q3]
          clear HQ HR0
          go_wp2_with fail
          go_quiet (fail)
          go_wp2_with fail
          go_roundw
          case rel => exact ⟨i + 1, by go_num, by omega, below_drewN (unhide HB) _, unhide HQ2⟩
          case measure => simp [intOf]; omega
        · obtain rfl : R = false := by
            rw [unhide HR0]
            refine decide_eq_false (fun c => ?_)
            obtain ⟨q1, q2, q3⟩ := unhide HQ
            rw [c, q3] at q2
            exact hzy (Option.some.inj q2).symm
          have n1 : decide (z = y) = false := decide_eq_false hzy
          have n2 : (z == y) = false := by simpa using hzy
          have n3 : (z != y) = true := by simpa using hzy
          clear HQ HR0 hzy
          go_wp2_with fail
          go_quiet (fail)
          go_wp2
          go_ret
          exact ⟨rfl, below_drewN (unhide HB) _⟩
      · have hie : i = N := by omega
        subst hie
        obtain rfl : R = true := by
          rw [unhide HR0]
          refine decide_eq_true ?_
          obtain ⟨-, -, hN, hM⟩ := unhide HH
          have := (unhide HR).2
          rwa [List.take_of_length_le (by omega), List.take_of_length_le (by omega)] at this
        have B := hide (unhide HR).1
        clear HH HR HR0
        go_wp2_with fail
        go_ret
        exact ⟨rfl, unhide B⟩
  · obtain rfl : R = false := by
      rw [unhide HR0]
      refine decide_eq_false (fun c => ?_)
      obtain ⟨-, -, hN, hM⟩ := unhide HH
      exact hNM (by rw [hN, hM, c])
    have n1 : decide ((N : Int) = (M : Int)) = false := decide_eq_false (by omega)
    have n2 : ((N : Int) == (M : Int)) = false := by simp; omega
    have n3 : ((N : Int) != (M : Int)) = true := by simp; omega
    clear HH HR0 hNM
    go_enter Try.func22, Try.ntmps22
    go_wp2
    go_ret
    exact ⟨rfl, Below.refl _ _⟩
end Go.Proofs.Ytokdflbajnecpaa.Tn.Ax
