/- What List and Data leave, as plain lists; the terms of one store among those of another that began alike; the contract of Same. -/
import Derived.Test.YtokdflbajnecpaaNTmAcX
import Derived.Test.YtokdflbajnecpaaNTmRL
namespace Go.Proofs.Ytokdflbajnecpaa.Tn
open Go.RowKit Go.Maps

/-- The list has grown by at most k terms, and n is none or one of them. -/
structure Gro (L L' : List Tm) (n : Int) (k : Nat) : Prop where
  good : Good L'
  pre : ∃ x, L' = L ++ x
  lo : 0 ≤ n
  hi : n ≤ (L'.length : Int)
  len : L'.length ≤ L.length + k
theorem mkN_le (L : List Tm) (t : Tm) : mkN L t ≤ (mkL L t).length := by
  have h := mkL_le L t
  unfold mkN
  split
  · split
    · have := num_le L t; omega
    · split
      · rename_i c1 c2 c3
        unfold mkL
        rw [if_pos ⟨c1, c2, c3⟩]; simp
      · omega
  · omega
theorem Gro.made {L L' : List Tm} {t : Tm} {n : Int} {k : Nat} (h : Gro (mkL L t) L' n k) : Gro L L' n (k + 1) := by
  obtain ⟨x, hx⟩ := h.pre
  obtain ⟨r, hr⟩ := mkL_prefix L t
  exact ⟨h.good, ⟨r ++ x, by rw [hx, hr, List.append_assoc]⟩, h.lo, h.hi, by have := h.len; have := mkL_len L t; omega⟩
theorem Gro.none {L : List Tm} (h : Good L) (k : Nat) : Gro L L 0 k := ⟨h, ⟨[], by simp⟩, by omega, by omega, by omega⟩
theorem Gro.mono {L L' : List Tm} {n : Int} {k k' : Nat} (h : Gro L L' n k) (hk : k ≤ k') : Gro L L' n k' := ⟨h.good, h.pre, h.lo, h.hi, by have := h.len; omega⟩
theorem lsF_gro : ∀ (r : List Int) (L : List Tm) (n : Int), Good L → 0 ≤ n → n ≤ (L.length : Int) → Gro L (lsF L r n).1 (lsF L r n).2.1 r.length
  | [], L, n, h, h0, h1 => ⟨h, ⟨[], by simp [lsF]⟩, h0, h1, by simp [lsF]⟩
  | a :: r, L, n, h, h0, h1 => by
    unfold lsF
    split
    · have := lsF_gro r (mkL L ⟨3, 0, a, n⟩) (mkN L ⟨3, 0, a, n⟩ : Nat) (h.made _) (by omega) (by have := mkN_le L ⟨3, 0, a, n⟩; omega)
      exact this.made
    · exact (Gro.none (h.made _) r.length).made
theorem ls_gro {L : List Tm} (h : Good L) (l : List Int) : Gro L (ls L l).1 (ls L l).2.1 l.length := by
  unfold ls
  split
  · rename_i c
    have hr : l.reverse.length = l.length := List.length_reverse
    have hm : ∀ x ∈ l.reverse, x ∈ l := fun x hx => List.mem_reverse.1 hx
    split
    · exact Gro.none h _
    · rename_i n r e
      rw [e] at hr hm
      have := thr_iff.1 (List.all_eq_true.1 c n (hm n (by simp)))
      exact (lsF_gro r L n h (by omega) this.2).mono (by simp at hr; omega)
  · exact Gro.none h _
theorem dtF_gro : ∀ (r : List Int) (L : List Tm) (acc : List Nat), Good L → Gro L (dtF L r acc).1 (dtF L r acc).2.1 (2 * r.length + acc.length)
  | [], L, acc, h => by
    unfold dtF
    exact (ls_gro h _).mono (by simp)
  | n :: r, L, acc, h => by
    unfold dtF
    split
    · exact ((dtF_gro r (mkL L ⟨2, n, 0, 0⟩) (acc ++ [mkN L ⟨2, n, 0, 0⟩]) (h.made _)).made).mono (by simp; omega)
    · exact (Gro.none (h.made _) (2 * r.length + acc.length)).made.mono (by simp; omega)
theorem dt_gro {L : List Tm} (h : Good L) (l : List Int) : Gro L (dt L l).1 (dt L l).2.1 (2 * l.length) := by
  have := dtF_gro l L [] h
  simpa [dt] using this

/-- Where the other store began with the same terms, a term has its own number there. -/
theorem Acr.ident {L R : List Tm} {ph : List Nat} (h : Acr L L.length R ph) (hG : Good L) (hp : ∃ x, R = L ++ x) : ∀ m, m ≤ L.length → ph.getD m 0 = m := by
  obtain ⟨x, hx⟩ := hp
  have hle : L.length ≤ R.length := by rw [hx]; simp
  intro m
  induction m using Nat.strongRecOn with
  | _ m ih =>
    intro hm
    by_cases m0 : m = 0
    · subst m0; exact h.zero
    · obtain ⟨p1, p2⟩ := hG.parts (m := m) (by omega) hm
      obtain ⟨s1, s2⟩ := hG.tmAt_parts (m := m) (by omega) hm
      have e := h.at_ m (by omega) hm
      have hr := h.rng m (by omega) hm
      have e2 : mapT ph (tmAt L m) = tmAt L m := by
        have a1 := ih (pA L m) p1 (by omega)
        have a2 := ih (pB L m) p2 (by omega)
        unfold mapT
        have b1 : (tmAt L m).a.toNat = pA L m := rfl
        have b2 : (tmAt L m).b.toNat = pB L m := rfl
        rw [b1, b2, a1, a2]
        cases hy : tmAt L m with
        | mk y1 y2 y3 y4 =>
          rw [hy] at s1 s2
          simp only at s1 s2
          rw [s1, s2]
      have e3 : tmAt R m = tmAt L m := by
        rw [hx]
        simp [tmAt, List.getD, List.getElem?_append_left (show m - 1 < L.length by omega)]
      rw [e2, ← e3] at e
      exact h.good.tmAt_inj hr.1 hr.2 (by omega) (by omega) e

set_option maxRecDepth 100000 in
set_option maxHeartbeats 2000000 in
theorem msame_any (mp g np cp k : Nat) (W : World) (hk : k < np) (hn : np ≤ 4000) (h0 : W.cell? ⟨mp, 0, none⟩ = some (.slice (some ⟨g, 0, none⟩) np cp)) (h1 : W.cell? ⟨g, k, none⟩ = some (.int .i64 (k : Int))) :
    Calls Try.prog 18 #[.pointer (some ⟨mp, 0, none⟩), .int .i64 (k : Int), .int .i64 (k : Int)] W fun e w' => e = .returned (.bool true) ∧ w' = W := by
  have a1 : (k : Int) < (np : Int) := by omega
  have a2 : (np : Int) ≤ 4000 := by omega
  have a3 : ¬ ((k : Int) < 0) := by omega
  clear hk hn
  go_enter Try.func18, Try.ntmps18
  go_wp2
  go_ret
  exact ⟨ret_bool (by simp), rfl⟩

end Go.Proofs.Ytokdflbajnecpaa.Tn
