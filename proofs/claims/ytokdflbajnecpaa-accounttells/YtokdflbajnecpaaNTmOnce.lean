/- A term that is made again; a store that is filled with terms, one behind the other. No walk is in this text. -/
import Derived.Test.YtokdflbajnecpaaNTmI
namespace Go.Proofs.Ytokdflbajnecpaa.Tn
open Go.RowKit Go.Maps

theorem mk_again {L : List Tm} (hG : Good L) (t : Tm) (hl : L.length < 1048575) :
    mkL (mkL L t) t = mkL L t ∧ mkN (mkL L t) t = mkN L t ∧ mkE (mkL L t) t = mkE L t ∧
    ((may L.length t = true ∧ mkE L t = 0 ∧ thr (mkL L t).length (mkN L t : Nat) = true ∧ getT (mkL L t) (mkN L t : Nat) = t ∧ t.a < (mkN L t : Nat) ∧ t.b < (mkN L t : Nat)) ∨ (mkE L t = 1 ∧ mkN L t = 0)) := by
  cases hm : may L.length t
  · have e3 : mkL L t = L := by simp [mkL, hm]
    rw [e3]
    exact ⟨e3, rfl, rfl, Or.inr ⟨by simp [mkE, hm], by simp [mkN, hm]⟩⟩
  · obtain ⟨e1, e2, e3⟩ := mk_ok hm (by omega)
    have hlen := mkL_le L t
    have hlen2 := mkL_len L t
    have hm2 := may_mono hm hlen
    have g1 := hG.made t
    have again : mkL (mkL L t) t = mkL L t := by
      generalize mkL L t = M at *
      unfold mkL
      rw [if_neg]
      rintro ⟨_, c, _⟩
      exact c e3
    have n2 : mkN (mkL L t) t = mkN L t := by
      rw [e2]; simp [mkN, hm2, e3]
    have e4 : mkE (mkL L t) t = 0 := by simp [mkE, hm2, e3]
    refine ⟨again, n2, by rw [e4, e1], Or.inl ⟨rfl, e1, ?_, ?_, ?_⟩⟩
    · rw [e2]
      have q1 := num_get e3
      have q2 := num_le (mkL L t) t
      exact thr_iff.2 (by omega)
    · rw [e2]
      have q1 := num_get e3
      have q2 := num_le (mkL L t) t
      have q3 : thr (mkL L t).length (num (mkL L t) t : Nat) = true := thr_iff.2 (by omega)
      simp only [getT, q3, if_true, tmAt, Int.toNat_natCast, List.getD, q1.1, Option.getD_some]
    · rw [e2]
      have q1 := num_get e3
      have := may_parts (g1.may _ _ q1.1)
      omega

/-- A store of the law's own, that has so many terms at most. -/
structure Law (w wr : World) (b : Nat) (sv : Value) (mb : Nat) (L : List Tm) (n : Nat) : Prop where
  st : St wr b sv mb L
  low : ∀ x ∈ foot b sv mb, w.heap.size ≤ x
  bel : Below w.heap.size w wr
  len : L.length ≤ n
theorem Law.step {w wr w1 : World} {b : Nat} {sv sv1 : Value} {mb : Nat} {L L1 : List Tm} {n n1 : Nat} (h : Law w wr b sv mb L n) (s : SStep wr w1 b sv sv1 mb L1) (hl : L1.length ≤ n1) : Law w w1 b sv1 mb L1 n1 :=
  ⟨s.st, s.base h.bel.size h.low, Fr.toBase h.bel s.fr h.low, hl⟩
theorem Law.new {w wr w1 : World} {b : Nat} {sv : Value} {mb : Nat} {L : List Tm} {n : Nat} (h : Law w wr b sv mb L n) (hb : Below wr.heap.size wr w1) : Law w w1 b sv mb L n :=
  ⟨h.st.bw hb, h.low, bw_tr h.bel hb, h.len⟩

/-- A list of terms that came in, somewhere in the law's run. -/
theorem Tms.get {w : World} {a : Option Addr} {cap : Nat} {l : List Tm} (h : Tms w (.slice a l.length cap) l) : l.length ≤ 140737488355328 ∧ ∀ i t, l[i]? = some t → ∃ g o, a = some ⟨g, o, none⟩ ∧ ∀ wr, Below w.heap.size w wr → TAt wr g (o + i * 4) t := by
  obtain ⟨a', cap', hv, hl, hc⟩ := h
  cases hv
  refine ⟨hl, fun i t hi => ?_⟩
  rcases hc with hc | ⟨g, o, rfl, hc⟩
  · rw [hc] at hi; simp at hi
  · exact ⟨g, o, rfl, fun wr hb => (hc i t hi).keep (hb.block g (hc i t hi).lt)⟩

end Go.Proofs.Ytokdflbajnecpaa.Tn
