/- What is sealed with a key that nobody knows tells nothing more. Nothing here speaks of the program. -/
import Derived.Test.YtfpimmbjjcpobabDdPureB
namespace Go.Proofs.Ytfpimmbjjcpobab

theorem sealed_fol {L L' : List Tm} {K : Nat → Prop} {sl : Nat} (hG : Good L) (hG' : Good L') (hx : ∃ r, L' = L ++ r) (h1 : L.length + 1 < sl)
    (hk : ∀ m, L.length < m → m ≤ L'.length → kdOf L' m = 1 ∨ (kdOf L' m = 5 ∧ pA L' m = L.length + 1) ∨ (m = sl ∧ kdOf L' m = 6 ∧ opn L' m = L.length + 1)) (hK : ∀ m, K m → m ≤ L.length)
    {m : Nat} (hm : m ≤ L.length) (h : Fol L' (fun m => K m ∨ m = sl) m) : Fol L K m := by
  obtain ⟨r, rfl⟩ := hx
  have hc : Clo (L ++ r) (fun m => (m ≤ L.length ∧ Fol L K m) ∨ m = sl) := by
    refine ⟨fun m q1 q2 q3 q4 q5 => ?_, fun m q1 q2 q3 q4 => ?_, fun m q1 q2 q3 q4 => ?_, fun m q1 q2 q3 q4 q5 => ?_⟩
    · rcases Nat.lt_or_ge L.length m with c | c
      · rcases hk m c q2 with e | ⟨e, f⟩ | ⟨e, _⟩
        · exact absurd e q3
        · rw [f] at q4
          rcases q4 (by omega) with ⟨g, _⟩ | g <;> omega
        · exact Or.inr e
      · have e := ext_at r q1 c
        have hp := hG.parts q1 c
        rw [e.2.1] at q4
        rw [e.2.2] at q5
        rw [e.1] at q3
        refine Or.inl ⟨c, .make q1 c q3 (fun z => ?_) (fun z => ?_)⟩
        · rcases q4 z with ⟨_, g⟩ | g
          · exact g
          · omega
        · rcases q5 z with ⟨_, g⟩ | g
          · exact g
          · omega
    · rcases Nat.lt_or_ge L.length m with c | c
      · rcases hk m c q2 with e | ⟨e, _⟩ | ⟨_, e, _⟩ <;> rw [e] at q4 <;> exact absurd q4 (by decide)
      · have e := ext_at r q1 c
        have hp := hG.parts q1 c
        rw [e.1] at q4
        rw [e.2.1]
        rcases q3 with ⟨_, g⟩ | g
        · exact Or.inl ⟨by omega, .pairA g q4⟩
        · omega
    · rcases Nat.lt_or_ge L.length m with c | c
      · rcases hk m c q2 with e | ⟨e, _⟩ | ⟨_, e, _⟩ <;> rw [e] at q4 <;> exact absurd q4 (by decide)
      · have e := ext_at r q1 c
        have hp := hG.parts q1 c
        rw [e.1] at q4
        rw [e.2.2]
        rcases q3 with ⟨_, g⟩ | g
        · exact Or.inl ⟨by omega, .pairB g q4⟩
        · omega
    · rcases Nat.lt_or_ge L.length m with c | c
      · rcases hk m c q2 with e | ⟨e, _⟩ | ⟨_, _, e⟩
        · rw [e] at q4; exact absurd q4 (by decide)
        · rw [e] at q4; exact absurd q4 (by decide)
        · rw [e] at q5
          rcases q5 with ⟨g, _⟩ | g <;> omega
      · have e := ext_at r q1 c
        have hp := hG.parts q1 c
        rw [e.1] at q4
        have ho := hG.opn q1 c q4
        rw [opn_ext hG r q1 c q4] at q5
        rw [e.2.2]
        rcases q3 with ⟨_, g⟩ | g
        · rcases q5 with ⟨_, g2⟩ | g2
          · exact Or.inl ⟨by omega, .opens g q4 g2⟩
          · omega
        · omega
  have := h.least hG' hc (fun x q1 q2 q3 => by
    rcases q3 with c | c
    · exact Or.inl ⟨hK x c, .known q1 (hK x c) c⟩
    · exact Or.inr c)
  rcases this with ⟨_, g⟩ | g
  · exact g
  · omega
theorem sealed_has {L L' : List Tm} {K : Nat → Prop} {sl : Nat} (hG : Good L) (hG' : Good L') (hx : ∃ r, L' = L ++ r) (h1 : L.length + 1 < sl)
    (hk : ∀ m, L.length < m → m ≤ L'.length → kdOf L' m = 1 ∨ (kdOf L' m = 5 ∧ pA L' m = L.length + 1) ∨ (m = sl ∧ kdOf L' m = 6 ∧ opn L' m = L.length + 1)) (hK : ∀ m, K m → m ≤ L.length)
    (m : Nat) (hm : m ≤ L.length) : hasB L' K (m : Int) = hasB L' (fun m => K m ∨ m = sl) (m : Int) := by
  rw [Bool.eq_iff_iff, hasB_nat hG', hasB_nat hG']
  constructor
  · exact fun h => h.sub hG' (fun _ c => Or.inl c)
  · intro h
    have := sealed_fol hG hG' hx h1 hk hK hm h
    obtain ⟨r, rfl⟩ := hx
    exact this.ext hG r

/-- A term whose first part is the last one of a store is not there. -/
theorem last_new {L : List Tm} (hG : Good L) {t : Tm} (h : t.a = (L.length : Int)) : t ∉ L := by
  intro c
  obtain ⟨i, hi, e⟩ := List.getElem_of_mem c
  have := may_parts (hG.may i t (by rw [List.getElem?_eq_getElem hi, e]))
  omega
theorem mk_new {L : List Tm} {t : Tm} (hm : may L.length t = true) (hn : t ∉ L) (hl : L.length < 1000) : mkL L t = L ++ [t] ∧ mkN L t = L.length + 1 ∧ mkE L t = 0 := by
  refine ⟨by unfold mkL; rw [if_pos ⟨hm, hn, by omega⟩], ?_, ?_⟩
  · unfold mkN; rw [if_pos hm, if_neg hn, if_pos (by omega)]
  · unfold mkE; rw [if_pos hm, if_neg hn, if_pos (by omega)]
def rKey : Tm := ⟨1, 1125899906842624, 0, 0⟩
def pKey (n : Nat) : Tm := ⟨5, 0, (n : Int), 0⟩
def sKey (n what : Nat) : Tm := ⟨6, 0, (n : Int), (what : Int)⟩
theorem may_seal {N A B : Nat} (h1 : 1 ≤ A) (h2 : A ≤ N) (h3 : 1 ≤ B) (h4 : B ≤ N) : may N (sKey A B) = true := by
  have ta : thr N (A : Int) = true := thr_iff.2 (by omega)
  have tb : thr N (B : Int) = true := thr_iff.2 (by omega)
  simp [may, sKey, ta, tb]
theorem may_pub {N A : Nat} (h1 : 1 ≤ A) (h2 : A ≤ N) : may N (pKey A) = true := by
  have ta : thr N (A : Int) = true := thr_iff.2 (by omega)
  simp [may, pKey, ta]
theorem tmAt_last {L : List Tm} {t : Tm} : tmAt (L ++ [t]) (L.length + 1) = t := by simp [tmAt, List.getD]
/-- With the key itself. -/
theorem seal_plain {L : List Tm} (hG : Good L) (hl : L.length ≤ 300) (hn : rKey ∉ L) {what : Nat} (h1 : 1 ≤ what) (h2 : what ≤ L.length) :
    mkL L rKey = L ++ [rKey] ∧ mkN L rKey = L.length + 1 ∧ mkE L rKey = 0 ∧ Good (L ++ [rKey]) ∧
    mkL (L ++ [rKey]) (sKey (L.length + 1) what) = L ++ [rKey] ++ [sKey (L.length + 1) what] ∧ mkN (L ++ [rKey]) (sKey (L.length + 1) what) = L.length + 2 ∧ mkE (L ++ [rKey]) (sKey (L.length + 1) what) = 0 ∧ Good (L ++ [rKey] ++ [sKey (L.length + 1) what]) ∧
    (∀ m, L.length < m → m ≤ (L ++ [rKey] ++ [sKey (L.length + 1) what]).length → kdOf (L ++ [rKey] ++ [sKey (L.length + 1) what]) m = 1 ∨ (kdOf (L ++ [rKey] ++ [sKey (L.length + 1) what]) m = 5 ∧ pA (L ++ [rKey] ++ [sKey (L.length + 1) what]) m = L.length + 1) ∨ (m = L.length + 2 ∧ kdOf (L ++ [rKey] ++ [sKey (L.length + 1) what]) m = 6 ∧ opn (L ++ [rKey] ++ [sKey (L.length + 1) what]) m = L.length + 1)) := by
  obtain ⟨a1, a2, a3⟩ := mk_new (L := L) (t := rKey) (by simp [may, rKey]) hn (by omega)
  have g1 : Good (L ++ [rKey]) := by rw [← a1]; exact hG.made _
  have l1 : (L ++ [rKey]).length = L.length + 1 := by simp
  obtain ⟨b1, b2, b3⟩ := mk_new (L := L ++ [rKey]) (t := sKey (L.length + 1) what) (may_seal (by omega) (by omega) (by omega) (by omega)) (last_new g1 (by rw [l1]; rfl)) (by omega)
  have g2 : Good (L ++ [rKey] ++ [sKey (L.length + 1) what]) := by rw [← b1]; exact g1.made _
  refine ⟨a1, a2, a3, g1, b1, by rw [b2, l1], b3, g2, fun m q1 q2 => ?_⟩
  have t1 : tmAt (L ++ [rKey] ++ [sKey (L.length + 1) what]) (L.length + 1) = rKey := by
    rw [tmAt_ext _ (by omega) (by omega)]; exact tmAt_last
  have t2 : tmAt (L ++ [rKey] ++ [sKey (L.length + 1) what]) (L.length + 2) = sKey (L.length + 1) what := by
    have := tmAt_last (L := L ++ [rKey]) (t := sKey (L.length + 1) what)
    rw [l1] at this; exact this
  have l2 : (L ++ [rKey] ++ [sKey (L.length + 1) what]).length = L.length + 2 := by simp
  generalize hY : L ++ [rKey] ++ [sKey (L.length + 1) what] = Y at *
  have : m = L.length + 1 ∨ m = L.length + 2 := by omega
  rcases this with rfl | rfl
  · left; unfold kdOf; rw [t1]; rfl
  · refine Or.inr (Or.inr ⟨rfl, by unfold kdOf; rw [t2]; rfl, ?_⟩)
    have e : pA Y (L.length + 2) = L.length + 1 := by unfold pA; rw [t2]; rfl
    unfold opn
    rw [e, if_neg]
    unfold kdOf; rw [t1]; decide
/-- With its public key. -/
theorem seal_public {L : List Tm} (hG : Good L) (hl : L.length ≤ 300) (hn : rKey ∉ L) {what : Nat} (h1 : 1 ≤ what) (h2 : what ≤ L.length) :
    mkL L rKey = L ++ [rKey] ∧ mkN L rKey = L.length + 1 ∧ mkE L rKey = 0 ∧ Good (L ++ [rKey]) ∧
    mkL (L ++ [rKey]) (pKey (L.length + 1)) = L ++ [rKey] ++ [pKey (L.length + 1)] ∧ mkN (L ++ [rKey]) (pKey (L.length + 1)) = L.length + 2 ∧ mkE (L ++ [rKey]) (pKey (L.length + 1)) = 0 ∧ Good (L ++ [rKey] ++ [pKey (L.length + 1)]) ∧
    mkL (L ++ [rKey] ++ [pKey (L.length + 1)]) (sKey (L.length + 2) what) = L ++ [rKey] ++ [pKey (L.length + 1)] ++ [sKey (L.length + 2) what] ∧ mkN (L ++ [rKey] ++ [pKey (L.length + 1)]) (sKey (L.length + 2) what) = L.length + 3 ∧ mkE (L ++ [rKey] ++ [pKey (L.length + 1)]) (sKey (L.length + 2) what) = 0 ∧ Good (L ++ [rKey] ++ [pKey (L.length + 1)] ++ [sKey (L.length + 2) what]) ∧
    (∀ m, L.length < m → m ≤ (L ++ [rKey] ++ [pKey (L.length + 1)] ++ [sKey (L.length + 2) what]).length → kdOf (L ++ [rKey] ++ [pKey (L.length + 1)] ++ [sKey (L.length + 2) what]) m = 1 ∨ (kdOf (L ++ [rKey] ++ [pKey (L.length + 1)] ++ [sKey (L.length + 2) what]) m = 5 ∧ pA (L ++ [rKey] ++ [pKey (L.length + 1)] ++ [sKey (L.length + 2) what]) m = L.length + 1) ∨ (m = L.length + 3 ∧ kdOf (L ++ [rKey] ++ [pKey (L.length + 1)] ++ [sKey (L.length + 2) what]) m = 6 ∧ opn (L ++ [rKey] ++ [pKey (L.length + 1)] ++ [sKey (L.length + 2) what]) m = L.length + 1)) := by
  obtain ⟨a1, a2, a3⟩ := mk_new (L := L) (t := rKey) (by simp [may, rKey]) hn (by omega)
  have g1 : Good (L ++ [rKey]) := by rw [← a1]; exact hG.made _
  have l1 : (L ++ [rKey]).length = L.length + 1 := by simp
  obtain ⟨b1, b2, b3⟩ := mk_new (L := L ++ [rKey]) (t := pKey (L.length + 1)) (may_pub (by omega) (by omega)) (last_new g1 (by rw [l1]; rfl)) (by omega)
  have g2 : Good (L ++ [rKey] ++ [pKey (L.length + 1)]) := by rw [← b1]; exact g1.made _
  have l2 : (L ++ [rKey] ++ [pKey (L.length + 1)]).length = L.length + 2 := by simp
  obtain ⟨c1, c2, c3⟩ := mk_new (L := L ++ [rKey] ++ [pKey (L.length + 1)]) (t := sKey (L.length + 2) what) (may_seal (by omega) (by omega) (by omega) (by omega)) (last_new g2 (by rw [l2]; rfl)) (by omega)
  have g3 : Good (L ++ [rKey] ++ [pKey (L.length + 1)] ++ [sKey (L.length + 2) what]) := by rw [← c1]; exact g2.made _
  refine ⟨a1, a2, a3, g1, b1, by rw [b2, l1], b3, g2, c1, by rw [c2, l2], c3, g3, fun m q1 q2 => ?_⟩
  have t1 : tmAt (L ++ [rKey] ++ [pKey (L.length + 1)] ++ [sKey (L.length + 2) what]) (L.length + 1) = rKey := by
    rw [tmAt_ext _ (by omega) (by omega), tmAt_ext _ (by omega) (by omega)]; exact tmAt_last
  have t2 : tmAt (L ++ [rKey] ++ [pKey (L.length + 1)] ++ [sKey (L.length + 2) what]) (L.length + 2) = pKey (L.length + 1) := by
    rw [tmAt_ext _ (by omega) (by omega)]
    have := tmAt_last (L := L ++ [rKey]) (t := pKey (L.length + 1))
    rw [l1] at this; exact this
  have t3 : tmAt (L ++ [rKey] ++ [pKey (L.length + 1)] ++ [sKey (L.length + 2) what]) (L.length + 3) = sKey (L.length + 2) what := by
    have := tmAt_last (L := L ++ [rKey] ++ [pKey (L.length + 1)]) (t := sKey (L.length + 2) what)
    rw [l2] at this; exact this
  have l3 : (L ++ [rKey] ++ [pKey (L.length + 1)] ++ [sKey (L.length + 2) what]).length = L.length + 3 := by simp
  generalize hY : L ++ [rKey] ++ [pKey (L.length + 1)] ++ [sKey (L.length + 2) what] = Y at *
  have : m = L.length + 1 ∨ m = L.length + 2 ∨ m = L.length + 3 := by omega
  have ep : pA Y (L.length + 2) = L.length + 1 := by unfold pA; rw [t2]; rfl
  rcases this with rfl | rfl | rfl
  · left; unfold kdOf; rw [t1]; rfl
  · exact Or.inr (Or.inl ⟨by unfold kdOf; rw [t2]; rfl, ep⟩)
  · refine Or.inr (Or.inr ⟨rfl, by unfold kdOf; rw [t3]; rfl, ?_⟩)
    have e : pA Y (L.length + 3) = L.length + 2 := by unfold pA; rw [t3]; rfl
    unfold opn
    rw [e, if_pos (by unfold kdOf; rw [t2]; rfl), ep]

end Go.Proofs.Ytfpimmbjjcpobab
