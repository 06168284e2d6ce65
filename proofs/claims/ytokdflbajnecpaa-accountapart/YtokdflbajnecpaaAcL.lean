/- AccountApart, plainly: digests and seeds; what follows. -/
import Derived.Test.YtokdflbajnecpaaZ13
namespace Go.Proofs.Ytokdflbajnecpaa.Tn.Ax
open Go.RowKit Go.Maps
theorem DL.pub {L : List Tm} {l : List Nat} {s : List Int} (h : DL L l s) : ∀ m ∈ l, PubN L m := fun m hm => by
  obtain ⟨z, hz⟩ := h.mem m hm
  exact ⟨_, hz, by simp, by simp⟩
def XD (L : List Tm) (x : Nat) (rem : List Int) : Prop := ∃ (c : Nat) (acc : List Nat), At L x ⟨7, 0, (c : Nat), 0⟩ ∧ IsL L c acc ∧ DL L acc (0 :: (rem.length : Int) :: rem)
theorem XD.pre {L L' : List Tm} {x : Nat} {rem : List Int} (h : XD L x rem) (hp : Pre L L') : XD L' x rem := by
  obtain ⟨c, acc, h1, h2, h3⟩ := h
  exact ⟨c, acc, h1.pre hp, h2.pre hp, h3.pre hp⟩
theorem XD.pub {L : List Tm} {x : Nat} {rem : List Int} (h : XD L x rem) : PubN L x := by
  obtain ⟨c, acc, h1, h2, h3⟩ := h
  exact ⟨_, h1, by simp, by simp⟩
theorem XD.eq_iff {L : List Tm} (hG : Good L) {x y : Nat} {ra rb : List Int} (h : XD L x ra) (k : XD L y rb) : x = y ↔ ra = rb := by
  obtain ⟨c, acc, h1, h2, h3⟩ := h
  obtain ⟨c', acc', k1, k2, k3⟩ := k
  constructor
  · rintro rfl
    have e := h1.fn k1
    simp at e
    have e : c = c' := by omega
    subst e
    have e2 := IsL.fn h3.mem k3.mem h2 k2
    subst e2
    have e3 := DL.fn h3 k3
    simp at e3
    exact e3.2
  · rintro rfl
    have e := DL.inj hG h3 k3
    subst e
    have e2 := IsL.inj hG h2 k2
    subst e2
    exact h1.inj hG k1
theorem dig_at {L : List Tm} {rem : List Int} (h : Iv L) (hr : rem.length ≤ 8) (hl : L.length + 200 ≤ 1048575) :
    digE L [] rem = 0 ∧ Iv (digP L [] rem).1 ∧ Pre L (digP L [] rem).1 ∧ XD (digP L [] rem).1 (digP L [] rem).2 rem := by
  have hO : digO L [] rem = true := digO_iff.2 ⟨by simp, hr, by simp⟩
  obtain ⟨q1, q2, q3, q4⟩ := digR_ok hO (by omega)
  obtain ⟨a1, a2, a3⟩ := dats_at [(0 : Int)] (P := (L, [])) (s := []) h trivial (by simp; omega)
  have z1 := dats_len [(0 : Int)] (L, [])
  obtain ⟨b1, b2, b3⟩ := dats_at [(rem.length : Int)] a1 a3 (by simp at z1 ⊢; omega)
  have z2 := dats_len [(rem.length : Int)] (dats (L, []) [(0 : Int)])
  obtain ⟨c1, c2, c3⟩ := dats_at rem b1 b3 (by simp at z1 z2 ⊢; omega)
  have ec : chP L [] rem = dats (dats (dats (L, []) [(0 : Int)]) [(rem.length : Int)]) rem := rfl
  rw [← ec] at c1 c2 c3
  have lc := chP_len L [] rem
  simp at lc
  have hne : (chP L [] rem).2 ≠ [] := fun c => by rw [c] at lc; simp at lc; omega
  obtain ⟨m, e1, e2, e3, e4, e5⟩ := ls_at c1 c3.pub hne (by omega)
  have eR : digR L [] rem = ls (chP L [] rem).1 (cI (chP L [] rem).2) := rfl
  rw [← eR] at e1 e2 e3 e4 e5
  have eP : digP L [] rem = (mkL (digR L [] rem).1 ⟨7, 0, (digR L [] rem).2.1, 0⟩, mkN (digR L [] rem).1 ⟨7, 0, (digR L [] rem).2.1, 0⟩) := by unfold digP; rw [if_pos hO]
  have hm := may_hash q2
  rw [e1] at eP hm
  have hp := Pre.mk (digR L [] rem).1 ⟨7, 0, (m : Int), 0⟩
  rw [eP]
  refine ⟨by simp [digE, hO], e2.made _ (by simp) (by simp) (by simp) (by simp), ((((a2.trans b2).trans c2).trans e3).trans hp), ?_⟩
  refine ⟨m, (chP L [] rem).2, at_mk hm (by omega), e5.pre hp, ?_⟩
  have := (c3.pre e3).pre hp
  simpa using this
def XS (L : List Tm) (p : Nat) (g e d : Int) (x : Nat) : Prop := ∃ (c a1 a2 a3 : Nat), At L p ⟨4, 12, 1, (c : Nat)⟩ ∧ IsL L c [a1, a2, a3, x] ∧ DL L [a1, a2, a3] [g, e, d]
theorem XS.pre {L L' : List Tm} {p : Nat} {g e d : Int} {x : Nat} (h : XS L p g e d x) (hp : Pre L L') : XS L' p g e d x := by
  obtain ⟨c, a1, a2, a3, h1, h2, h3⟩ := h
  exact ⟨c, a1, a2, a3, h1.pre hp, h2.pre hp, h3.pre hp⟩
theorem XS.eq_iff {L : List Tm} (hG : Good L) {p q : Nat} {g e d g' e' d' : Int} {x x' : Nat} (h : XS L p g e d x) (k : XS L q g' e' d' x') : p = q ↔ g = g' ∧ e = e' ∧ d = d' ∧ x = x' := by
  obtain ⟨c, a1, a2, a3, h1, h2, h3⟩ := h
  obtain ⟨c', b1, b2, b3, k1, k2, k3⟩ := k
  constructor
  · rintro rfl
    have e := h1.fn k1
    simp at e
    have e : c = c' := by omega
    subst e
    obtain ⟨n1, u1, n2, u2, n3, u3, u4⟩ := h2
    obtain ⟨m1, v1, m2, v2, m3, v3, v4⟩ := k2
    have f1 := u1.fn v1
    simp at f1
    obtain ⟨rfl, rfl⟩ : a1 = b1 ∧ n1 = m1 := by omega
    have f2 := u2.fn v2
    simp at f2
    obtain ⟨rfl, rfl⟩ : a2 = b2 ∧ n2 = m2 := by omega
    have f3 := u3.fn v3
    simp at f3
    obtain ⟨rfl, rfl⟩ : a3 = b3 ∧ n3 = m3 := by omega
    have f4 : n3 = x := u4
    have f5 : n3 = x' := v4
    have e3 := DL.fn h3 k3
    simp at e3
    exact ⟨e3.1, e3.2.1, e3.2.2, by omega⟩
  · rintro ⟨rfl, rfl, rfl, rfl⟩
    have e := DL.inj hG h3 k3
    simp at e
    obtain ⟨rfl, rfl, rfl⟩ := e
    have e2 := IsL.inj hG h2 k2
    subst e2
    exact h1.inj hG k1
theorem Iv.thr1 {L : List Tm} (h : Iv L) : thr L.length 1 = true := by obtain ⟨n, a⟩ := h.one; have := a.le; exact thr_iff.2 (by omega)
theorem seed_at {L : List Tm} {x : Nat} (h : Iv L) (hx : PubN L x) (g e d : Int) (hl : L.length + 200 ≤ 1048575) :
    seedE L 1 (x : Int) = 0 ∧ Iv (seedP L 1 g e d (x : Int)).1 ∧ Pre L (seedP L 1 g e d (x : Int)).1 ∧ XS (seedP L 1 g e d (x : Int)).1 (seedP L 1 g e d (x : Int)).2 g e d x := by
  have tx : thr L.length (x : Int) = true := by obtain ⟨t, a, _⟩ := hx; have := a.le; exact thr_iff.2 (by omega)
  have hO : seedO L 1 (x : Int) = true := by simp [seedO, h.thr1, tx]
  obtain ⟨q1, q2, q3, q4⟩ := seedR_ok g e d tx (by omega : L.length + 100 ≤ 1048576)
  obtain ⟨a1, a2, a3⟩ := dats_at [g, e, d] (P := (L, [])) (s := []) h trivial (by simp; omega)
  obtain ⟨P, hP⟩ : ∃ P, P = dats (L, []) [g, e, d] := ⟨_, rfl⟩
  have lP := dats_len [g, e, d] (L, [])
  rw [← hP] at a1 a2 a3 lP
  simp only [List.length_cons, List.length_nil] at lP
  simp only [List.nil_append] at a3
  have eQ : seedQ L g e d (x : Int) = (P.1, P.2 ++ [x]) := by rw [hP]; simp [seedQ]
  obtain ⟨m, e1, e2, e3, e4, e5⟩ := ls_at (acc := P.2 ++ [x]) a1 (fun m hm => by
    rcases List.mem_append.1 hm with c | c
    · exact a3.pub m c
    · simp at c; subst c; exact hx.pre a2) (by simp) (by simp; omega)
  have eR : seedR L g e d (x : Int) = ls P.1 (cI (P.2 ++ [x])) := by unfold seedR; rw [eQ]
  rw [← eR] at e1 e2 e3 e4 e5
  have eP : seedP L 1 g e d (x : Int) = (mkL (seedR L g e d (x : Int)).1 ⟨4, 12, 1, (seedR L g e d (x : Int)).2.1⟩, mkN (seedR L g e d (x : Int)).1 ⟨4, 12, 1, (seedR L g e d (x : Int)).2.1⟩) := by unfold seedP; rw [if_pos hO]
  have hm := may_kdf (l := 12) (by omega) e2.thr1 (Or.inr q2)
  rw [e1] at eP hm
  have hp := Pre.mk (seedR L g e d (x : Int)).1 ⟨4, 12, 1, (m : Int)⟩
  rw [eP]
  refine ⟨by simp [seedE, hO], e2.made _ (by simp) (by simp) (by simp) (by simp), (a2.trans e3).trans hp, ?_⟩
  obtain ⟨b1, b2, b3, hb⟩ : ∃ b1 b2 b3, P.2 = [b1, b2, b3] := by
    obtain ⟨_, _, l3⟩ := lP
    match P.2, l3 with
    | [b1, b2, b3], _ => exact ⟨b1, b2, b3, rfl⟩
  rw [hb] at e5 a3
  exact ⟨m, b1, b2, b3, at_mk hm (by omega), e5.pre hp, (a3.pre e3).pre hp⟩
theorem card_at {L : List Tm} (h : Iv L) (hl : L.length + 200 ≤ 1048575) :
    argE L 1 = 0 ∧ Iv (cardL L 1) ∧ Pre L (cardL L 1) ∧ At (cardL L 1) (cardA L 1) ⟨4, 13, 1, 0⟩ := by
  have t := h.thr1
  have hm := may_kdf (l := 13) (by omega) t (Or.inl rfl)
  have k1 : Iv (cardK L 1).1 := h.made _ (by simp) (by simp) (by simp) (by simp)
  have p1 : Pre L (cardK L 1).1 := Pre.mk _ _
  have p2 : Pre (cardK L 1).1 (cardU L 1).1 := Pre.mk _ _
  have a1 : At (cardK L 1).1 (cardK L 1).2 ⟨4, 13, 1, 0⟩ := at_mk hm (by omega)
  rw [show cardL L 1 = (cardU L 1).1 from if_pos t, show cardA L 1 = (cardK L 1).2 from if_pos t]
  exact ⟨by simp [argE, t], k1.made _ (by simp) (by simp) (by simp) (by simp), p1.trans p2, a1.pre p2⟩
theorem own_at {L : List Tm} (h : Iv L) (hl : L.length + 200 ≤ 1048575) :
    argE L 1 = 0 ∧ Iv (ownL L 1) ∧ Pre L (ownL L 1) ∧ At (ownL L 1) (ownA L 1) ⟨4, 14, 1, 0⟩ := by
  have t := h.thr1
  have hm := may_kdf (l := 14) (by omega) t (Or.inl rfl)
  rw [show ownL L 1 = mkL L ⟨4, 14, 1, 0⟩ from if_pos t, show ownA L 1 = mkN L ⟨4, 14, 1, 0⟩ from if_pos t]
  exact ⟨by simp [argE, t], h.made _ (by simp) (by simp) (by simp) (by simp), Pre.mk _ _, at_mk hm (by omega)⟩
theorem fol_keys {L : List Tm} (h : Iv L) {K : Nat → Prop} (hK : ∀ m, K m → kdOf L m = 4) {m : Nat} (hf : Fol L K m) : m ≠ 1 ∧ (kdOf L m = 4 → K m) := by
  obtain ⟨n, h1⟩ := h.one
  have k1 : kdOf L 1 = 1 := h1.kd
  refine hf.least (S := fun m => m ≠ 1 ∧ (kdOf L m = 4 → K m)) h.good ⟨fun m a b c d _ => ?_, fun m a b _ d => ?_, fun m a b _ d => ?_, fun m a b _ d => ?_⟩ (fun m a b c => ⟨fun e => ?_, fun _ => c⟩)
  · refine ⟨fun e => c (by rw [e]; exact k1), fun c4 => ?_⟩
    have hat := at_of a b
    have := (h.all m _ hat).2.2.1 (by rw [← hat.kd]; exact c4)
    have e : pA L m = 1 := by rw [hat.pa, this]; rfl
    exact absurd e (d (by omega)).1
  · have hat := at_of a b
    obtain ⟨t, ht, t1, t4⟩ := ((h.all m _ hat).2.2.2 (by rw [← hat.kd]; exact d)).1
    rw [hat.pa]
    exact ⟨fun e => t1 (by rw [e] at ht; rw [← ht.kd]; exact k1), fun c => absurd (by rw [← ht.kd]; exact c) t4⟩
  · have hat := at_of a b
    obtain ⟨t, ht, t1, t4⟩ := ((h.all m _ hat).2.2.2 (by rw [← hat.kd]; exact d)).2
    rw [hat.pb]
    exact ⟨fun e => t1 (by rw [e] at ht; rw [← ht.kd]; exact k1), fun c => absurd (by rw [← ht.kd]; exact c) t4⟩
  · have hat := at_of a b
    exact absurd (by rw [← hat.kd]; exact d) (h.all m _ hat).1
  · have := hK m c
    rw [e, k1] at this
    cases this
theorem has_seeds {L : List Tm} (h : Iv L) {p q k o : Nat} {g e d g' e' d' : Int} {x x' : Nat} (hp : XS L p g e d x) (hq : XS L q g' e' d' x') (hk : At L k ⟨4, 13, 1, 0⟩) (ho : At L o ⟨4, 14, 1, 0⟩) :
    hasB L (fun m => (m : Int) ∈ [(p : Int), (k : Int), (o : Int)]) (q : Int) = decide (p = q) ∧ hasB L (fun m => (m : Int) ∈ [(p : Int), (k : Int), (o : Int)]) 1 = false := by
  obtain ⟨c, _, _, _, p1, _⟩ := hp
  obtain ⟨c', _, _, _, q1, _⟩ := hq
  have hK : ∀ m : Nat, (m : Int) ∈ [(p : Int), (k : Int), (o : Int)] → m = p ∨ m = k ∨ m = o := fun m hm => by
    simp at hm; omega
  have hKd : ∀ m : Nat, (m : Int) ∈ [(p : Int), (k : Int), (o : Int)] → kdOf L m = 4 := fun m hm => by
    rcases hK m hm with rfl | rfl | rfl
    · exact p1.kd
    · exact hk.kd
    · exact ho.kd
  constructor
  · rw [Bool.eq_iff_iff, hasB_nat h.good, decide_eq_true_eq]
    constructor
    · intro hf
      rcases hK q ((fol_keys h hKd hf).2 q1.kd) with c | c | c
      · exact c.symm
      · subst c; have := q1.fn hk; simp at this
      · subst c; have := q1.fn ho; simp at this
    · rintro rfl
      exact .known p1.le.1 p1.le.2 (by simp)
  · rw [Bool.eq_false_iff]
    intro hf
    obtain ⟨_, hf⟩ := hasB_iff.1 hf
    exact (fol_keys h hKd hf).1 rfl
theorem iv_one {n : Int} (hn : 0 ≤ n) : Iv [⟨1, n, 0, 0⟩] := by
  have hg : Good [(⟨1, n, 0, 0⟩ : Tm)] := by
    have := (good_nil).made (⟨1, n, 0, 0⟩ : Tm)
    have e : mkL [] (⟨1, n, 0, 0⟩ : Tm) = [⟨1, n, 0, 0⟩] := by simp [mkL, may, hn]
    rw [e] at this
    exact this
  refine ⟨hg, ⟨n, Nat.le_refl _, rfl⟩, fun m t ht => ?_⟩
  have hm := ht.le
  simp at hm
  have : m = 1 := by omega
  subst this
  have := ht.2
  simp at this
  subst this
  exact ⟨by simp, fun _ => rfl, by simp, by simp⟩
end Go.Proofs.Ytokdflbajnecpaa.Tn.Ax
