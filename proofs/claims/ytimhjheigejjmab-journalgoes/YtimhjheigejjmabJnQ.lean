/- A journal's disk, plainly: what a Put leaves where nothing is cut. -/
import Derived.Test.YtimhjheigejjmabJnN
namespace Go.Proofs.Ytimhjheigejjmab

def room6 (S : DS) : Nat := (S.N - 2) / 2 * 64
/-- A synced disk with the text t of the number n. -/
structure Good (S : DS) (n : Nat) (t : ByteArray) : Prop where
  up : S.up = true
  N4 : 4 ≤ S.N
  sn : S.since = []
  nb : n ≤ 1000000
  hn : S.base ((n + 1) % 2) = hd n t.size
  ho : ∃ l, S.base (n % 2) = hd (n - 1) l ∧ l ≤ room6 S ∧ (n ≤ 1 → l = 0)
  z : n = 0 → t.size = 0
  r : t.size ≤ room6 S
  tx : txt S n t.size = t
theorem now_base {S : DS} (h : S.since = []) : S.now = S.base := by unfold DS.now; rw [h]; rfl
theorem good_new {N : Nat} (h : 4 ≤ N) : Good (DS.new N) 0 ByteArray.empty :=
  ⟨rfl, h, rfl, by omega, rfl, ⟨0, rfl, Nat.zero_le _, fun _ => rfl⟩, fun _ => rfl, Nat.zero_le _, rfl⟩
theorem Good.heads {S : DS} {n : Nat} {t : ByteArray} (h : Good S n t) : ∃ n0 l0 n1 l1, Heads S n0 l0 n1 l1 ∧ nwN n0 n1 = n ∧ nwL n0 l0 n1 l1 = t.size := by
  obtain ⟨l, o1, o2, o3⟩ := h.ho
  have hn := h.hn
  have hr := h.r
  have hz := h.z
  have hb := h.nb
  have hu := h.up
  have h4 := h.N4
  have hnow := now_base h.sn
  rcases Nat.mod_two_eq_zero_or_one n with c | c
  · have e1 : (n + 1) % 2 = 1 := by omega
    rw [c] at o1; rw [e1] at hn
    refine ⟨n - 1, l, n, t.size, ⟨hu, h4, by rw [hnow]; exact o1, by rw [hnow]; exact hn, by omega, by omega, fun c => o3 (by omega), hz, o2, hr, ?_⟩, ?_, ?_⟩
    · unfold pairB; by_cases c0 : n = 0
      · subst c0; rfl
      · rw [if_neg (by omega)]; simp only [Bool.and_eq_true, Bool.or_eq_true, beq_iff_eq]; omega
    · unfold nwN; rw [if_neg (by omega)]
    · unfold nwL; rw [if_neg (by omega)]
  · have e1 : (n + 1) % 2 = 0 := by omega
    rw [c] at o1; rw [e1] at hn
    refine ⟨n, t.size, n - 1, l, ⟨hu, h4, by rw [hnow]; exact hn, by rw [hnow]; exact o1, by omega, by omega, hz, fun c => o3 (by omega), hr, o2, ?_⟩, ?_, ?_⟩
    · unfold pairB; rw [if_neg (by omega)]; simp only [Bool.and_eq_true, Bool.or_eq_true, beq_iff_eq]; omega
    · unfold nwN; rw [if_pos (by omega)]
    · unfold nwL; rw [if_pos (by omega)]
/-- The writes of a text. -/
def wrL (A : Nat) (s : ByteArray) (i : Nat) : List (Nat × ByteArray) := (List.range i).map fun j => (A + j, chk s j)
theorem wrL_succ (A : Nat) (s : ByteArray) (i : Nat) : wrL A s (i + 1) = wrL A s i ++ [(A + i, chk s i)] := by simp [wrL, List.range_succ]
theorem wrI_plain {S : DS} (hu : S.up = true) (hc : S.cut = none) (A : Nat) (s : ByteArray) (i : Nat) (hi : A + i ≤ S.N) : wrI S A s i = { S with since := S.since ++ wrL A s i, cnt := S.cnt + i } ∧ ∀ j, j < i → wrE S A s j = 0 := by
  induction i with
  | zero => exact ⟨by simp [wrI, wrL], fun j hj => by omega⟩
  | succ i ih =>
    obtain ⟨e1, e2⟩ := ih (by omega)
    have hw : (wrI S A s i).write ((A + i : Nat) : Int) (chk s i) = ({ S with since := S.since ++ wrL A s (i + 1), cnt := S.cnt + (i + 1) }, 0) := by
      rw [e1]
      unfold DS.write
      rw [if_neg (by simp [hu]), if_neg (by simp only [chk_size]; omega)]
      simp only [DS.come, hc, DS.put, DS.did, wrL_succ, List.append_assoc, Nat.add_assoc]
      rfl
    refine ⟨by simp only [wrI]; rw [hw], fun j hj => ?_⟩
    by_cases c : j = i
    · subst c; simp only [wrE]; rw [hw]
    · exact e2 j (by omega)
theorem cur_wrL (f : Nat → ByteArray) (A : Nat) (s : ByteArray) (i k : Nat) : cur f (wrL A s i) k = if A ≤ k ∧ k < A + i then chk s (k - A) else f k := by
  induction i with
  | zero => rw [if_neg (by omega)]; rfl
  | succ i ih =>
    rw [wrL_succ, cur_snoc]
    unfold upd
    by_cases c : k = A + i
    · subst c; rw [if_pos rfl, if_pos (by omega)]; congr 1; omega
    · rw [if_neg c, ih]
      by_cases c2 : A ≤ k ∧ k < A + i
      · rw [if_pos c2, if_pos (by omega)]
      · rw [if_neg c2, if_neg (by omega)]
/-- The sectors of a text, one behind the other, are the text with noughts behind. -/
theorem cat_text {S : DS} {A : Nat} {s : ByteArray} (h : ∀ j, j < rnds s.size → S.now (A + j) = chk s j) (i : Nat) (hi : i ≤ rnds s.size) : cat S A i = (s.data.toList ++ List.replicate (64 * rnds s.size - s.size) 0).take (64 * i) := by
  have hl : s.data.toList.length = s.size := Array.length_toList
  induction i with
  | zero => simp [cat]
  | succ i ih =>
    have hi2 : 64 * i < s.size := by unfold rnds at hi; omega
    simp only [cat]
    rw [ih (by omega), h i (by omega), show 64 * (i + 1) = 64 * i + 64 from by omega, List.take_add]
    congr 1
    simp only [chk, fill]
    rw [List.drop_append, hl, show 64 * i - s.size = 0 from by omega, List.drop_zero, List.take_append, List.length_drop, hl, List.take_replicate]
    congr 2
    unfold rnds at hi ⊢; omega
theorem txt_text {S : DS} {n : Nat} {s : ByteArray} (h : ∀ j, j < rnds s.size → S.now (at0 S.N n + j) = chk s j) : txt S n s.size = s := by
  have hl : s.data.toList.length = s.size := Array.length_toList
  unfold txt
  rw [cat_text h _ (Nat.le_refl _), List.take_of_length_le (by simp [hl]; unfold rnds; omega)]
  apply ByteArray.ext
  apply Array.ext'
  simp only [ByteArray.data_extract, Array.toList_extract, List.extract_eq_take_drop, List.drop_zero, Nat.sub_zero]
  rw [← hl, List.take_append_of_le_length (Nat.le_refl _), List.take_length]
theorem at0_fit {N n len : Nat} (h : len ≤ (N - 2) / 2 * 64) (h4 : 4 ≤ N) : 2 ≤ at0 N n ∧ at0 N n + rnds len ≤ N := by
  have h1 : (n + 1) % 2 ≤ 1 := by omega
  have h2 := Nat.mul_le_mul h1 (Nat.le_refl ((N - 2) / 2))
  unfold rnds at0; omega
/-- What a Put leaves where nothing is cut. -/
theorem Good.putPlain {S : DS} {n : Nat} {t : ByteArray} (h : Good S n t) (hc : S.cut = none) (hnb : n < 1000000) {s : ByteArray} (hs : s.size ≤ room6 S) {S' : DS} {x : Int} (hv : Saved S (n + 1) s S' x) :
    x = 0 ∧ Good S' (n + 1) s ∧ S'.cut = none ∧ S'.cnt = S.cnt + costN s.size ∧ S'.N = S.N := by
  obtain ⟨f2, fN⟩ := at0_fit (n := n + 1) (len := s.size) hs h.N4
  obtain ⟨eW, e0⟩ := wrI_plain h.up hc (at0 S.N (n + 1)) s (rnds s.size) fN
  rw [h.sn, List.nil_append] at eW
  obtain ⟨T, hT⟩ : ∃ T : DS, T = { S with base := cur S.base (wrL (at0 S.N (n + 1)) s (rnds s.size)), since := [], cnt := S.cnt + rnds s.size + 1 } := ⟨_, rfl⟩
  have eS : (wrI S (at0 S.N (n + 1)) s (rnds s.size)).sync = (T, 0) := by
    rw [eW, hT]; unfold DS.sync; rw [if_neg (by simp [h.up])]; simp only [DS.come, hc, DS.settle, DS.did, DS.now]
  have hlt : ((n + 1 + 1) % 2) < 2 := by omega
  have h4 := h.N4
  have hcT : T.cut = none := by rw [hT]; exact hc
  obtain ⟨U, hU⟩ : ∃ U : DS, U = { T with since := [((n + 1 + 1) % 2, hd (n + 1) s.size)], cnt := T.cnt + 1 } := ⟨_, rfl⟩
  have eH : T.write (((n + 1 + 1) % 2 : Nat) : Int) (hd (n + 1) s.size) = (U, 0) := by
    unfold DS.write
    rw [if_neg (by simp [hT, h.up]), if_neg (by simp only [hd_size]; rw [hT]; simp only; omega)]
    have hsT : T.since = [] := by rw [hT]
    simp only [DS.come, hcT, DS.put, DS.did, hsT, List.nil_append, Int.toNat_natCast, hU]
  obtain ⟨V, hV⟩ : ∃ V : DS, V = { U with base := upd T.base ((n + 1 + 1) % 2) (hd (n + 1) s.size), since := [], cnt := U.cnt + 1 } := ⟨_, rfl⟩
  have eV : U.sync = (V, 0) := by
    unfold DS.sync
    rw [if_neg (by rw [hU]; simp only; rw [hT]; simp [h.up])]
    simp only [DS.come, DS.settle, DS.did, hV, DS.now, hU, hcT]
    rfl
  cases hv with
  | text i hi h0 he => exact absurd (e0 i hi) he
  | sync h0 he => rw [eS] at he; exact absurd rfl he
  | head h0 h1 he => rw [eS] at he; simp only at he; rw [eH] at he; exact absurd rfl he
  | last h0 h1 h2 =>
    rw [eS]; simp only; rw [eH]; simp only; rw [eV]; simp only
    have hb : ∀ k, V.base k = if k = (n + 1 + 1) % 2 then hd (n + 1) s.size else if at0 S.N (n + 1) ≤ k ∧ k < at0 S.N (n + 1) + rnds s.size then chk s (k - at0 S.N (n + 1)) else S.base k := by
      intro k; rw [hV]; simp only [upd]
      by_cases c : k = (n + 1 + 1) % 2
      · rw [if_pos c, if_pos c]
      · rw [if_neg c, if_neg c, hT]; simp only; exact cur_wrL _ _ _ _ _
    have hVN : V.N = S.N := by rw [hV, hU, hT]
    have hVs : V.since = [] := by rw [hV]
    refine ⟨trivial, ⟨by rw [hV, hU, hT]; exact h.up, by rw [hVN]; exact h4, hVs, by omega, ?_, ?_, by omega, by unfold room6; rw [hVN]; exact hs, ?_⟩, by rw [hV, hU, hT]; exact hc, ?_, hVN⟩
    · rw [hb, if_pos rfl]
    · refine ⟨t.size, ?_, by unfold room6; rw [hVN]; exact h.r, fun c => h.z (by omega)⟩
      rw [hb, if_neg (by omega), if_neg (by omega)]; exact h.hn
    · refine txt_text fun j hj => ?_
      rw [now_base hVs, hVN, hb, if_neg (by omega), if_pos (by omega)]; congr 1; omega
    · rw [hV, hU, hT]; simp only; unfold costN rnds; split <;> omega
end Go.Proofs.Ytimhjheigejjmab
