/- Pairs, plainly: what is packed, what is unpacked; maps by their names. Nothing of the program is in this text. -/
import Derived.Test.YtfnpeiikjiffeaaGreatBaA
import Derived.Test.YtfnpeiikjiffeaaGreatBaB
namespace Go.Proofs.YtfnpeiikjiffeaaGreat
open Go.RowKit

structure PP where
  n : ByteArray
  t : ByteArray
  g : Bool
theorem PP.eq {p q : PP} (h1 : p.n = q.n) (h2 : p.t = q.t) (h3 : p.g = q.g) : p = q := by cases p; cases q; simp_all
def blt (a b : ByteArray) : Prop := a.data.toList < b.data.toList
theorem blt_irrefl (a : ByteArray) : ¬ blt a a := List.lt_irrefl _
theorem blt_trans {a b c : ByteArray} (h : blt a b) (k : blt b c) : blt a c := List.lt_trans h k
theorem ba_ext {a b : ByteArray} (h : a.data.toList = b.data.toList) : a = b := ByteArray.ext (Array.ext' h)
theorem str_data (a : ByteArray) : Wi.str a.data.toList = a := ba_ext (by simp [Wi.str])
theorem data_str (l : List UInt8) : (Wi.str l).data.toList = l := by simp [Wi.str]
theorem size_list (a : ByteArray) : a.data.toList.length = a.size := Array.length_toList

/-! Bytes of texts and pairs. -/
def tb (s : ByteArray) : List UInt8 := Wi.enc s.size ++ s.data.toList
def pb (p : PP) : List UInt8 := tb p.n ++ tb p.t
def body (l : List PP) : List UInt8 := l.flatMap pb
def packB (l : List PP) : List UInt8 := Wi.enc l.length ++ body l
theorem body_snoc (l : List PP) (p : PP) : body (l ++ [p]) = body l ++ pb p := by simp [body]
theorem tb_len (s : ByteArray) : 1 ≤ (tb s).length ∧ (tb s).length ≤ s.size + 10 := by
  have := Wi.enc_length s.size
  simp only [tb, List.length_append, size_list]; omega
theorem mid_get {L A R : List UInt8} {k : Nat} (h : L.drop k = A ++ R) {j : Nat} (hj : j < A.length) : L[k + j]? = A[j]? := by
  have : L[k + j]? = (L.drop k)[j]? := by rw [List.getElem?_drop]
  rw [this, h, List.getElem?_append_left hj]
theorem tcnt_enc {L R : List UInt8} {k n : Nat} (hn : n ≤ 65536) (h : L.drop k = Wi.enc n ++ R) : Wi.tcnt L k = some ((n : Int), k + (Wi.enc n).length) := by
  have := Wi.tnum_enc L k n (by omega) (by omega) (fun j hj => mid_get h hj)
  unfold Wi.tcnt; rw [this]; simp only; rw [if_neg (by omega)]
theorem ttext_tb {L R : List UInt8} {k : Nat} {s : ByteArray} (hs : s.size ≤ 65536) (h : L.drop k = tb s ++ R) : Wi.ttext L k = some (s.data.toList, k + (tb s).length) := by
  have h1 := tcnt_enc (n := s.size) (R := s.data.toList ++ R) hs (by rw [h]; simp [tb])
  have hl := size_list s
  have hd : L.drop (k + (Wi.enc s.size).length) = s.data.toList ++ R := by rw [← List.drop_drop, h, tb, List.append_assoc, List.drop_left]
  have hlen : (L.drop k).length = (tb s).length + R.length := by rw [h, List.length_append]
  have h2 := tb_len s
  have h3 : (tb s).length = (Wi.enc s.size).length + s.size := by simp [tb]
  rw [List.length_drop] at hlen
  unfold Wi.ttext; rw [h1]; simp only [Int.toNat_natCast]
  rw [if_neg (by omega), hd, List.take_left' hl, h3, Nat.add_assoc]
theorem ttext_back {L : List UInt8} {k j : Nat} {a : List UInt8} (h : Wi.ttext L k = some (a, j)) : tb (Wi.str a) = (L.drop k).take (j - k) ∧ k < j ∧ j ≤ L.length ∧ a.length ≤ 65536 := by
  unfold Wi.ttext at h
  cases hc : Wi.tcnt L k with
  | none => rw [hc] at h; simp at h
  | some p =>
    obtain ⟨n, i⟩ := p
    rw [hc] at h; simp only at h
    obtain ⟨p1, p2, p3, p4, p5⟩ := Wi.tcnt_place hc
    split at h
    · cases h
    · rename_i hlt
      simp only [Option.some.injEq, Prod.mk.injEq] at h
      obtain ⟨rfl, rfl⟩ := h
      have hn : ∃ m : Nat, n = (m : Int) := ⟨n.toNat, by omega⟩
      obtain ⟨m, rfl⟩ := hn
      simp only [Int.toNat_natCast] at *
      have ht : Wi.tnum L k = some ((m : Int), i) := by
        unfold Wi.tcnt at hc
        cases ht : Wi.tnum L k with
        | none => rw [ht] at hc; simp at hc
        | some p =>
          rw [ht] at hc; simp only at hc
          split at hc
          · cases hc
          · rw [← hc]
      have he := Wi.enc_of_tnum ht
      have hal : ((L.drop i).take m).length = m := by rw [List.length_take, List.length_drop]; omega
      refine ⟨?_, by omega, by omega, by rw [hal]; omega⟩
      have hsz : (Wi.str ((L.drop i).take m)).size = m := by rw [← size_list, data_str, hal]
      rw [tb, hsz, data_str, he, show i + m - k = (i - k) + m from by omega, List.take_add, List.drop_drop, show k + (i - k) = i from by omega]

/-- So many pairs, taken from a place on. -/
def takeP (L : List UInt8) : Nat → Nat → Option (List PP × Nat)
  | 0, k => some ([], k)
  | n + 1, k => match Wi.ttext L k with
    | none => none
    | some (a, j) => match Wi.ttext L j with
      | none => none
      | some (b, i) => (takeP L n i).map fun r => (⟨Wi.str a, Wi.str b, false⟩ :: r.1, r.2)
theorem takeP_body {L R : List UInt8} (l : List PP) (k : Nat) (hl : ∀ p ∈ l, p.n.size ≤ 65536 ∧ p.t.size ≤ 65536 ∧ p.g = false) (h : L.drop k = body l ++ R) : takeP L l.length k = some (l, k + (body l).length) := by
  induction l generalizing k with
  | nil => simp [takeP, body]
  | cons p l ih =>
    obtain ⟨h1, h2, h3⟩ := hl p (by simp)
    have e0 : body (p :: l) = tb p.n ++ (tb p.t ++ body l) := by simp [body, pb]
    have d1 : L.drop k = tb p.n ++ (tb p.t ++ (body l ++ R)) := by rw [h, e0]; simp
    have d2 : L.drop (k + (tb p.n).length) = tb p.t ++ (body l ++ R) := by rw [← List.drop_drop, d1, List.drop_left]
    have d3 : L.drop (k + (tb p.n).length + (tb p.t).length) = body l ++ R := by rw [← List.drop_drop, d2, List.drop_left]
    have t1 := ttext_tb h1 d1
    have t2 := ttext_tb h2 d2
    simp only [List.length_cons, takeP, t1, t2]
    rw [ih _ (fun q hq => hl q (by simp [hq])) d3]
    simp only [Option.map_some, str_data, e0, List.length_append, Option.some.injEq, Prod.mk.injEq]
    refine ⟨?_, by omega⟩
    congr 1
    exact PP.eq rfl rfl h3.symm
theorem takeP_back {L : List UInt8} (n k : Nat) {l : List PP} {j : Nat} (hk : k ≤ L.length) (h : takeP L n k = some (l, j)) : l.length = n ∧ body l = (L.drop k).take (j - k) ∧ k ≤ j ∧ j ≤ L.length ∧ ∀ p ∈ l, p.n.size ≤ 65536 ∧ p.t.size ≤ 65536 ∧ p.g = false := by
  induction n generalizing k l j with
  | zero =>
    simp only [takeP, Option.some.injEq, Prod.mk.injEq] at h
    obtain ⟨rfl, rfl⟩ := h
    exact ⟨rfl, by simp [body], by omega, hk, by simp⟩
  | succ n ih =>
    simp only [takeP] at h
    cases h1 : Wi.ttext L k with
    | none => rw [h1] at h; simp at h
    | some p =>
      obtain ⟨a, i⟩ := p
      rw [h1] at h; simp only at h
      cases h2 : Wi.ttext L i with
      | none => rw [h2] at h; simp at h
      | some q =>
        obtain ⟨b, i2⟩ := q
        rw [h2] at h; simp only at h
        cases h3 : takeP L n i2 with
        | none => rw [h3] at h; simp at h
        | some r =>
          obtain ⟨l', j'⟩ := r
          rw [h3] at h
          simp only [Option.map_some, Option.some.injEq, Prod.mk.injEq] at h
          obtain ⟨rfl, rfl⟩ := h
          obtain ⟨a1, a2, a3, a4⟩ := ttext_back h1
          obtain ⟨b1, b2, b3, b4⟩ := ttext_back h2
          obtain ⟨c1, c2, c3, c4, c5⟩ := ih i2 b3 h3
          refine ⟨by simp [c1], ?_, by omega, c4, ?_⟩
          · have e0 : body (⟨Wi.str a, Wi.str b, false⟩ :: l') = tb (Wi.str a) ++ (tb (Wi.str b) ++ body l') := by simp [body, pb]
            rw [e0, a1, b1, c2, show j' - k = (i - k) + ((i2 - i) + (j' - i2)) from by omega, List.take_add, List.take_add, List.drop_drop, List.drop_drop, show k + (i - k) = i from by omega, show i + (i2 - i) = i2 from by omega]
          · intro p hp
            rcases List.mem_cons.1 hp with rfl | hp
            · exact ⟨by rw [← size_list, data_str]; exact a4, by rw [← size_list, data_str]; exact b4, rfl⟩
            · exact c5 p hp

/-! Pack, plainly. -/
def longB (p : PP) : Bool := decide (65536 < p.n.size) || decide (65536 < p.t.size)
def risesB (q : Option ByteArray) (s : ByteArray) : Bool := match q with
  | none => true
  | some a => decide (a.data.toList < s.data.toList)
def packE : Option ByteArray → List PP → Int
  | _, [] => 0
  | q, p :: l => if longB p = true then 3 else if p.g = true ∨ risesB q p.n = false then 1 else packE (some p.n) l
theorem packE_ok {q : Option ByteArray} {l : List PP} (h : packE q l = 0) : (∀ p ∈ l, p.n.size ≤ 65536 ∧ p.t.size ≤ 65536 ∧ p.g = false) ∧ (l.map (·.n)).Pairwise blt ∧ ∀ a, q = some a → ∀ p ∈ l, blt a p.n := by
  induction l generalizing q with
  | nil => exact ⟨by simp, List.Pairwise.nil, by simp⟩
  | cons p l ih =>
    simp only [packE] at h
    split at h
    · omega
    · rename_i h1
      split at h
      · omega
      · rename_i h2
        obtain ⟨i1, i2, i3⟩ := ih h
        have h3 : p.g = false := by cases e : p.g; rfl; exact absurd (Or.inl e) h2
        have h4 : p.n.size ≤ 65536 ∧ p.t.size ≤ 65536 := by
          simp only [longB, Bool.or_eq_true, decide_eq_true_eq] at h1; omega
        refine ⟨?_, ?_, ?_⟩
        · intro x hx
          rcases List.mem_cons.1 hx with rfl | hx
          · exact ⟨h4.1, h4.2, h3⟩
          · exact i1 x hx
        · refine List.Pairwise.cons ?_ i2
          intro b hb
          obtain ⟨x, hx, rfl⟩ := List.mem_map.1 hb
          exact i3 p.n rfl x hx
        · intro a ha x hx
          have hr : blt a p.n := by
            subst ha
            have : ¬ (risesB (some a) p.n = false) := fun c => h2 (Or.inr c)
            simpa [risesB, blt] using this
          rcases List.mem_cons.1 hx with rfl | hx
          · exact hr
          · exact blt_trans hr (i3 p.n rfl x hx)
theorem packE_zero {q : Option ByteArray} {l : List PP} (h1 : ∀ p ∈ l, p.n.size ≤ 65536 ∧ p.t.size ≤ 65536 ∧ p.g = false) (h2 : (l.map (·.n)).Pairwise blt) (h3 : ∀ a, q = some a → ∀ p ∈ l, blt a p.n) : packE q l = 0 := by
  induction l generalizing q with
  | nil => rfl
  | cons p l ih =>
    obtain ⟨a1, a2, a3⟩ := h1 p (by simp)
    have c := List.pairwise_cons.1 h2
    simp only [packE]
    rw [if_neg (by simp only [longB, Bool.or_eq_true, decide_eq_true_eq]; omega), if_neg]
    · exact ih (fun x hx => h1 x (by simp [hx])) c.2 (fun a ha x hx => by cases ha; exact c.1 _ (List.mem_map.2 ⟨x, hx, rfl⟩))
    · rintro (c1 | c1)
      · rw [a3] at c1; cases c1
      · cases q with
        | none => simp [risesB] at c1
        | some a => have := h3 a rfl p (by simp); simp only [risesB, decide_eq_false_iff_not] at c1; exact c1 this
theorem packE_vals (q : Option ByteArray) (l : List PP) : packE q l = 0 ∨ packE q l = 1 ∨ packE q l = 3 := by
  induction l generalizing q with
  | nil => exact Or.inl rfl
  | cons p l ih => simp only [packE]; split; exact Or.inr (Or.inr rfl); split; exact Or.inr (Or.inl rfl); exact ih _
/-- Pack: its text and its error. -/
def packX (l : List PP) : Int := if 256 < l.length then 3 else packE none l
def packS (l : List PP) : ByteArray := if packX l = 0 then Wi.str (packB l) else ByteArray.empty
theorem packX_ok {l : List PP} (h : packX l = 0) : l.length ≤ 256 ∧ packE none l = 0 := by
  unfold packX at h
  split at h
  · omega
  · exact ⟨by omega, h⟩
/-- Unpack. -/
def unpackT (s : ByteArray) : Option (List PP) := match Wi.tcnt s.data.toList 0 with
  | none => none
  | some (n, j) => if 256 < n then none else (takeP s.data.toList n.toNat j).map (·.1)
def unpackP (s : ByteArray) : Option (List PP) := match unpackT s with
  | none => none
  | some l => if packX l = 0 ∧ Wi.str (packB l) = s then some l else none
theorem unpackT_pack {l : List PP} (hl : ∀ p ∈ l, p.n.size ≤ 65536 ∧ p.t.size ≤ 65536 ∧ p.g = false) (hn : l.length ≤ 256) : unpackT (Wi.str (packB l)) = some l := by
  have h0 : (Wi.str (packB l)).data.toList = packB l := data_str _
  have h1 : Wi.tcnt (packB l) 0 = some ((l.length : Int), 0 + (Wi.enc (l.length : Int)).length) := tcnt_enc (R := body l) (by omega) (by simp [packB])
  unfold unpackT
  rw [h0, h1]; simp only [Int.toNat_natCast]
  rw [if_neg (by omega), takeP_body (R := []) l _ hl (by simp [packB])]
  rfl
theorem unpackP_pack {l : List PP} (h : packX l = 0) : unpackP (Wi.str (packB l)) = some l := by
  obtain ⟨h1, h2⟩ := packX_ok h
  unfold unpackP
  rw [unpackT_pack (packE_ok h2).1 h1]; simp only
  rw [if_pos ⟨h, trivial⟩]
theorem unpackP_some {s : ByteArray} {l : List PP} (h : unpackP s = some l) : packX l = 0 ∧ Wi.str (packB l) = s ∧ unpackT s = some l := by
  unfold unpackP at h
  cases e : unpackT s with
  | none => rw [e] at h; cases h
  | some l' =>
    rw [e] at h; simp only at h
    split at h
    · cases h; rename_i c; exact ⟨c.1, c.2, rfl⟩
    · cases h

/-! Maps by names. -/
abbrev MM := ByteArray → Option ByteArray
def MM.set (m : MM) (p : PP) : MM := fun k => if k = p.n then (if p.g = true then none else some p.t) else m k
def MM.chg (m : MM) (l : List PP) : MM := l.foldl MM.set m
def MM.nil : MM := fun _ => none
theorem chg_snoc (m : MM) (l : List PP) (p : PP) : m.chg (l ++ [p]) = (m.chg l).set p := by simp [MM.chg, List.foldl_append]
theorem chg_app (m : MM) (a b : List PP) : m.chg (a ++ b) = (m.chg a).chg b := by simp [MM.chg, List.foldl_append]
theorem chg_notin {m : MM} {l : List PP} {k : ByteArray} (h : ∀ p ∈ l, p.n ≠ k) : m.chg l k = m k := by
  induction l generalizing m with
  | nil => rfl
  | cons p l ih =>
    show (m.set p).chg l k = m k
    rw [ih (fun q hq => h q (by simp [hq]))]
    unfold MM.set; rw [if_neg (fun c => h p (by simp) c.symm)]
theorem chg_in {m : MM} {l : List PP} (hn : (l.map (·.n)).Nodup) {p : PP} (hp : p ∈ l) : m.chg l p.n = if p.g = true then none else some p.t := by
  induction l generalizing m with
  | nil => cases hp
  | cons q l ih =>
    have hc := List.nodup_cons.1 hn
    show (m.set q).chg l p.n = _
    rcases List.mem_cons.1 hp with rfl | hp
    · rw [chg_notin (fun x hx c => hc.1 (List.mem_map.2 ⟨x, hx, c⟩))]
      unfold MM.set; rw [if_pos rfl]
    · exact ih hc.2 hp
theorem chg_rev {m : MM} {l : List PP} (hn : (l.map (·.n)).Nodup) : m.chg l.reverse = m.chg l := by
  have hr : (l.reverse.map (·.n)).Nodup := by rw [List.map_reverse]; exact (List.reverse_perm _).nodup_iff.2 hn
  funext k
  by_cases h : ∃ p ∈ l, p.n = k
  · obtain ⟨p, hp, rfl⟩ := h
    rw [chg_in hn hp, chg_in hr (List.mem_reverse.2 hp)]
  · rw [chg_notin (fun p hp c => h ⟨p, hp, c⟩), chg_notin (fun p hp c => h ⟨p, List.mem_reverse.1 hp, c⟩)]
def inB (k : ByteArray) (ns : List ByteArray) : Bool := ns.any fun a => decide (a = k)
theorem inB_iff {k : ByteArray} {ns : List ByteArray} : inB k ns = true ↔ k ∈ ns := by simp [inB]
def chgE : List ByteArray → List PP → Int
  | _, [] => 0
  | ns, p :: l => if longB p = true then 3 else if p.g = true ∧ p.t.size ≠ 0 then 1 else if inB p.n ns = true then 13 else chgE (ns ++ [p.n]) l
theorem chgE_iff {ns : List ByteArray} {l : List PP} : chgE ns l = 0 ↔ (∀ p ∈ l, longB p = false ∧ ¬ (p.g = true ∧ p.t.size ≠ 0) ∧ p.n ∉ ns) ∧ (l.map (·.n)).Nodup := by
  induction l generalizing ns with
  | nil => simp [chgE]
  | cons p l ih =>
    simp only [chgE]
    by_cases h1 : longB p = true
    · rw [if_pos h1]
      constructor
      · intro c; omega
      · intro c; have := (c.1 p (by simp)).1; rw [h1] at this; cases this
    · rw [if_neg h1]
      by_cases h2 : p.g = true ∧ p.t.size ≠ 0
      · rw [if_pos h2]
        constructor
        · intro c; omega
        · intro c; exact absurd h2 (c.1 p (by simp)).2.1
      · rw [if_neg h2]
        by_cases h3 : p.n ∈ ns
        · rw [if_pos (inB_iff.2 h3)]
          constructor
          · intro c; omega
          · intro c; exact absurd h3 (c.1 p (by simp)).2.2
        · rw [if_neg (fun c => h3 (inB_iff.1 c)), ih]
          constructor
          · rintro ⟨c1, c2⟩
            refine ⟨?_, ?_⟩
            · intro x hx
              rcases List.mem_cons.1 hx with rfl | hx
              · exact ⟨by simpa using h1, h2, h3⟩
              · obtain ⟨d1, d2, d3⟩ := c1 x hx
                exact ⟨d1, d2, fun c => d3 (by simp [c])⟩
            · rw [List.map_cons]
              refine List.nodup_cons.2 ⟨fun c => ?_, c2⟩
              obtain ⟨x, hx, e⟩ := List.mem_map.1 c
              exact (c1 x hx).2.2 (by simp [e])
          · rintro ⟨c1, c2⟩
            rw [List.map_cons] at c2
            have c3 := List.nodup_cons.1 c2
            refine ⟨fun x hx => ?_, c3.2⟩
            obtain ⟨d1, d2, d3⟩ := c1 x (by simp [hx])
            refine ⟨d1, d2, fun c => ?_⟩
            rcases List.mem_append.1 c with c | c
            · exact d3 c
            · simp at c; exact c3.1 (List.mem_map.2 ⟨x, hx, c⟩)
theorem chgE_vals (ns : List ByteArray) (l : List PP) : chgE ns l = 0 ∨ chgE ns l = 1 ∨ chgE ns l = 3 ∨ chgE ns l = 13 := by
  induction l generalizing ns with
  | nil => exact Or.inl rfl
  | cons p l ih => simp only [chgE]; split; simp; split; simp; split; simp; exact ih _
theorem chgE_rev {l : List PP} : chgE [] l.reverse = 0 ↔ chgE [] l = 0 := by
  rw [chgE_iff, chgE_iff, List.map_reverse, (List.reverse_perm _).nodup_iff]
  simp
def Fits (m : MM) : Prop := ∀ k t, m k = some t → k.size ≤ 65536 ∧ t.size ≤ 65536
theorem fits_nil : Fits MM.nil := fun k t h => by cases h
theorem Fits.chg {m : MM} (h : Fits m) {l : List PP} (hl : ∀ p ∈ l, longB p = false) : Fits (m.chg l) := by
  induction l generalizing m with
  | nil => exact h
  | cons p l ih =>
    refine ih (m := m.set p) ?_ (fun q hq => hl q (by simp [hq]))
    intro k t hk
    unfold MM.set at hk
    split at hk
    · rename_i e; subst e
      have := hl p (by simp)
      simp only [longB, Bool.or_eq_false_iff, decide_eq_false_iff_not] at this
      split at hk
      · cases hk
      · cases hk; omega
    · exact h k t hk
structure Nm (m : MM) (ns : List ByteArray) : Prop where
  rise : ns.Pairwise blt
  mem : ∀ k, k ∈ ns ↔ (m k).isSome = true
theorem nodup_of_rise {ns : List ByteArray} (h : ns.Pairwise blt) : ns.Nodup := h.imp (fun {x y} (h : blt x y) e => by subst e; exact blt_irrefl _ h)
theorem Nm.uniq {m : MM} {a b : List ByteArray} (h : Nm m a) (k : Nm m b) : a = b := by
  refine List.Perm.eq_of_pairwise (le := blt) (fun x y _ _ h1 h2 => absurd (blt_trans h1 h2) (blt_irrefl _)) h.rise k.rise ((List.perm_ext_iff_of_nodup (nodup_of_rise h.rise) (nodup_of_rise k.rise)).2 fun x => by rw [h.mem, k.mem])
theorem nm_nil : Nm MM.nil [] := ⟨List.Pairwise.nil, fun k => by simp [MM.nil]⟩
def pairsOf (m : MM) (ns : List ByteArray) : List PP := ns.map fun k => ⟨k, (m k).getD ByteArray.empty, false⟩
theorem pairsOf_names (m : MM) (ns : List ByteArray) : (pairsOf m ns).map (·.n) = ns := by
  unfold pairsOf; rw [List.map_map]; exact (List.map_congr_left (fun _ _ => rfl)).trans (List.map_id _)
theorem pairsOf_ok {m : MM} {ns : List ByteArray} (h : Nm m ns) (hf : Fits m) : packE none (pairsOf m ns) = 0 := by
  refine packE_zero ?_ (by rw [pairsOf_names]; exact h.rise) (by simp)
  intro p hp
  obtain ⟨k, hk, rfl⟩ := List.mem_map.1 hp
  have := (h.mem k).1 hk
  cases e : m k with
  | none => rw [e] at this; cases this
  | some t => obtain ⟨a, b⟩ := hf k t e; exact ⟨a, by simpa [e] using b, rfl⟩
theorem pairsOf_chg {m : MM} {ns : List ByteArray} (h : Nm m ns) : MM.nil.chg (pairsOf m ns) = m := by
  have hn : ((pairsOf m ns).map (·.n)).Nodup := by rw [pairsOf_names]; exact nodup_of_rise h.rise
  funext k
  by_cases c : k ∈ ns
  · have hp : (⟨k, (m k).getD ByteArray.empty, false⟩ : PP) ∈ pairsOf m ns := List.mem_map.2 ⟨k, c, rfl⟩
    have := chg_in (m := MM.nil) hn hp
    simp only at this
    rw [this]
    have hs := (h.mem k).1 c
    cases e : m k with
    | none => rw [e] at hs; cases hs
    | some t => simp
  · rw [chg_notin (fun p hp e => c (by obtain ⟨x, hx, rfl⟩ := List.mem_map.1 hp; subst e; exact hx))]
    have : ¬ (m k).isSome = true := fun d => c ((h.mem k).2 d)
    cases e : m k with
    | none => rfl
    | some t => rw [e] at this; exact absurd rfl this
/-- The text of a store. -/
def packT (m : MM) (ns : List ByteArray) : ByteArray := Wi.str (packB (pairsOf m ns))
theorem packT_x {m : MM} {ns : List ByteArray} (h : Nm m ns) (hf : Fits m) (hn : ns.length ≤ 256) : packX (pairsOf m ns) = 0 := by
  unfold packX; rw [if_neg (by simp [pairsOf]; omega)]; exact pairsOf_ok h hf
theorem packS_of {m : MM} {ns : List ByteArray} (h : Nm m ns) (hf : Fits m) (hn : ns.length ≤ 256) : packS (pairsOf m ns) = packT m ns := by
  unfold packS; rw [if_pos (packT_x h hf hn)]; rfl
end Go.Proofs.YtfnpeiikjiffeaaGreat
