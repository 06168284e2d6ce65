/- Texts joined: RoA RoB LgUnP. -/
import Derived.Test.YtnfhbmlmemifjaaGreatDoorZ05
import Derived.Lib.AppendZerosOnto
import Derived.Lib.Walk
import Derived.Maps.AppendAt
/- slices.Grow of nothing, slices.Concat of two rows, at int. -/
namespace Go.Proofs.YtnfhbmlmemifjaaGreatDoor
open Go.RowKit Go.Maps
end Go.Proofs.YtnfhbmlmemifjaaGreatDoor

/- The members of either tree: rising, each once; slices.Sort and slices.Compact of a row of one's own. -/
namespace Go.Proofs.YtnfhbmlmemifjaaGreatDoor
open Go.Shelf Go.RowKit Go.Maps Go.Sort
def srI (l : List Int) : List Int := l.mergeSort fun x y => decide (x ≤ y)
def uni (a b : List Int) : List Int := Lib.compact (srI (a ++ b))
theorem srI_len (l : List Int) : (srI l).length = l.length := by unfold srI; simp
theorem compact_upI {S : List Int} (hs : S.Pairwise (· ≤ ·)) : (Lib.compact S).Pairwise (· < ·) := by
  unfold Lib.compact Lib.compactUpTo
  rw [List.pairwise_map, List.pairwise_filter]
  rw [List.pairwise_iff_getElem]
  intro i j hi hj hij _ hkj
  simp only [List.length_range] at hi hj
  simp only [List.getElem_range] at hkj ⊢
  rw [getElem!_pos _ i (by simpa using hi), getElem!_pos _ j (by simpa using hj)]
  simp only [List.getElem_toArray]
  have h1 := (List.pairwise_iff_getElem.1 hs) i j hi hj hij
  rcases Int.lt_or_eq_of_le h1 with c | c
  · exact c
  · exfalso
    have h2 : S[j - 1]'(by omega) = S[j] := by
      have q1 : S[i] ≤ S[j - 1]'(by omega) := by
        rcases Nat.lt_or_ge i (j - 1) with d | d
        · exact (List.pairwise_iff_getElem.1 hs) i (j - 1) hi (by omega) d
        · have e : i = j - 1 := by omega
          subst e; exact Int.le_refl _
      have q2 := (List.pairwise_iff_getElem.1 hs) (j - 1) j (by omega) hj (by omega)
      omega
    have h3 : Lib.keeps S.toArray j = false := by
      refine Lib.keeps_neg (by omega) ?_
      rw [getElem!_pos _ j (by simpa using hj), getElem!_pos _ (j - 1) (by simp; omega)]
      simp [h2]
    rw [h3] at hkj; cases hkj
theorem compact_mem (S : List Int) (x : Int) : x ∈ Lib.compact S ↔ x ∈ S := by
  unfold Lib.compact Lib.compactUpTo
  constructor
  · intro h
    obtain ⟨j, hj, rfl⟩ := List.mem_map.1 h
    have hl : j < S.length := by simpa using (List.mem_filter.1 hj).1
    rw [getElem!_pos _ j (by simpa using hl)]
    simp
  · intro h
    obtain ⟨n, hn⟩ := List.getElem?_of_mem h
    have hl := (List.getElem?_eq_some_iff.1 hn).1
    induction n with
    | zero =>
      refine List.mem_map.2 ⟨0, List.mem_filter.2 ⟨List.mem_range.2 hl, Lib.keeps_lt_one _ 0 (by omega)⟩, ?_⟩
      rw [getElem!_pos _ 0 (by simpa using hl)]
      simpa using (List.getElem?_eq_some_iff.1 hn).2
    | succ n ih =>
      by_cases c : S[n + 1]'hl = S[n]'(by omega)
      · refine ih ?_ (by omega)
        rw [List.getElem?_eq_getElem (by omega), ← c]
        exact (List.getElem?_eq_getElem hl).symm.trans hn
      · refine List.mem_map.2 ⟨n + 1, List.mem_filter.2 ⟨List.mem_range.2 hl, Lib.keeps_pos ?_⟩, ?_⟩
        · rw [getElem!_pos _ (n + 1) (by simpa using hl), getElem!_pos _ (n + 1 - 1) (by simp; omega)]
          simpa using c
        · rw [getElem!_pos _ (n + 1) (by simpa using hl)]
          simpa using (List.getElem?_eq_some_iff.1 hn).2
theorem uni_mem (a b : List Int) (x : Int) : x ∈ uni a b ↔ x ∈ a ∨ x ∈ b := by
  unfold uni
  rw [compact_mem]
  unfold srI
  rw [List.mem_mergeSort, List.mem_append]
theorem uni_up (a b : List Int) : (uni a b).Pairwise (· < ·) := compact_upI (sorted_of _)
theorem ints_holds {B : Nat} {w : World} {g N cap : Nat} {l : List Int} (h : Ints B w (.slice (some ⟨g, 0, none⟩) N cap) l) : Holds (Value.int .i64) w g 0 l.toArray := fun j hj => by
  have hj' : j < l.length := by simpa using hj
  refine ⟨?_, ?_⟩
  · have := own_cell h (g := g) rfl (j := j) (u := .int .i64 l[j]) (by simp [I64, List.getElem?_eq_getElem hj'])
    rw [getElem!_pos _ j hj]; simpa using this
  · have := own_frozen h (g := g) rfl j; simpa using this
theorem own_blkI {B : Nat} {w : World} {e : TypeId} {c n g cap : Nat} {xs : List Value} (h : w.ownsRow B e c (.slice (some ⟨g, 0, none⟩) n cap) n xs) : ∃ cur, B ≤ g ∧ w.heap[g]? = some (.cells cur e (0, 0)) ∧ n ≤ cap ∧ cap ≤ maxLen ∧ cur.size = cap * c := by
  rcases h.2 with ⟨q, _⟩ | ⟨g', cp, cur, q, h0, hg, q1, q2, q3, q4⟩
  · cases q
  · cases q; exact ⟨cur, h0, hg, q1, q2, q3⟩
theorem putRow_block {w : World} {g off q : Nat} {cur : Array Value} {t : TypeId} {f : Nat × Nat} {d : Array Int} (h : w.heap[g]? = some (.cells cur t f)) : ∃ cur2, (putRow (Value.int .i64) (Sort.ahead w q) g off d).heap[g]? = some (.cells cur2 t f) ∧ cur2.size = cur.size := by
  refine ⟨putCells (Value.int .i64) off d cur, ?_, by simp [putCells]⟩
  simp only [putRow, mapBlock, Sort.ahead, Array.getElem?_modify, if_true, h, Option.map_some]
  rfl
theorem cell_blkI {w : World} {g i : Nat} {cur : Array Value} {t : TypeId} {f : Nat × Nat} {u : Value} (h : w.heap[g]? = some (.cells cur t f)) (hc : w.cell? ⟨g, i, none⟩ = some u) : cur[i]? = some u := by
  simpa [World.cell?, h] using hc
theorem ints_put {B : Nat} {w : World} {g N cap n : Nat} {l m r : List Int} (h : Ints B w (.slice (some ⟨g, 0, none⟩) N cap) l) (hN : N = l.length) (hm : (m ++ r).length = l.length) (hn : n = m.length) (q : Nat) : Ints B (putRow (Value.int .i64) (Sort.ahead w q) g 0 (m ++ r).toArray) (.slice (some ⟨g, 0, none⟩) n cap) m := by
  subst hN hn
  obtain ⟨cur, h0, hg, q1, q2, q3⟩ := own_blkI h
  have hml : m.length ≤ l.length := by rw [← hm, List.length_append]; omega
  have hH := ints_holds h
  have hH2 : Holds (Value.int .i64) (putRow (Value.int .i64) (Sort.ahead w q) g 0 (m ++ r).toArray) g 0 (m ++ r).toArray := holds_putRow _ _ _ _ _ _ (holds_ahead _ _ _ _ _ _ hH) (by simpa using hm)
  have hb : ∃ cur2, (putRow (Value.int .i64) (Sort.ahead w q) g 0 (m ++ r).toArray).heap[g]? = some (.cells cur2 3 (0, 0)) ∧ cur2.size = cur.size := putRow_block hg
  obtain ⟨cur2, hg2, hs2⟩ := hb
  refine ⟨by simp, Or.inr ⟨g, cap, cur2, rfl, h0, hg2, by omega, q2, by rw [hs2]; exact q3, ?_⟩⟩
  apply List.ext_getElem?
  intro j
  by_cases hj : j < m.length
  · rw [List.getElem?_take_of_lt (by omega), Array.getElem?_toList]
    have hc := (hH2 j (by simp; omega)).1
    rw [getElem!_pos _ j (by simp; omega)] at hc
    have e1 := cell_blkI hg2 hc
    rw [Nat.zero_add] at e1
    rw [e1, List.getElem?_map, List.getElem?_eq_getElem hj]
    simp [I64, List.getElem_append_left hj]
  · rw [List.getElem?_eq_none (by rw [List.length_take]; omega), List.getElem?_eq_none (by simp; omega)]
theorem sortI_any {B : Nat} {w : World} {v : Value} {l : List Int} (h : Ints B w v l) (hl : l.length ≤ 1000) :
    Calls Tryz.prog 39 #[v] w fun e w' => e = .returned (.tuple #[]) ∧ Ints B w' v (srI l) ∧ Fr v.ownBlock.toList w w' := by
  rcases Nat.eq_zero_or_pos l.length with h0 | h0
  · obtain ⟨a, c, rfl⟩ := own_slice h
    obtain rfl := List.eq_nil_of_length_eq_zero h0
    refine Calls.mono (AnyM.slices_Sort_int_none laysSo a c w) ?_
    rintro e w1 ⟨rfl, rfl⟩
    exact ⟨rfl, by simpa [srI] using h, Fr.refl _ _⟩
  · obtain ⟨g, cap, rfl, hg, hcap, _⟩ := own_open h h0
    refine Calls.mono (AnyM.slices_Sort_int laysSo g 0 cap l w (ints_holds h) hg (by omega)) ?_
    rintro e w1 ⟨rfl, n, os, rfl⟩
    have h1 := ints_put (m := srI l) (r := []) (n := l.length) h rfl (by simp [srI_len]) (srI_len l).symm n
    rw [List.append_nil] at h1
    refine ⟨rfl, own_keep h1 (fun k hk => ?_), (fr_putRow w g 0 n _).tr (fr_grow _ _ _)⟩
    exact (fr_grow [] _ os).block k (World.ownsRow.lt h1 k hk).2 (by simp)
theorem compactI_any {B : Nat} {w : World} {v : Value} {l : List Int} (h : Ints B w v l) (hl : l.length ≤ 1000) :
    Calls Tryz.prog 40 #[v] w fun e w' => ∃ v', e = .returned v' ∧ Ints B w' v' (Lib.compact l) ∧ Fr v.ownBlock.toList w w' := by
  rcases Nat.eq_zero_or_pos l.length with h0 | h0
  · obtain ⟨a, c, rfl⟩ := own_slice h
    obtain rfl := List.eq_nil_of_length_eq_zero h0
    refine Calls.mono (Any.slices_Compact_int_empty laysCo a c w) ?_
    rintro e w1 ⟨rfl, rfl⟩
    exact ⟨_, rfl, by simpa [Lib.compact, Lib.compactUpTo] using h, Fr.refl _ _⟩
  · obtain ⟨g, cap, rfl, hg, hcap, _⟩ := own_open h h0
    refine Calls.mono (Any.slices_Compact_int laysCo g 0 cap l w (ints_holds h) (by omega) hcap) ?_
    rintro e w1 ⟨rfl, n, rfl⟩
    have hle := compact_le l
    exact ⟨_, rfl, ints_put (m := Lib.compact l) (r := List.replicate (l.length - (Lib.compact l).length) 0) (n := (Lib.compact l).length) h rfl (by rw [List.length_append, List.length_replicate]; omega) rfl n, fr_putRow w g 0 n _⟩
end Go.Proofs.YtnfhbmlmemifjaaGreatDoor

/- The members of two trees, rising, each once: by selection, plainly. mkLgUn.py writes it. -/
namespace Go.Proofs.YtnfhbmlmemifjaaGreatDoor
open Go.RowKit Go.Maps
def lstI (out : List Int) : Int := out.getLast?.getD 0
def cnd (out : List Int) (x : Int) : Bool := decide (out.length = 0) || decide (lstI out < x)
theorem le_lst {out : List Int} (h : out.Pairwise (· < ·)) {y : Int} (hy : y ∈ out) : y ≤ lstI out := by
  rcases List.eq_nil_or_concat out with e | ⟨l, z, e⟩
  · subst e; simp at hy
  · rw [List.concat_eq_append] at e
    subst e
    unfold lstI
    rw [List.getLast?_append]
    simp only [List.getLast?_singleton, Option.some_or, Option.getD_some]
    rcases List.mem_append.1 hy with c | c
    · exact Int.le_of_lt ((List.pairwise_append.1 h).2.2 y c z (by simp))
    · simp at c; subst c; exact Int.le_refl _
theorem lst_mem {out : List Int} (h : out ≠ []) : lstI out ∈ out := by
  rcases List.eq_nil_or_concat out with e | ⟨l, z, e⟩
  · exact absurd e h
  · rw [List.concat_eq_append] at e
    subst e
    unfold lstI
    rw [List.getLast?_append]
    simp
theorem filt_lt {l : List Int} {p q : Int → Bool} (h : ∀ x ∈ l, q x = true → p x = true) {m : Int} (hm : m ∈ l) (hp : p m = true) (hq : q m = false) : (l.filter q).length < (l.filter p).length := by
  have le : ∀ l : List Int, (∀ x ∈ l, q x = true → p x = true) → (l.filter q).length ≤ (l.filter p).length := fun l => by
    induction l with
    | nil => intro _; simp
    | cons a l ih =>
      intro h
      have h1 := ih (fun x hx => h x (List.mem_cons_of_mem _ hx))
      have h2 := h a List.mem_cons_self
      cases hqa : q a
      · cases hpa : p a <;> simp [hqa, hpa] <;> omega
      · simp [hqa, h2 hqa]; omega
  induction l with
  | nil => simp at hm
  | cons a l ih =>
    have h1 := fun x hx => h x (List.mem_cons_of_mem a hx)
    have h2 := h a List.mem_cons_self
    by_cases e : m = a
    · subst e
      have := le l h1
      simp [hp, hq]
      omega
    · have hm' : m ∈ l := by
        rcases List.mem_cons.1 hm with c | c
        · exact absurd c e
        · exact c
      have := ih h1 hm'
      cases hqa : q a
      · cases hpa : p a <;> simp [hqa, hpa] <;> omega
      · simp [hqa, h2 hqa]; omega
structure Un (l out : List Int) : Prop where
  up : out.Pairwise (· < ·)
  sub : ∀ x ∈ out, x ∈ l
  all : ∀ x ∈ l, ∀ y ∈ out, x ≤ y → x ∈ out
  n : out.length + (l.filter (cnd out)).length ≤ l.length
theorem Un.start (l : List Int) : Un l [] := ⟨List.Pairwise.nil, by simp, by simp, by simpa using List.length_filter_le _ _⟩
theorem cnd_iff {out : List Int} (h : out.Pairwise (· < ·)) (x : Int) : cnd out x = true ↔ ∀ y ∈ out, y < x := by
  unfold cnd
  rw [Bool.or_eq_true, decide_eq_true_iff, decide_eq_true_iff]
  constructor
  · rintro (c | c) y hy
    · rw [List.eq_nil_of_length_eq_zero c] at hy; simp at hy
    · have := le_lst h hy; omega
  · intro c
    by_cases e : out = []
    · left; rw [e]; rfl
    · right; exact c _ (lst_mem e)
theorem Un.snoc {l out : List Int} (h : Un l out) {m : Int} (hm : m ∈ l) (hc : cnd out m = true) (hl : ∀ x ∈ l, cnd out x = true → m ≤ x) : Un l (out ++ [m]) := by
  have hlt := (cnd_iff h.up m).1 hc
  have up : (out ++ [m]).Pairwise (· < ·) := List.pairwise_append.2 ⟨h.up, by simp, fun a ha b hb => by simp at hb; subst hb; exact hlt a ha⟩
  refine ⟨up, fun x hx => ?_, fun x hx y hy hxy => ?_, ?_⟩
  · rcases List.mem_append.1 hx with c | c
    · exact h.sub x c
    · simp at c; subst c; exact hm
  · rcases List.mem_append.1 hy with c | c
    · exact List.mem_append_left _ (h.all x hx y c hxy)
    · simp at c
      subst c
      by_cases q : cnd out x = true
      · have := hl x hx q
        have : x = y := by omega
        subst this
        exact List.mem_append_right _ (by simp)
      · have hne : out ≠ [] := by rintro rfl; exact q rfl
        have hle : x ≤ lstI out := by
          unfold cnd at q
          rw [Bool.or_eq_true, decide_eq_true_iff, decide_eq_true_iff] at q
          omega
        exact List.mem_append_left _ (h.all x hx _ (lst_mem hne) hle)
  · have h1 := filt_lt (l := l) (p := cnd out) (q := cnd (out ++ [m])) (fun x _ hq => (cnd_iff h.up x).2 (fun y hy => (cnd_iff up x).1 hq y (List.mem_append_left _ hy))) hm hc (by
      cases q : cnd (out ++ [m]) m
      · rfl
      · have := (cnd_iff up m).1 q m (by simp); omega)
    have := h.n
    rw [List.length_append, List.length_singleton]
    omega
theorem eq_up : ∀ {a b : List Int}, a.Pairwise (· < ·) → b.Pairwise (· < ·) → (∀ x, x ∈ a ↔ x ∈ b) → a = b
  | [], [], _, _, _ => rfl
  | [], y :: b, _, _, h => by have := (h y).2 List.mem_cons_self; simp at this
  | x :: a, [], _, _, h => by have := (h x).1 List.mem_cons_self; simp at this
  | x :: a, y :: b, ha, hb, h => by
    rw [List.pairwise_cons] at ha hb
    have e : x = y := by
      rcases List.mem_cons.1 ((h x).1 List.mem_cons_self) with c | c
      · exact c
      · rcases List.mem_cons.1 ((h y).2 List.mem_cons_self) with d | d
        · exact d.symm
        · have := hb.1 x c; have := ha.1 y d; omega
    subst e
    rw [eq_up ha.2 hb.2 (fun z => ⟨fun hz => by
      rcases List.mem_cons.1 ((h z).1 (List.mem_cons_of_mem _ hz)) with c | c
      · subst c; have := ha.1 z hz; omega
      · exact c, fun hz => by
      rcases List.mem_cons.1 ((h z).2 (List.mem_cons_of_mem _ hz)) with c | c
      · subst c; have := hb.1 z hz; omega
      · exact c⟩)]
theorem Un.done {l out : List Int} (h : Un l out) (hd : ∀ x ∈ l, cnd out x = false) : out = Lib.compact (srI l) := by
  refine eq_up h.up (compact_upI (sorted_of _)) (fun x => ?_)
  rw [compact_mem]
  unfold srI
  rw [List.mem_mergeSort]
  refine ⟨h.sub x, fun hx => ?_⟩
  have q := hd x hx
  have hne : out ≠ [] := by rintro rfl; cases q
  have hle : x ≤ lstI out := by
    unfold cnd at q
    rw [Bool.or_eq_false_iff, decide_eq_false_iff_not, decide_eq_false_iff_not] at q
    omega
  exact h.all x hx _ (lst_mem hne) hle
def Lk1 (l out : List Int) (i : Nat) (k : Int) : Prop := (k = -1 ∧ ∀ (j : Nat) (x : Int), j < i → l[j]? = some x → cnd out x = false) ∨ ∃ (n : Nat) (m : Int), k = (n : Int) ∧ n < i ∧ l[n]? = some m ∧ cnd out m = true ∧ ∀ (j : Nat) (x : Int), j < i → l[j]? = some x → cnd out x = true → m ≤ x
theorem Lk1.start (l out : List Int) : Lk1 l out 0 (-1) := Or.inl ⟨rfl, fun j x h => by omega⟩
theorem Lk1.skip {l out : List Int} {i : Nat} {k x : Int} (h : Lk1 l out i k) (hx : l[i]? = some x) (hc : cnd out x = false ∨ ∃ (n : Nat) (m : Int), k = (n : Int) ∧ l[n]? = some m ∧ m ≤ x) : Lk1 l out (i + 1) k := by
  rcases h with ⟨rfl, h⟩ | ⟨n, m, rfl, hn, hm, hc1, h⟩
  · refine Or.inl ⟨rfl, fun j y hj hy => ?_⟩
    by_cases e : j = i
    · subst e
      rw [hx] at hy
      cases hy
      rcases hc with c | ⟨n, m, e, _⟩
      · exact c
      · omega
    · exact h j y (by omega) hy
  · refine Or.inr ⟨n, m, rfl, by omega, hm, hc1, fun j y hj hy hcy => ?_⟩
    by_cases e : j = i
    · subst e
      rw [hx] at hy
      cases hy
      rcases hc with c | ⟨n', m', e, hm', hle⟩
      · rw [c] at hcy; cases hcy
      · have : n' = n := by omega
        subst this
        rw [hm] at hm'
        cases hm'
        exact hle
    · exact h j y (by omega) hy hcy
theorem Lk1.take {l out : List Int} {i : Nat} {k x : Int} (h : Lk1 l out i k) (hx : l[i]? = some x) (hc : cnd out x = true) (hk : k = -1 ∨ ∃ (n : Nat) (m : Int), k = (n : Int) ∧ l[n]? = some m ∧ x < m) : Lk1 l out (i + 1) (i : Int) := by
  refine Or.inr ⟨i, x, rfl, by omega, hx, hc, fun j y hj hy hcy => ?_⟩
  by_cases e : j = i
  · subst e; rw [hx] at hy; cases hy; exact Int.le_refl _
  · rcases h with ⟨rfl, h⟩ | ⟨n, m, rfl, hn, hm, hc1, h⟩
    · rw [h j y (by omega) hy] at hcy; cases hcy
    · rcases hk with q | ⟨n', m', e', hm', hlt⟩
      · omega
      · have : n' = n := by omega
        subst this
        rw [hm] at hm'
        cases hm'
        have := h j y (by omega) hy hcy
        omega
end Go.Proofs.YtnfhbmlmemifjaaGreatDoor
