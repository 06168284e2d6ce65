/- Logs' twins are rows of one's own; how many lists logs have. No walk is in this text. mkLgTy.py writes it. -/
import Derived.Test.YtnfhbmlmemifjaaGreatDoorZ22
import Derived.Test.YtnfhbmlmemifjaaGreatDoorZ21
import Derived.Test.YtnfhbmlmemifjaaGreatDoorZ29
namespace Go.Proofs.YtnfhbmlmemifjaaGreatDoor
open Go.RowKit Go.Maps
theorem own_rawG {B : Nat} {e : TypeId} {c n cap g : Nat} {w : World} {A : Array Value} (h : w.heap[g]? = some (.cells A e (0, 0))) (hB : B ≤ g) (hs : A.size = cap * c) (hn : n ≤ cap) (hc : cap ≤ maxLen) : w.ownsRow B e c (.slice (some ⟨g, 0, none⟩) n cap) n (A.toList.take (n * c)) := by
  refine ⟨?_, Or.inr ⟨g, cap, A, rfl, hB, h, hn, hc, hs, rfl⟩⟩
  have := Nat.mul_le_mul_right c hn
  rw [List.length_take, Array.length_toList, hs]
  omega
theorem own_prefixG {B : Nat} {e : TypeId} {c N n cap g : Nat} {w : World} {xs : List Value} (h : w.ownsRow B e c (.slice (some ⟨g, 0, none⟩) N cap) N xs) (hn : n ≤ N) : w.ownsRow B e c (.slice (some ⟨g, 0, none⟩) n cap) n (xs.take (n * c)) := by
  rcases h.2 with ⟨q, _⟩ | ⟨g', cp, cur, q, h0, hg, q1, q2, q3, q4⟩
  · cases q
  · cases q
    have := own_rawG (n := n) hg h0 q3 (by omega) q2
    rw [← q4, List.take_take, Nat.min_eq_left (Nat.mul_le_mul_right c hn)]
    exact this
theorem twint_ownG {B g : Nat} {w : World} {l : List Int} (h : Twint w g l) (hB : B ≤ g) (hl : l.length ≤ 1048576) : Ints B w (.slice (some ⟨g, 0, none⟩) l.length (l.length + 2)) l := by
  have := own_rawG (B := B) (c := 1) (n := l.length) (cap := l.length + 2) h hB (by simp [tw]) (by omega) (by unfold maxLen; omega)
  have e : (tw l (mkI l.length) (mkI (l.length + 1))).toList.take (l.length * 1) = l.map I64 := by
    unfold tw
    rw [List.take_append_of_le_length (by simp), List.take_of_length_le (by simp)]
    rfl
  rw [e] at this
  exact this
theorem rwC_riG (l : List (List Int)) : rwC l = riC l := by
  unfold rwC riC
  rw [List.flatMap_def]
  rfl
theorem rwC_lenPG {c : Nat} : ∀ {l : List (List Int)}, (∀ q ∈ l, q.length = c) → (rwC l).length = l.length * c
  | [], _ => by simp [rwC]
  | a :: r, h => by
    have := rwC_lenPG (l := r) (fun q hq => h q (by simp [hq]))
    have ha := h a (by simp)
    simp only [rwC, List.flatMap_cons, List.length_append, List.length_cons] at this ⊢
    rw [this, Nat.add_mul, icC, List.length_map, ha]
    omega
theorem twR_ownG {B c g : Nat} {t : TypeId} {w : World} {l : List (List Int)} (h : TwR c t w g l) (hc : 0 < c) (hB : B ≤ g) (hl : l.length ≤ 1048576) (hf : ∀ q ∈ l, q.length = c) : w.ownsRow B t c (.slice (some ⟨g, 0, none⟩) l.length (l.length + 2)) l.length (riC l) := by
  have hz := rwC_lenPG hf
  have := own_rawG (B := B) (c := c) (n := l.length) (cap := l.length + 2) h hB (by
    unfold twR
    rw [List.size_toArray, List.length_append, List.length_append, hz, icC, icC, List.length_map, List.length_map, mkR_len hc, mkR_len hc, Nat.add_mul]
    omega) (by omega) (by unfold maxLen; omega)
  have e : (twR l (mkR c l.length) (mkR c (l.length + 1))).toList.take (l.length * c) = riC l := by
    unfold twR
    rw [List.take_append_of_le_length (by rw [hz]; exact Nat.le_refl _), List.take_of_length_le (by rw [hz]; exact Nat.le_refl _), rwC_riG]
  rw [e] at this
  exact this
theorem treeC_lenPG : ∀ {T : List Nd} {us : List Value}, us.length = T.length → (treeC T us).length = T.length * 4
  | [], [], _ => by simp [treeC]
  | [], u :: r, h => by simp at h
  | n :: T, [], h => by simp at h
  | n :: T, u :: us, h => by
    have := treeC_lenPG (T := T) (us := us) (by simpa using h)
    simp only [treeC, List.zipWith_cons_cons, List.flatten_cons, List.length_append, List.length_cons] at this ⊢
    rw [this]
    simp [ndC]
    omega
theorem twT_ownG {B g : Nat} {w : World} {T : List Nd} {us : List Value} (h : TwT B w g T us) (hu : ∀ n ∈ T, n.un.length ≤ 1048576) : OTr B w (.slice (some ⟨g, 0, none⟩) T.length (T.length + 2)) T us := by
  have h1 := own_prefixG (n := T.length) h.own (by omega)
  have e : (treeC (T ++ [mkN T.length, mkN (T.length + 1)]) (us ++ [.slice none 0 0, .slice none 0 0])).take (T.length * 4) = treeC T us := by
    have hl := treeC_lenPG h.ul
    have : treeC (T ++ [mkN T.length, mkN (T.length + 1)]) (us ++ [.slice none 0 0, .slice none 0 0]) = treeC T us ++ treeC [mkN T.length, mkN (T.length + 1)] [.slice none 0 0, .slice none 0 0] := by
      unfold treeC
      rw [List.zipWith_append h.ul.symm, List.flatten_append]
    rw [this, List.take_append_of_le_length (by rw [hl]; exact Nat.le_refl _), List.take_of_length_le (by rw [hl]; exact Nat.le_refl _)]
  rw [e] at h1
  refine ⟨h.ul, h1, fun i n u hn hx => ?_, h.apart⟩
  obtain ⟨g', e1, e2, e3⟩ := h.un i n u hn hx
  rw [e1]
  exact twint_ownG e3 e2 (hu n (List.mem_of_getElem? hn))
theorem twC_ownG {B : Nat} {w : World} {c : Cm} {ga gr gq gj gn : Nat} {us : List Value} (h : TwC B w c ga gr gq gj gn us) (hs : SmC c) (hA : c.adds.length ≤ 262144) (hR : c.rem.length ≤ 262144) (hQ : c.seals.length ≤ 262144) (hJ : c.joins.length ≤ 262144) (hU : ∀ n ∈ c.next, n.un.length ≤ 262144) : OC B w c (twX c ga gr gq gj gn) us :=
  ⟨twR_ownG h.adds (by decide) h.la (by omega) (fun q hq => (hs.fa q hq).1), twint_ownG h.rem h.lr (by omega), twR_ownG h.seals (by decide) h.lq (by omega) (fun q hq => (hs.fq q hq).1), twR_ownG h.joins (by decide) h.lj (by omega) (fun q hq => (hs.fj q hq).1), twT_ownG h.next (fun n hn => Nat.le_trans (hU n hn) (by decide)), fun i u k hu hk => by
    have := h.un u (List.mem_of_getElem? hu)
    intro q
    have q' : some gr = some k := q
    exact this (by rw [hk, ← q'])⟩
def plX (c : Cm) (p : Pl) : Cv × List Value := (twX c p.ga p.gr p.gq p.gj p.gn, p.us)
theorem rows_plX (l : List Cm) (ps : List Pl) : rowsK kCm l (List.zipWith plX l ps) = rowsL l ps := by
  unfold rowsK rowsL
  apply List.ext_getElem?
  intro i
  rw [List.getElem?_zipWith, List.getElem?_zipWith, List.getElem?_zipWith]
  cases l[i]? <;> cases ps[i]? <;> rfl
theorem plX_at {l : List Cm} {ps : List Pl} {i : Nat} {x : Cv × List Value} (h : (List.zipWith plX l ps)[i]? = some x) : ∃ c p, l[i]? = some c ∧ ps[i]? = some p ∧ x = plX c p := by
  rw [List.getElem?_zipWith] at h
  cases hc : l[i]? with
  | none => rw [hc] at h; simp at h
  | some c =>
    cases hp : ps[i]? with
    | none => rw [hc, hp] at h; simp at h
    | some p => rw [hc, hp] at h; simp at h; exact ⟨c, p, rfl, rfl, h.symm⟩
theorem plX_Z {c : Cm} {p : Pl} {B : Nat} {W : World} (_h : p.tw B W c) {k : Nat} (hk : k ∈ kCm.Z (plX c p)) : k ∈ p.blocks := by
  have hk' : k ∈ cvZ (twX c p.ga p.gr p.gq p.gj p.gn) p.us := hk
  unfold Pl.blocks
  simp only [List.mem_cons, List.mem_filterMap]
  rcases cvZ_cases hk' with q | q | q | q | q
  · have : p.ga = k := Option.some.inj q
    exact Or.inl this.symm
  · have : p.gr = k := Option.some.inj q
    exact Or.inr (Or.inl this.symm)
  · have : p.gq = k := Option.some.inj q
    exact Or.inr (Or.inr (Or.inl this.symm))
  · have : p.gj = k := Option.some.inj q
    exact Or.inr (Or.inr (Or.inr (Or.inl this.symm)))
  · rcases zK_cases q with q | ⟨i, u, hu, q⟩
    · have : p.gn = k := Option.some.inj q
      exact Or.inr (Or.inr (Or.inr (Or.inr (Or.inl this.symm))))
    · exact Or.inr (Or.inr (Or.inr (Or.inr (Or.inr ⟨u, List.mem_of_getElem? hu, Option.mem_toList.1 q⟩))))
theorem flat_take {c : Nat} {R M : List (List Value)} (h : ∀ r ∈ R, r.length = c) : (R ++ M).flatten.take (R.length * c) = R.flatten := by
  rw [List.flatten_append, List.take_append_of_le_length (by rw [fl_len h]; exact Nat.le_refl _), List.take_of_length_le (by rw [fl_len h]; exact Nat.le_refl _)]
theorem TwCs.own {B G : Nat} {W : World} {l : List Cm} {ps : List Pl} (h : TwCs B W G l ps) (hl : l.length ≤ 262144) (hs : ∀ c ∈ l, SmC c ∧ CmB c) : OwL kCm B W (.slice (some ⟨G, 0, none⟩) l.length (l.length + 2)) l (List.zipWith plX l ps) := by
  have hz : (rowsL l ps).length = l.length := by rw [rowsL_size (by rw [h.pl]; exact Nat.le_refl _), h.pl]
  refine ⟨by simp [h.pl], ?_, fun i c x hc hx => ?_, fun i j x y k hx hy hk hk2 => ?_, fun k i x hk hx hz => ?_⟩
  · have := own_rawG (B := B) (c := 15) (n := l.length) (cap := l.length + 2) h.blk h.low (by
      rw [List.size_toArray, fl_len h.all, List.length_append, hz]; rfl) (by omega) (by unfold maxLen; omega)
    rw [List.toList_toArray, ← hz, flat_take rowsL_len, hz, ← rows_plX] at this
    exact this
  · obtain ⟨c', p, hc', hp, rfl⟩ := plX_at hx
    rw [hc] at hc'
    cases hc'
    have hm := List.mem_of_getElem? hc
    have hb := (hs c hm).2
    exact twC_ownG (h.each i c p hc hp) (hs c hm).1 hb.a hb.r hb.q hb.j hb.u
  · obtain ⟨c, p, hc, hp, rfl⟩ := plX_at hx
    obtain ⟨d, q, hd, hq, rfl⟩ := plX_at hy
    exact h.apart i j p q k hp hq (plX_Z (h.each i c p hc hp) hk) (plX_Z (h.each j d q hd hq) hk2)
  · obtain ⟨c, p, hc, hp, rfl⟩ := plX_at hx
    have e : G = k := Option.some.inj hk
    exact h.nog i p k hp (plX_Z (h.each i c p hc hp) hz) e.symm
def lqX (p : Int × List Cm) (q : Lq) : Value × List (Cv × List Value) := (.slice (some ⟨q.g, 0, none⟩) p.2.length (p.2.length + 2), List.zipWith plX p.2 q.ps)
theorem rows_lqX (l : List (Int × List Cm)) (ps : List Lq) : rowsK kLg l (List.zipWith lqX l ps) = rowsG l ps := by
  unfold rowsK rowsG
  apply List.ext_getElem?
  intro i
  rw [List.getElem?_zipWith, List.getElem?_zipWith, List.getElem?_zipWith]
  cases l[i]? <;> cases ps[i]? <;> rfl
theorem lqX_at {l : List (Int × List Cm)} {ps : List Lq} {i : Nat} {x : Value × List (Cv × List Value)} (h : (List.zipWith lqX l ps)[i]? = some x) : ∃ c p, l[i]? = some c ∧ ps[i]? = some p ∧ x = lqX c p := by
  rw [List.getElem?_zipWith] at h
  cases hc : l[i]? with
  | none => rw [hc] at h; simp at h
  | some c =>
    cases hp : ps[i]? with
    | none => rw [hc, hp] at h; simp at h
    | some p => rw [hc, hp] at h; simp at h; exact ⟨c, p, rfl, rfl, h.symm⟩
theorem lqX_Z {c : Int × List Cm} {p : Lq} {B : Nat} {W : World} (h : p.tw B W c) {k : Nat} (hk : k ∈ kLg.Z (lqX c p)) : k ∈ p.blocks := by
  have hk' : k ∈ zK kCm (lqX c p).1 (lqX c p).2 := hk
  unfold Lq.blocks
  rw [List.mem_cons]
  rcases zK_cases hk' with q | ⟨i, x, hx, q⟩
  · have : p.g = k := Option.some.inj q
    exact Or.inl this.symm
  · obtain ⟨d, r, hd, hr, rfl⟩ := plX_at hx
    exact Or.inr (List.mem_flatMap.2 ⟨r, List.mem_of_getElem? hr, plX_Z (TwCs.each h i d r hd hr) q⟩)
theorem TwLs.own {B G : Nat} {W : World} {l : List (Int × List Cm)} {ps : List Lq} (h : TwLs B W G l ps) (hl : l.length ≤ 262144) (hs : ∀ p ∈ l, SmG p ∧ LgB p) : OwL kLg B W (.slice (some ⟨G, 0, none⟩) l.length (l.length + 2)) l (List.zipWith lqX l ps) := by
  have hz : (rowsG l ps).length = l.length := by rw [rowsG_size (by rw [h.pl]; exact Nat.le_refl _), h.pl]
  refine ⟨by simp [h.pl], ?_, fun i c x hc hx => ?_, fun i j x y k hx hy hk hk2 => ?_, fun k i x hk hx hz => ?_⟩
  · have := own_rawG (B := B) (c := 2) (n := l.length) (cap := l.length + 2) h.blk h.low (by
      rw [List.size_toArray, fl_len h.all, List.length_append, hz]; rfl) (by omega) (by unfold maxLen; omega)
    rw [List.toList_toArray, ← hz, flat_take rowsG_len, hz, ← rows_lqX] at this
    exact this
  · obtain ⟨c', p, hc', hp, rfl⟩ := lqX_at hx
    rw [hc] at hc'
    cases hc'
    have hm := List.mem_of_getElem? hc
    exact TwCs.own (h.each i c p hc hp) (hs c hm).2.1 (fun d hd => ⟨(hs c hm).1.c d hd, (hs c hm).2.2 d hd⟩)
  · obtain ⟨c, p, hc, hp, rfl⟩ := lqX_at hx
    obtain ⟨d, q, hd, hq, rfl⟩ := lqX_at hy
    exact h.apart i j p q k hp hq (lqX_Z (h.each i c p hc hp) hk) (lqX_Z (h.each j d q hd hq) hk2)
  · obtain ⟨c, p, hc, hp, rfl⟩ := lqX_at hx
    have e : G = k := Option.some.inj hk
    exact h.nog i p k hp (lqX_Z (h.each i c p hc hp) hz) e.symm
theorem cmB_of {c : Cm} (h : cmN c ≤ 262144) : CmB c := by
  unfold cmN at h
  exact ⟨by omega, by omega, by omega, by omega, by omega, fun n hn => by have := usum_mem hn; omega⟩
theorem smB_of {c : Cm} (h : CmB c) : SmB c := ⟨Nat.le_trans h.a (by decide), Nat.le_trans h.r (by decide), Nat.le_trans h.q (by decide), Nat.le_trans h.j (by decide), Nat.le_trans h.n (by decide), fun n hn => Nat.le_trans (h.u n hn) (by decide)⟩
theorem lgB_of {l : List Lg} (hb : l.length + lsN l ≤ 262144) : ∀ p ∈ l, LgB p := fun p hp => by
  have h1 : lgN p ≤ lsN l := mem_sum (f := lgN) hp
  unfold lgN at h1
  refine ⟨by omega, fun c hc => ?_⟩
  have h2 : cmN c ≤ csN p.2 := mem_sum (f := cmN) hc
  exact cmB_of (by omega)
theorem zf_len {α ξ : Type} {P : α → ξ → List Pc} (f : α → Nat) (h : ∀ a x, (P a x).length ≤ f a) : ∀ (l : List α) (xs : List ξ), (List.zipWith P l xs).flatten.length ≤ (l.map f).foldr (· + ·) 0
  | [], _ => by simp
  | _ :: _, [] => by simp
  | a :: l, x :: xs => by
    have := zf_len f h l xs
    have := h a x
    simp only [List.zipWith_cons_cons, List.flatten_cons, List.length_append, List.map_cons, List.foldr_cons]
    omega
theorem sum_one {α : Type} : ∀ l : List α, (l.map fun _ => 1).foldr (· + ·) 0 = l.length
  | [] => rfl
  | _ :: l => by simp only [List.map_cons, List.foldr_cons, sum_one l, List.length_cons]; omega
theorem sum_two {α : Type} {f g : α → Nat} {a b : Nat} (h : ∀ x, a * f x ≤ b * g x) : ∀ l : List α, a * (l.map f).foldr (· + ·) 0 ≤ b * (l.map g).foldr (· + ·) 0
  | [] => by simp
  | x :: l => by
    have := sum_two h l
    have := h x
    simp only [List.map_cons, List.foldr_cons, Nat.mul_add]
    omega
theorem sum_add {α : Type} {f : α → Nat} {c : Nat} : ∀ l : List α, (l.map fun x => f x + c).foldr (· + ·) 0 = (l.map f).foldr (· + ·) 0 + c * l.length
  | [] => by simp
  | x :: l => by simp only [List.map_cons, List.foldr_cons, sum_add l, List.length_cons, Nat.mul_add]; omega
theorem pkNd_len (T : KS) (h : T5 T) (v : Value) (l : List Nd) (xs : List Value) : ((pkNd T h).L 19 v l xs).length ≤ l.length + 1 := by
  have := zf_len (P := (pkNd T h).P) (fun _ => 1) (fun a x => by show [_].length ≤ 1; simp) l xs
  rw [sum_one] at this
  unfold PK.L
  rw [List.length_append, List.length_singleton]
  omega
theorem pkCm_len (T : KS) (h : T5 T) (c : Cm) (x : Cv × List Value) : ((pkCm T h).P c x).length ≤ c.next.length + 5 := by
  show ((pkNd T h).L 19 x.1.nv c.next x.2 ++ cmPt c x.1).length ≤ _
  have := pkNd_len T h x.1.nv c.next x.2
  rw [List.length_append]
  simp only [cmPt, List.length_cons, List.length_nil]
  omega
theorem csN_pos : ∀ l : List Cm, l.length ≤ csN l
  | [] => by simp
  | c :: l => by
    have := csN_pos l
    unfold csN at this ⊢
    simp only [List.map_cons, List.foldr_cons, List.length_cons]
    have : 1 ≤ cmN c := by unfold cmN; omega
    omega
theorem pkLg_len (T : KS) (h : T5 T) (hc : T.D 21 = some kgCommit.k) (p : Int × List Cm) (x : Value × List (Cv × List Value)) : 2 * ((pkLg T h hc).P p x).length ≤ 5 * lgN p := by
  show 2 * ((pkCm T h).L 21 x.1 p.2 x.2).length ≤ _
  have h1 := zf_len (P := (pkCm T h).P) (fun c => cmN c + 4) (fun c x => Nat.le_trans (pkCm_len T h c x) (by unfold cmN; omega)) p.2 x.2
  rw [sum_add] at h1
  have h2 := csN_pos p.2
  unfold PK.L lgN
  rw [List.length_append, List.length_singleton]
  unfold csN at h2 ⊢
  omega
def lgH (p : Int × List Cm) : Nat := 5 * lgN p / 2
theorem logs_len (T : KS) (h : T5 T) (hc : T.D 21 = some kgCommit.k) (v : Value) (l : List Lg) (xs : List (Value × List (Cv × List Value))) (hb : l.length + lsN l ≤ 262144) : ((pkLg T h hc).L 28 v l xs).length ≤ 655361 := by
  have h1 := zf_len (P := (pkLg T h hc).P) lgH (fun p x => by have := pkLg_len T h hc p x; unfold lgH; omega) l xs
  have h2 := sum_two (f := lgH) (g := lgN) (a := 2) (b := 5) (fun p => by unfold lgH; omega) l
  unfold PK.L
  rw [List.length_append, List.length_singleton]
  unfold lsN at hb
  omega
end Go.Proofs.YtnfhbmlmemifjaaGreatDoor
