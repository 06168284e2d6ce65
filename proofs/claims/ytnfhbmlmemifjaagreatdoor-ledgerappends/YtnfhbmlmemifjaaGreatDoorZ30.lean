/- Texts joined: LgTy LgRhP. -/
import Derived.Test.YtnfhbmlmemifjaaGreatDoorZ22
import Derived.Test.YtnfhbmlmemifjaaGreatDoorZ21
import Derived.Test.YtnfhbmlmemifjaaGreatDoorZ29
import Derived.Test.YtnfhbmlmemifjaaGreatDoorZ25
/- Logs' twins are rows of one's own; how many lists logs have. No walk is in this text. mkLgTy.py writes it. -/
namespace Go.Proofs.YtnfhbmlmemifjaaGreatDoor
open Go.RowKit Go.Maps
theorem own_rawG {B : Nat} {e : TypeId} {c n cap g : Nat} {w : World} {A : Array Value} (h : w.heap[g]? = some (.cells A e (0, 0))) (hB : B ≤ g) (hs : A.size = cap * c) (hn : n ≤ cap) (hc : cap ≤ maxLen) : w.ownsRow B e c (.slice (some ⟨g, 0, none⟩) n cap) n (A.toList.take (n * c)) := by
  refine ⟨?_, Or.inr ⟨g, cap, A, rfl, hB, h, hn, hc, hs, rfl⟩⟩
  have := Nat.mul_le_mul_right c hn
  rw [List.length_take, Array.length_toList, hs]
  omega
theorem own_prefixG {B : Nat} {e : TypeId} {c N n cap g : Nat} {w : World} {xs : List Value} (h : w.ownsRow B e c (.slice (some ⟨g, 0, none⟩) N cap) N xs) (hn : n ≤ N) : w.ownsRow B e c (.slice (some ⟨g, 0, none⟩) n cap) n (xs.take (n * c)) := by
  rcases h.2 with ⟨q, _⟩ | ⟨g', cp, cur, q, h0, hg, q1, q2, q3, q4⟩
  · cases q
  · cases q
    have := own_rawG (n := n) hg h0 q3 (by omega) q2
    rw [← q4, List.take_take, Nat.min_eq_left (Nat.mul_le_mul_right c hn)]
    exact this
theorem twint_ownG {B g : Nat} {w : World} {l : List Int} (h : Twint w g l) (hB : B ≤ g) (hl : l.length ≤ 1048576) : Ints B w (.slice (some ⟨g, 0, none⟩) l.length (l.length + 2)) l := by
  have := own_rawG (B := B) (c := 1) (n := l.length) (cap := l.length + 2) h hB (by simp [tw]) (by omega) (by unfold maxLen; omega)
  have e : (tw l (mkI l.length) (mkI (l.length + 1))).toList.take (l.length * 1) = l.map I64 := by
    unfold tw
    rw [List.take_append_of_le_length (by simp), List.take_of_length_le (by simp)]
    rfl
  rw [e] at this
  exact this
theorem rwC_riG (l : List (List Int)) : rwC l = riC l := by
  unfold rwC riC
  rw [List.flatMap_def]
  rfl
theorem rwC_lenPG {c : Nat} : ∀ {l : List (List Int)}, (∀ q ∈ l, q.length = c) → (rwC l).length = l.length * c
  | [], _ => by simp [rwC]
  | a :: r, h => by
    have := rwC_lenPG (l := r) (fun q hq => h q (by simp [hq]))
    have ha := h a (by simp)
    simp only [rwC, List.flatMap_cons, List.length_append, List.length_cons] at this ⊢
    rw [this, Nat.add_mul, icC, List.length_map, ha]
    omega
theorem twR_ownG {B c g : Nat} {t : TypeId} {w : World} {l : List (List Int)} (h : TwR c t w g l) (hc : 0 < c) (hB : B ≤ g) (hl : l.length ≤ 1048576) (hf : ∀ q ∈ l, q.length = c) : w.ownsRow B t c (.slice (some ⟨g, 0, none⟩) l.length (l.length + 2)) l.length (riC l) := by
  have hz := rwC_lenPG hf
  have := own_rawG (B := B) (c := c) (n := l.length) (cap := l.length + 2) h hB (by
    unfold twR
    rw [List.size_toArray, List.length_append, List.length_append, hz, icC, icC, List.length_map, List.length_map, mkR_len hc, mkR_len hc, Nat.add_mul]
    omega) (by omega) (by unfold maxLen; omega)
  have e : (twR l (mkR c l.length) (mkR c (l.length + 1))).toList.take (l.length * c) = riC l := by
    unfold twR
    rw [List.take_append_of_le_length (by rw [hz]; exact Nat.le_refl _), List.take_of_length_le (by rw [hz]; exact Nat.le_refl _), rwC_riG]
  rw [e] at this
  exact this
theorem treeC_lenPG : ∀ {T : List Nd} {us : List Value}, us.length = T.length → (treeC T us).length = T.length * 4
  | [], [], _ => by simp [treeC]
  | [], u :: r, h => by simp at h
  | n :: T, [], h => by simp at h
  | n :: T, u :: us, h => by
    have := treeC_lenPG (T := T) (us := us) (by simpa using h)
    simp only [treeC, List.zipWith_cons_cons, List.flatten_cons, List.length_append, List.length_cons] at this ⊢
    rw [this]
    simp [ndC]
    omega
theorem twT_ownG {B g : Nat} {w : World} {T : List Nd} {us : List Value} (h : TwT B w g T us) (hu : ∀ n ∈ T, n.un.length ≤ 1048576) : OTr B w (.slice (some ⟨g, 0, none⟩) T.length (T.length + 2)) T us := by
  have h1 := own_prefixG (n := T.length) h.own (by omega)
  have e : (treeC (T ++ [mkN T.length, mkN (T.length + 1)]) (us ++ [.slice none 0 0, .slice none 0 0])).take (T.length * 4) = treeC T us := by
    have hl := treeC_lenPG h.ul
    have : treeC (T ++ [mkN T.length, mkN (T.length + 1)]) (us ++ [.slice none 0 0, .slice none 0 0]) = treeC T us ++ treeC [mkN T.length, mkN (T.length + 1)] [.slice none 0 0, .slice none 0 0] := by
      unfold treeC
      rw [List.zipWith_append h.ul.symm, List.flatten_append]
    rw [this, List.take_append_of_le_length (by rw [hl]; exact Nat.le_refl _), List.take_of_length_le (by rw [hl]; exact Nat.le_refl _)]
  rw [e] at h1
  refine ⟨h.ul, h1, fun i n u hn hx => ?_, h.apart⟩
  obtain ⟨g', e1, e2, e3⟩ := h.un i n u hn hx
  rw [e1]
  exact twint_ownG e3 e2 (hu n (List.mem_of_getElem? hn))
theorem twC_ownG {B : Nat} {w : World} {c : Cm} {ga gr gq gj gn : Nat} {us : List Value} (h : TwC B w c ga gr gq gj gn us) (hs : SmC c) (hA : c.adds.length ≤ 262144) (hR : c.rem.length ≤ 262144) (hQ : c.seals.length ≤ 262144) (hJ : c.joins.length ≤ 262144) (hU : ∀ n ∈ c.next, n.un.length ≤ 262144) : OC B w c (twX c ga gr gq gj gn) us :=
  ⟨twR_ownG h.adds (by decide) h.la (by omega) (fun q hq => (hs.fa q hq).1), twint_ownG h.rem h.lr (by omega), twR_ownG h.seals (by decide) h.lq (by omega) (fun q hq => (hs.fq q hq).1), twR_ownG h.joins (by decide) h.lj (by omega) (fun q hq => (hs.fj q hq).1), twT_ownG h.next (fun n hn => Nat.le_trans (hU n hn) (by decide)), fun i u k hu hk => by
    have := h.un u (List.mem_of_getElem? hu)
    intro q
    have q' : some gr = some k := q
    exact this (by rw [hk, ← q'])⟩
def plX (c : Cm) (p : Pl) : Cv × List Value := (twX c p.ga p.gr p.gq p.gj p.gn, p.us)
theorem rows_plX (l : List Cm) (ps : List Pl) : rowsK kCm l (List.zipWith plX l ps) = rowsL l ps := by
  unfold rowsK rowsL
  apply List.ext_getElem?
  intro i
  rw [List.getElem?_zipWith, List.getElem?_zipWith, List.getElem?_zipWith]
  cases l[i]? <;> cases ps[i]? <;> rfl
theorem plX_at {l : List Cm} {ps : List Pl} {i : Nat} {x : Cv × List Value} (h : (List.zipWith plX l ps)[i]? = some x) : ∃ c p, l[i]? = some c ∧ ps[i]? = some p ∧ x = plX c p := by
  rw [List.getElem?_zipWith] at h
  cases hc : l[i]? with
  | none => rw [hc] at h; simp at h
  | some c =>
    cases hp : ps[i]? with
    | none => rw [hc, hp] at h; simp at h
    | some p => rw [hc, hp] at h; simp at h; exact ⟨c, p, rfl, rfl, h.symm⟩
theorem plX_Z {c : Cm} {p : Pl} {B : Nat} {W : World} (_h : p.tw B W c) {k : Nat} (hk : k ∈ kCm.Z (plX c p)) : k ∈ p.blocks := by
  have hk' : k ∈ cvZ (twX c p.ga p.gr p.gq p.gj p.gn) p.us := hk
  unfold Pl.blocks
  simp only [List.mem_cons, List.mem_filterMap]
  rcases cvZ_cases hk' with q | q | q | q | q
  · have : p.ga = k := Option.some.inj q
    exact Or.inl this.symm
  · have : p.gr = k := Option.some.inj q
    exact Or.inr (Or.inl this.symm)
  · have : p.gq = k := Option.some.inj q
    exact Or.inr (Or.inr (Or.inl this.symm))
  · have : p.gj = k := Option.some.inj q
    exact Or.inr (Or.inr (Or.inr (Or.inl this.symm)))
  · rcases zK_cases q with q | ⟨i, u, hu, q⟩
    · have : p.gn = k := Option.some.inj q
      exact Or.inr (Or.inr (Or.inr (Or.inr (Or.inl this.symm))))
    · exact Or.inr (Or.inr (Or.inr (Or.inr (Or.inr ⟨u, List.mem_of_getElem? hu, Option.mem_toList.1 q⟩))))
theorem flat_take {c : Nat} {R M : List (List Value)} (h : ∀ r ∈ R, r.length = c) : (R ++ M).flatten.take (R.length * c) = R.flatten := by
  rw [List.flatten_append, List.take_append_of_le_length (by rw [fl_len h]; exact Nat.le_refl _), List.take_of_length_le (by rw [fl_len h]; exact Nat.le_refl _)]
theorem TwCs.own {B G : Nat} {W : World} {l : List Cm} {ps : List Pl} (h : TwCs B W G l ps) (hl : l.length ≤ 262144) (hs : ∀ c ∈ l, SmC c ∧ CmB c) : OwL kCm B W (.slice (some ⟨G, 0, none⟩) l.length (l.length + 2)) l (List.zipWith plX l ps) := by
  have hz : (rowsL l ps).length = l.length := by rw [rowsL_size (by rw [h.pl]; exact Nat.le_refl _), h.pl]
  refine ⟨by simp [h.pl], ?_, fun i c x hc hx => ?_, fun i j x y k hx hy hk hk2 => ?_, fun k i x hk hx hz => ?_⟩
  · have := own_rawG (B := B) (c := 15) (n := l.length) (cap := l.length + 2) h.blk h.low (by
      rw [List.size_toArray, fl_len h.all, List.length_append, hz]; rfl) (by omega) (by unfold maxLen; omega)
    rw [List.toList_toArray, ← hz, flat_take rowsL_len, hz, ← rows_plX] at this
    exact this
  · obtain ⟨c', p, hc', hp, rfl⟩ := plX_at hx
    rw [hc] at hc'
    cases hc'
    have hm := List.mem_of_getElem? hc
    have hb := (hs c hm).2
    exact twC_ownG (h.each i c p hc hp) (hs c hm).1 hb.a hb.r hb.q hb.j hb.u
  · obtain ⟨c, p, hc, hp, rfl⟩ := plX_at hx
    obtain ⟨d, q, hd, hq, rfl⟩ := plX_at hy
    exact h.apart i j p q k hp hq (plX_Z (h.each i c p hc hp) hk) (plX_Z (h.each j d q hd hq) hk2)
  · obtain ⟨c, p, hc, hp, rfl⟩ := plX_at hx
    have e : G = k := Option.some.inj hk
    exact h.nog i p k hp (plX_Z (h.each i c p hc hp) hz) e.symm
def lqX (p : Int × List Cm) (q : Lq) : Value × List (Cv × List Value) := (.slice (some ⟨q.g, 0, none⟩) p.2.length (p.2.length + 2), List.zipWith plX p.2 q.ps)
theorem rows_lqX (l : List (Int × List Cm)) (ps : List Lq) : rowsK kLg l (List.zipWith lqX l ps) = rowsG l ps := by
  unfold rowsK rowsG
  apply List.ext_getElem?
  intro i
  rw [List.getElem?_zipWith, List.getElem?_zipWith, List.getElem?_zipWith]
  cases l[i]? <;> cases ps[i]? <;> rfl
theorem lqX_at {l : List (Int × List Cm)} {ps : List Lq} {i : Nat} {x : Value × List (Cv × List Value)} (h : (List.zipWith lqX l ps)[i]? = some x) : ∃ c p, l[i]? = some c ∧ ps[i]? = some p ∧ x = lqX c p := by
  rw [List.getElem?_zipWith] at h
  cases hc : l[i]? with
  | none => rw [hc] at h; simp at h
  | some c =>
    cases hp : ps[i]? with
    | none => rw [hc, hp] at h; simp at h
    | some p => rw [hc, hp] at h; simp at h; exact ⟨c, p, rfl, rfl, h.symm⟩
theorem lqX_Z {c : Int × List Cm} {p : Lq} {B : Nat} {W : World} (h : p.tw B W c) {k : Nat} (hk : k ∈ kLg.Z (lqX c p)) : k ∈ p.blocks := by
  have hk' : k ∈ zK kCm (lqX c p).1 (lqX c p).2 := hk
  unfold Lq.blocks
  rw [List.mem_cons]
  rcases zK_cases hk' with q | ⟨i, x, hx, q⟩
  · have : p.g = k := Option.some.inj q
    exact Or.inl this.symm
  · obtain ⟨d, r, hd, hr, rfl⟩ := plX_at hx
    exact Or.inr (List.mem_flatMap.2 ⟨r, List.mem_of_getElem? hr, plX_Z (TwCs.each h i d r hd hr) q⟩)
theorem TwLs.own {B G : Nat} {W : World} {l : List (Int × List Cm)} {ps : List Lq} (h : TwLs B W G l ps) (hl : l.length ≤ 262144) (hs : ∀ p ∈ l, SmG p ∧ LgB p) : OwL kLg B W (.slice (some ⟨G, 0, none⟩) l.length (l.length + 2)) l (List.zipWith lqX l ps) := by
  have hz : (rowsG l ps).length = l.length := by rw [rowsG_size (by rw [h.pl]; exact Nat.le_refl _), h.pl]
  refine ⟨by simp [h.pl], ?_, fun i c x hc hx => ?_, fun i j x y k hx hy hk hk2 => ?_, fun k i x hk hx hz => ?_⟩
  · have := own_rawG (B := B) (c := 2) (n := l.length) (cap := l.length + 2) h.blk h.low (by
      rw [List.size_toArray, fl_len h.all, List.length_append, hz]; rfl) (by omega) (by unfold maxLen; omega)
    rw [List.toList_toArray, ← hz, flat_take rowsG_len, hz, ← rows_lqX] at this
    exact this
  · obtain ⟨c', p, hc', hp, rfl⟩ := lqX_at hx
    rw [hc] at hc'
    cases hc'
    have hm := List.mem_of_getElem? hc
    exact TwCs.own (h.each i c p hc hp) (hs c hm).2.1 (fun d hd => ⟨(hs c hm).1.c d hd, (hs c hm).2.2 d hd⟩)
  · obtain ⟨c, p, hc, hp, rfl⟩ := lqX_at hx
    obtain ⟨d, q, hd, hq, rfl⟩ := lqX_at hy
    exact h.apart i j p q k hp hq (lqX_Z (h.each i c p hc hp) hk) (lqX_Z (h.each j d q hd hq) hk2)
  · obtain ⟨c, p, hc, hp, rfl⟩ := lqX_at hx
    have e : G = k := Option.some.inj hk
    exact h.nog i p k hp (lqX_Z (h.each i c p hc hp) hz) e.symm
theorem cmB_of {c : Cm} (h : cmN c ≤ 262144) : CmB c := by
  unfold cmN at h
  exact ⟨by omega, by omega, by omega, by omega, by omega, fun n hn => by have := usum_mem hn; omega⟩
theorem smB_of {c : Cm} (h : CmB c) : SmB c := ⟨Nat.le_trans h.a (by decide), Nat.le_trans h.r (by decide), Nat.le_trans h.q (by decide), Nat.le_trans h.j (by decide), Nat.le_trans h.n (by decide), fun n hn => Nat.le_trans (h.u n hn) (by decide)⟩
theorem lgB_of {l : List Lg} (hb : l.length + lsN l ≤ 262144) : ∀ p ∈ l, LgB p := fun p hp => by
  have h1 : lgN p ≤ lsN l := mem_sum (f := lgN) hp
  unfold lgN at h1
  refine ⟨by omega, fun c hc => ?_⟩
  have h2 : cmN c ≤ csN p.2 := mem_sum (f := cmN) hc
  exact cmB_of (by omega)
theorem zf_len {α ξ : Type} {P : α → ξ → List Pc} (f : α → Nat) (h : ∀ a x, (P a x).length ≤ f a) : ∀ (l : List α) (xs : List ξ), (List.zipWith P l xs).flatten.length ≤ (l.map f).foldr (· + ·) 0
  | [], _ => by simp
  | _ :: _, [] => by simp
  | a :: l, x :: xs => by
    have := zf_len f h l xs
    have := h a x
    simp only [List.zipWith_cons_cons, List.flatten_cons, List.length_append, List.map_cons, List.foldr_cons]
    omega
theorem sum_one {α : Type} : ∀ l : List α, (l.map fun _ => 1).foldr (· + ·) 0 = l.length
  | [] => rfl
  | _ :: l => by simp only [List.map_cons, List.foldr_cons, sum_one l, List.length_cons]; omega
theorem sum_two {α : Type} {f g : α → Nat} {a b : Nat} (h : ∀ x, a * f x ≤ b * g x) : ∀ l : List α, a * (l.map f).foldr (· + ·) 0 ≤ b * (l.map g).foldr (· + ·) 0
  | [] => by simp
  | x :: l => by
    have := sum_two h l
    have := h x
    simp only [List.map_cons, List.foldr_cons, Nat.mul_add]
    omega
theorem sum_add {α : Type} {f : α → Nat} {c : Nat} : ∀ l : List α, (l.map fun x => f x + c).foldr (· + ·) 0 = (l.map f).foldr (· + ·) 0 + c * l.length
  | [] => by simp
  | x :: l => by simp only [List.map_cons, List.foldr_cons, sum_add l, List.length_cons, Nat.mul_add]; omega
theorem pkNd_len (T : KS) (h : T5 T) (v : Value) (l : List Nd) (xs : List Value) : ((pkNd T h).L 19 v l xs).length ≤ l.length + 1 := by
  have := zf_len (P := (pkNd T h).P) (fun _ => 1) (fun a x => by show [_].length ≤ 1; simp) l xs
  rw [sum_one] at this
  unfold PK.L
  rw [List.length_append, List.length_singleton]
  omega
theorem pkCm_len (T : KS) (h : T5 T) (c : Cm) (x : Cv × List Value) : ((pkCm T h).P c x).length ≤ c.next.length + 5 := by
  show ((pkNd T h).L 19 x.1.nv c.next x.2 ++ cmPt c x.1).length ≤ _
  have := pkNd_len T h x.1.nv c.next x.2
  rw [List.length_append]
  simp only [cmPt, List.length_cons, List.length_nil]
  omega
theorem csN_pos : ∀ l : List Cm, l.length ≤ csN l
  | [] => by simp
  | c :: l => by
    have := csN_pos l
    unfold csN at this ⊢
    simp only [List.map_cons, List.foldr_cons, List.length_cons]
    have : 1 ≤ cmN c := by unfold cmN; omega
    omega
theorem pkLg_len (T : KS) (h : T5 T) (hc : T.D 21 = some kgCommit.k) (p : Int × List Cm) (x : Value × List (Cv × List Value)) : 2 * ((pkLg T h hc).P p x).length ≤ 5 * lgN p := by
  show 2 * ((pkCm T h).L 21 x.1 p.2 x.2).length ≤ _
  have h1 := zf_len (P := (pkCm T h).P) (fun c => cmN c + 4) (fun c x => Nat.le_trans (pkCm_len T h c x) (by unfold cmN; omega)) p.2 x.2
  rw [sum_add] at h1
  have h2 := csN_pos p.2
  unfold PK.L lgN
  rw [List.length_append, List.length_singleton]
  unfold csN at h2 ⊢
  omega
def lgH (p : Int × List Cm) : Nat := 5 * lgN p / 2
theorem logs_len (T : KS) (h : T5 T) (hc : T.D 21 = some kgCommit.k) (v : Value) (l : List Lg) (xs : List (Value × List (Cv × List Value))) (hb : l.length + lsN l ≤ 262144) : ((pkLg T h hc).L 28 v l xs).length ≤ 655361 := by
  have h1 := zf_len (P := (pkLg T h hc).P) lgH (fun p x => by have := pkLg_len T h hc p x; unfold lgH; omega) l xs
  have h2 := sum_two (f := lgH) (g := lgN) (a := 2) (b := 5) (fun p => by unfold lgH; omega) l
  unfold PK.L
  rw [List.length_append, List.length_singleton]
  unfold lsN at hb
  omega
end Go.Proofs.YtnfhbmlmemifjaaGreatDoor

/- What the document's Append comes to, plainly; logs that are put together one by one, in memory. No walk is in this text. mkLgRh.py writes it. -/
namespace Go.Proofs.YtnfhbmlmemifjaaGreatDoor
open Go.RowKit Go.Maps
def dcl (d : Bool) (r : List Lg) (c : Cm) : List Lg := if d = true then r else insl r c
structure Ds (l : List Lg) (c : Cm) (i : Nat) (out : List Lg) (d : Bool) : Prop where
  e : out ++ dcl d (l.drop i) c = insl l c
  n : d = true → ∀ p ∈ l.drop i, c.gr < p.1
theorem ris_drop : ∀ {l : List Lg} {i : Nat}, risB l = true → risB (l.drop i) = true
  | [], i, h => by rw [List.drop_nil]; rfl
  | _ :: _, 0, h => h
  | _ :: l, i + 1, h => ris_drop (l := l) (ris_tail h)
theorem Ds.start (l : List Lg) (c : Cm) : Ds l c 0 [] false := ⟨rfl, fun h => by cases h⟩
theorem drop_at {l : List Lg} {i : Nat} {p : Lg} (h : l[i]? = some p) : l.drop i = p :: l.drop (i + 1) := by
  obtain ⟨hi, e⟩ := List.getElem?_eq_some_iff.1 h
  rw [List.drop_eq_getElem_cons hi, e]
theorem Ds.ins {l : List Lg} {c : Cm} {i : Nat} {out : List Lg} {p : Lg} (h : Ds l c i out false) (hr : risB l = true) (hp : l[i]? = some p) (hg : c.gr < p.1) : Ds l c i (out ++ [(c.gr, [c])]) true := by
  have hd := drop_at hp
  refine ⟨?_, fun _ q hq => ?_⟩
  · rw [← h.e]
    unfold dcl
    rw [hd]
    have e1 : insl (p :: l.drop (i + 1)) c = (c.gr, [c]) :: p :: l.drop (i + 1) := by
      show (if p.1 = c.gr then _ else if c.gr < p.1 then _ else _) = _
      rw [if_neg (by omega), if_pos hg]
    simp [e1]
  · rw [hd] at hq
    rcases List.mem_cons.1 hq with e | e
    · subst e; exact hg
    · have := ris_lt (by rw [← hd]; exact ris_drop hr) q e; omega
theorem Ds.next {l : List Lg} {c : Cm} {i : Nat} {out : List Lg} {d : Bool} {p : Lg} (h : Ds l c i out d) (hp : l[i]? = some p) (hg : d = false → p.1 < c.gr) : Ds l c (i + 1) (out ++ [p]) d ∧ p.1 ≠ c.gr := by
  have hd := drop_at hp
  cases d
  · have hlt := hg rfl
    refine ⟨⟨?_, fun q => by cases q⟩, by omega⟩
    rw [← h.e]
    unfold dcl
    rw [hd]
    have e1 : insl (p :: l.drop (i + 1)) c = p :: insl (l.drop (i + 1)) c := by
      show (if p.1 = c.gr then _ else if c.gr < p.1 then _ else _) = _
      rw [if_neg (by omega), if_neg (by omega)]
    simp [e1]
  · have hn := h.n rfl
    rw [hd] at hn
    have := hn p List.mem_cons_self
    refine ⟨⟨?_, fun _ q hq => hn q (List.mem_cons_of_mem _ hq)⟩, by omega⟩
    rw [← h.e]
    unfold dcl
    rw [hd]
    simp
theorem Ds.own {l : List Lg} {c : Cm} {i : Nat} {out : List Lg} {d : Bool} {p : Lg} (h : Ds l c i out d) (hr : risB l = true) (hp : l[i]? = some p) (hg : p.1 = c.gr) : d = false ∧ Ds l c (i + 1) (out ++ [(p.1, p.2 ++ [c])]) true := by
  have hd := drop_at hp
  cases d
  · refine ⟨rfl, ?_, fun _ q hq => ?_⟩
    · rw [← h.e]
      unfold dcl
      rw [hd]
      have e1 : insl (p :: l.drop (i + 1)) c = (p.1, p.2 ++ [c]) :: l.drop (i + 1) := by
        show (if p.1 = c.gr then _ else if c.gr < p.1 then _ else _) = _
        rw [if_pos hg]
      simp [e1]
    · have := ris_lt (by rw [← hd]; exact ris_drop hr) q hq; omega
  · have hn := h.n rfl
    rw [hd] at hn
    have := hn p List.mem_cons_self
    omega
theorem Ds.fin {l : List Lg} {c : Cm} {out : List Lg} {d : Bool} (h : Ds l c l.length out d) : (if d = true then out else out ++ [(c.gr, [c])]) = insl l c := by
  have := h.e
  rw [List.drop_length] at this
  unfold dcl at this
  cases d
  · simpa [insl] using this
  · simpa using this
theorem insl_cons (p : Lg) (r : List Lg) (c : Cm) : insl (p :: r) c = if p.1 = c.gr then (p.1, p.2 ++ [c]) :: r else if c.gr < p.1 then (c.gr, [c]) :: p :: r else p :: insl r c := rfl
theorem insl_lenD : ∀ (l : List Lg) (c : Cm), (insl l c).length ≤ l.length + 1
  | [], c => by simp [insl]
  | p :: r, c => by
    have := insl_lenD r c
    rw [insl_cons]
    split
    · simp
    · split
      · simp
      · simp only [List.length_cons]; omega
theorem insl_sz {B : Nat} : ∀ {l : List Lg} {c : Cm}, (∀ p ∈ l, p.2.length ≤ B) → ∀ q ∈ insl l c, q.2.length ≤ B + 1
  | [], c, _, q, hq => by
    have : q = (c.gr, [c]) := by simpa [insl] using hq
    subst this
    simp
  | p :: r, c, h, q, hq => by
    have hp := h p List.mem_cons_self
    have hr : ∀ z ∈ r, z.2.length ≤ B := fun z hz => h z (List.mem_cons_of_mem _ hz)
    rw [insl_cons] at hq
    split at hq
    · rcases List.mem_cons.1 hq with e | e
      · subst e; simpa using hp
      · have := hr q e; omega
    · split at hq
      · rcases List.mem_cons.1 hq with e | e
        · subst e; simp
        · have := h q e; omega
      · rcases List.mem_cons.1 hq with e | e
        · subst e; omega
        · exact insl_sz hr q e
theorem Ds.le {l : List Lg} {c : Cm} {i : Nat} {out : List Lg} {d : Bool} (h : Ds l c i out d) : out.length ≤ l.length + 1 := by
  have e := congrArg List.length h.e
  rw [List.length_append] at e
  have := insl_lenD l c
  omega
def CoS (W w : World) (u : Value) (cs : List Cm) : Prop := ∃ xs : List (Cv × List Value), xs.length = cs.length ∧ w.ownsRow W.heap.size 34 15 u cs.length (cellK kCm cs xs) ∧ ∀ (j : Nat) (c : Cm) (x : Cv × List Value), cs[j]? = some c → xs[j]? = some x → CmR W c x.1 ∧ SmC c
theorem CoS.bw {W w w' : World} {u : Value} {cs : List Cm} (h : CoS W w u cs) (hb : Below w.heap.size w w') : CoS W w' u cs := by
  obtain ⟨xs, h1, h2, h3⟩ := h
  exact ⟨xs, h1, own_keep h2 (fun k hk => hb.block k (World.ownsRow.lt h2 k hk).2), h3⟩
theorem CoS.slice {W w : World} {u : Value} {cs : List Cm} (h : CoS W w u cs) : ∃ a cap, u = .slice a cs.length cap := by obtain ⟨_, _, h, _⟩ := h; exact own_slice h
theorem CoS.cms {W w : World} {u : Value} {cs : List Cm} (h : CoS W w u cs) (hb : Below W.heap.size W w) (hl : cs.length ≤ 1073741824) : Cms w u cs := by
  obtain ⟨xs, h1, h2, h3⟩ := h
  obtain ⟨a, cap, hv⟩ := own_slice h2
  refine RdL.cms (xs := xs) ⟨h1, fun i c x hc hx => ⟨(h3 i c x hc hx).1.bw hb, (h3 i c x hc hx).2⟩, a, cap, hv, ?_⟩ hl
  rcases Nat.eq_zero_or_pos cs.length with q | q
  · exact Or.inl (List.eq_nil_of_length_eq_zero q)
  · obtain ⟨g, cap', hv', -⟩ := own_open h2 q
    rw [hv] at hv'
    cases hv'
    refine Or.inr ⟨g, 0, rfl, fun j u hj => ?_⟩
    rw [Nat.zero_add]
    exact own_cell h2 (by rw [hv]; rfl) hj
def ouC (out : List Lg) (vs : List Value) : List Value := (List.zipWith (fun (p : Lg) u => [Value.int .i64 p.1, u]) out vs).flatten
theorem ouC_snoc {out : List Lg} {vs : List Value} (h : vs.length = out.length) (p : Lg) (u : Value) : ouC (out ++ [p]) (vs ++ [u]) = ouC out vs ++ [.int .i64 p.1, u] := by
  unfold ouC
  rw [List.zipWith_append h.symm, List.flatten_append]
  rfl
structure OuS (W w : World) (ov : Value) (out : List Lg) (vs : List Value) : Prop where
  vl : vs.length = out.length
  row : w.ownsRow W.heap.size 95 2 ov out.length (ouC out vs)
  el : ∀ (i : Nat) (p : Lg) (u : Value), out[i]? = some p → vs[i]? = some u → CoS W w u p.2
  bel : Below W.heap.size W w
theorem OuS.nil (W w : World) (h : Below W.heap.size W w) : OuS W w (.slice none 0 0) [] [] := ⟨rfl, World.ownsRow_nil _ _ _ _, fun i p u h => by simp at h, h⟩
theorem OuS.bw {W w w' : World} {ov : Value} {out : List Lg} {vs : List Value} (h : OuS W w ov out vs) (hb : Below w.heap.size w w') : OuS W w' ov out vs :=
  ⟨h.vl, own_keep h.row (fun k hk => hb.block k (World.ownsRow.lt h.row k hk).2), fun i p u hp hu => (h.el i p u hp hu).bw hb, bw_tr h.bel hb⟩
theorem OuS.app {W w w0 w1 : World} {ov v' u : Value} {out : List Lg} {vs : List Value} {p : Lg} (h : OuS W w ov out vs) (h0 : Below w.heap.size w w0) (hu : CoS W w0 u p.2) (hown : w1.ownsRow W.heap.size 95 2 v' (out.length + 1) (ouC out vs ++ [.int .i64 p.1, u])) (hg : w0.grownBy w1 ov.ownBlock) : OuS W w1 v' (out ++ [p]) (vs ++ [u]) := by
  have h' := h.bw h0
  have keep : ∀ (k : Nat) (e : Value) (n : Nat) (xs : List Value), w0.ownsRow W.heap.size 34 15 e n xs → e.ownBlock = some k → w1.heap[k]? = w0.heap[k]? := fun k e n xs ho hk => by
    refine hg.block k (World.ownsRow.lt ho k hk).2 (fun c => ?_)
    exact own_apart h'.row ho (by decide) c.symm hk
  refine ⟨by simp [h.vl], by rw [List.length_append, ouC_snoc h.vl]; exact hown, fun i q z hq hz => ?_, ?_⟩
  · have hc : CoS W w0 z q.2 := by
      rcases Nat.lt_or_ge i out.length with c | c
      · rw [List.getElem?_append_left c] at hq
        rw [List.getElem?_append_left (by rw [h.vl]; exact c)] at hz
        exact h'.el i q z hq hz
      · rw [List.getElem?_append_right c] at hq
        rw [List.getElem?_append_right (by rw [h.vl]; exact c), h.vl] at hz
        rcases Nat.eq_zero_or_pos (i - out.length) with e | e
        · rw [e] at hq hz
          simp at hq hz
          subst hq hz
          exact hu
        · rw [List.getElem?_eq_none (by simp; omega)] at hq; cases hq
    obtain ⟨xs, h1, h2, h3⟩ := hc
    exact ⟨xs, h1, own_keep h2 (fun k hk => keep k z _ _ h2 hk), h3⟩
  · exact Fr.toBase h'.bel (Fr.ofGrown hg) (fun z hz => (World.ownsRow.lt h'.row z (by simpa using hz)).1)
theorem OuS.lgs {W w : World} {ov : Value} {out : List Lg} {vs : List Value} (h : OuS W w ov out vs) (hl : out.length ≤ 1073741824) (hs : ∀ p ∈ out, p.2.length ≤ 1073741824) : Lgs w ov out := by
  obtain ⟨a, cap, hv⟩ := own_slice h.row
  refine ⟨by omega, a, cap, hv, ?_⟩
  rcases Nat.eq_zero_or_pos out.length with q | q
  · exact Or.inl (List.eq_nil_of_length_eq_zero q)
  · obtain ⟨g, cap', hv', -⟩ := own_open h.row q
    rw [hv] at hv'
    cases hv'
    refine Or.inr ⟨g, 0, rfl, fun i p hp => ?_⟩
    obtain ⟨u, hu⟩ : ∃ u, vs[i]? = some u := ⟨_, List.getElem?_eq_getElem (by rw [h.vl]; exact (List.getElem?_eq_some_iff.1 hp).1)⟩
    have e : ∀ j, j < 2 → (ouC out vs)[i * 2 + j]? = [Value.int .i64 p.1, u][j]? := fun j hj => by
      unfold ouC
      rw [fl_get (c := 2) (fun r hr => by
        obtain ⟨n, hn⟩ := List.mem_iff_getElem?.1 hr
        rw [List.getElem?_zipWith] at hn
        cases h1 : out[n]? with
        | none => rw [h1] at hn; simp at hn
        | some a =>
          cases h2 : vs[n]? with
          | none => rw [h1, h2] at hn; simp at hn
          | some b => rw [h1, h2] at hn; simp at hn; subst hn; rfl) hj, List.getElem?_zipWith, hp, hu]
      rfl
    refine ⟨u, (h.el i p u hp hu).cms h.bel (hs p (List.mem_of_getElem? hp)), ?_, ?_⟩
    · rw [Nat.zero_add]; exact own_cell h.row (by rw [hv]; rfl) (e 0 (by decide))
    · rw [Nat.zero_add]; exact own_cell h.row (by rw [hv]; rfl) (e 1 (by decide))
theorem CoS.one {W w : World} {c : Cm} {x : Cv} (hc : CmR W c x) (hs : SmC c) (hb : W.heap.size ≤ w.heap.size) : CoS W (w.alloc (.cells (cmC c x).toArray 34)) (.slice (some ⟨w.heap.size, 0, none⟩) 1 1) [c] := by
  refine ⟨[(x, [])], rfl, ?_, fun j d y hd hy => ?_⟩
  · have := own_rawG (B := W.heap.size) (c := 15) (n := 1) (cap := 1) (heap_alloc_new w (.cells (cmC c x).toArray 34)) hb rfl (Nat.le_refl _) (by decide)
    exact this
  · match j, hd, hy with
    | 0, hd, hy => simp at hd hy; subst hd hy; exact ⟨hc, hs⟩
    | j + 1, hd, hy => simp at hd
theorem CoS.snoc {W w1 : World} {u' : Value} {cs : List Cm} {xs : List (Cv × List Value)} {c : Cm} {x : Cv} (hx : xs.length = cs.length) (h3 : ∀ (j : Nat) (c : Cm) (x : Cv × List Value), cs[j]? = some c → xs[j]? = some x → CmR W c x.1 ∧ SmC c) (hc : CmR W c x) (hs : SmC c) (ho : w1.ownsRow W.heap.size 34 15 u' (cs.length + 1) (cellK kCm cs xs ++ cmC c x)) : CoS W w1 u' (cs ++ [c]) := by
  refine ⟨xs ++ [(x, [])], by simp [hx], ?_, fun j d y hd hy => ?_⟩
  · have e : cellK kCm (cs ++ [c]) (xs ++ [(x, [])]) = cellK kCm cs xs ++ cmC c x := by
      unfold cellK rowsK
      rw [List.zipWith_append hx.symm, List.flatten_append]
      rfl
    rw [List.length_append, e]
    exact ho
  · rcases Nat.lt_or_ge j cs.length with q | q
    · rw [List.getElem?_append_left q] at hd
      rw [List.getElem?_append_left (by omega)] at hy
      exact h3 j d y hd hy
    · rw [List.getElem?_append_right q] at hd
      rw [List.getElem?_append_right (by omega), hx] at hy
      rcases Nat.eq_zero_or_pos (j - cs.length) with e | e
      · rw [e] at hd hy
        simp at hd hy
        subst hd hy
        exact ⟨hc, hs⟩
      · rw [List.getElem?_eq_none (by simp; omega)] at hd; cases hd
theorem own_lowR {w : World} {B B' : Nat} {e : TypeId} {c n : Nat} {v : Value} {xs : List Value} (h : w.ownsRow B e c v n xs) (hb : B' ≤ B) : w.ownsRow B' e c v n xs := by
  refine ⟨h.1, h.2.imp id ?_⟩
  rintro ⟨g, cap, cur, q1, q2, q3⟩
  exact ⟨g, cap, cur, q1, Nat.le_trans hb q2, q3⟩
theorem own17 {W0 wq wE w8 : World} {xb n : Nat} {g : Int} {u v' ov : Value} {CK : List Value} {out : List Lg} {vs : List Value} {cs : List Cm} {c : Cm} {x : Cv} {xs : List (Cv × List Value)} {o : Obj} (HO : OuS W0 wq ov out vs)
    (HX : wE.heap[xb]? = some (.cells #[.int .i64 g, u] 95 (0, 0)) ∧ Below wq.heap.size wq wE ∧ wE.ownsRow wq.heap.size 34 15 u n CK ∧ wq.heap.size ≤ xb) (hx : xs.length = cs.length) (h3 : ∀ (j : Nat) (c : Cm) (x : Cv × List Value), cs[j]? = some c → xs[j]? = some x → CmR W0 c x.1 ∧ SmC c) (hc : CmR W0 c x ∧ SmC c)
    (hn : n = cs.length) (hCK : CK = cellK kCm cs xs) (h8 : w8.ownsRow wq.heap.size 34 15 v' (n + 1) (CK ++ cmC c x)) (hg : (wE.alloc o).grownBy w8 u.ownBlock) :
    w8.heap[xb]? = some (.cells #[.int .i64 g, u] 95 (0, 0)) ∧ (w8.setCell ⟨xb, 1, none⟩ v').cell? ⟨xb, 0, none⟩ = some (.int .i64 g) ∧ (w8.setCell ⟨xb, 1, none⟩ v').cell? ⟨xb, 1, none⟩ = some v' ∧ CoS W0 (w8.setCell ⟨xb, 1, none⟩ v') v' (cs ++ [c]) ∧ OuS W0 (w8.setCell ⟨xb, 1, none⟩ v') ov out vs := by
  obtain ⟨k0, kb, ko, kx⟩ := HX
  have hlt := lt_of_blk k0
  have hne : u.ownBlock ≠ some xb := fun e => by
    obtain ⟨cur, q⟩ := own_kind ko e
    rw [k0] at q
    simp at q
  have k8 : w8.heap[xb]? = some (.cells #[.int .i64 g, u] 95 (0, 0)) := by
    rw [hg.block xb (by simp; omega) (fun e => hne e.symm), Below.heap_alloc _ _ _ (by omega)]; exact k0
  have b8 : Below wq.heap.size wq w8 := Fr.toBase (bw_tr kb (bwA _ _)) (Fr.ofGrown hg) (fun z hz => (World.ownsRow.lt ko z (by simpa using hz)).1)
  have b9 : Below wq.heap.size wq (w8.setCell ⟨xb, 1, none⟩ v') := b8.setCell (by simpa using kx) v'
  have k9 : (w8.setCell ⟨xb, 1, none⟩ v').heap[xb]? = some (.cells #[.int .i64 g, v'] 95 (0, 0)) := by
    exact poke_b (i := 1) k8 v'
  refine ⟨k8, cell_of_blk k9 rfl, cell_of_blk k9 rfl, ?_, HO.bw b9⟩
  refine CoS.snoc (xs := xs) hx h3 hc.1 hc.2 ?_
  rw [← hCK, ← hn]
  refine own_keep (own_lowR h8 HO.bel.size) (fun k hk => other_c (fun e => ?_))
  obtain ⟨cur, q⟩ := own_kind h8 hk
  rw [e, k8] at q
  simp at q
theorem CoS.of {W0 wq wE : World} {xb n : Nat} {g : Int} {u : Value} {CK : List Value} {cs : List Cm} {xs : List (Cv × List Value)} (hs : W0.heap.size ≤ wq.heap.size)
    (HX : wE.heap[xb]? = some (.cells #[.int .i64 g, u] 95 (0, 0)) ∧ Below wq.heap.size wq wE ∧ wE.ownsRow wq.heap.size 34 15 u n CK ∧ wq.heap.size ≤ xb) (hx : xs.length = cs.length) (h3 : ∀ (j : Nat) (c : Cm) (x : Cv × List Value), cs[j]? = some c → xs[j]? = some x → CmR W0 c x.1 ∧ SmC c) (hn : n = cs.length) (hCK : CK = cellK kCm cs xs) : CoS W0 wE u cs := by
  refine ⟨xs, hx, ?_, h3⟩
  rw [← hCK, ← hn]
  exact own_lowR HX.2.2.1 hs
end Go.Proofs.YtnfhbmlmemifjaaGreatDoor
