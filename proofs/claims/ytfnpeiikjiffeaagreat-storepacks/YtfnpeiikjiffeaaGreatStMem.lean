/- Pairs in memory: rows of pairs, maps of pairs by their names, sets of names. No walk is in this text. -/
import Derived.Test.YtfnpeiikjiffeaaGreatStPure
import Derived.Test.YtfnpeiikjiffeaaGreatJnH
import Derived.Sort.KeysCollected
import Derived.StringKeys
namespace Go.Proofs.YtfnpeiikjiffeaaGreat
open Go.RowKit Go.Maps

/-! Rows of pairs, to be read. -/
def prC (p : PP) : List Value := [.string p.n, .string p.t, .bool p.g]
def pairV (p : PP) : Value := .agg #[.string p.n, .string p.t, .bool p.g]
def PrAt (w : World) (b o : Nat) (p : PP) : Prop := w.cell? ⟨b, o, none⟩ = some (.string p.n) ∧ w.cell? ⟨b, o + 1, none⟩ = some (.string p.t) ∧ w.cell? ⟨b, o + 2, none⟩ = some (.bool p.g)
structure PrsAt (w : World) (a : Option Addr) (l : List PP) : Prop where
  len : l.length ≤ 140737488355328
  fit : ∀ x ∈ l, x.n.size ≤ 140737488355328 ∧ x.t.size ≤ 140737488355328
  cells : l = [] ∨ ∃ b off, a = some ⟨b, off, none⟩ ∧ b < w.heap.size ∧ ∀ i x, l[i]? = some x → PrAt w b (off + i * 3) x
theorem PrsAt.get {w : World} {a : Option Addr} {l : List PP} (h : PrsAt w a l) {i : Nat} {x : PP} (hx : l[i]? = some x) : ∃ b off, a = some ⟨b, off, none⟩ ∧ ∀ W, Below w.heap.size w W → PrAt W b (off + i * 3) x := by
  rcases h.cells with rfl | ⟨b, off, ha, hB, hc⟩
  · simp at hx
  · refine ⟨b, off, ha, fun W hb => ?_⟩
    have := hc i x hx
    unfold PrAt at *
    rw [hb.cell (p := ⟨b, off + i * 3, none⟩) hB, hb.cell (p := ⟨b, off + i * 3 + 1, none⟩) hB, hb.cell (p := ⟨b, off + i * 3 + 2, none⟩) hB]; exact this
theorem PrsAt.bw {w W : World} {a : Option Addr} {l : List PP} (h : PrsAt w a l) (hb : Below w.heap.size w W) : PrsAt W a l := by
  refine ⟨h.len, h.fit, ?_⟩
  rcases h.cells with c | ⟨b, off, ha, hB, hc⟩
  · exact Or.inl c
  · refine Or.inr ⟨b, off, ha, Nat.lt_of_lt_of_le hB hb.size, fun i x hx => ?_⟩
    have := hc i x hx
    unfold PrAt at *
    rw [hb.cell (p := ⟨b, off + i * 3, none⟩) hB, hb.cell (p := ⟨b, off + i * 3 + 1, none⟩) hB, hb.cell (p := ⟨b, off + i * 3 + 2, none⟩) hB]; exact this
theorem flat3 {l : List PP} {i : Nat} {p : PP} (h : l[i]? = some p) {j : Nat} {v : Value} (hv : (prC p)[j]? = some v) : (l.flatMap prC)[i * 3 + j]? = some v := by
  induction l generalizing i with
  | nil => simp at h
  | cons u l ih =>
    cases i with
    | zero =>
      simp at h; subst h
      simp only [Nat.zero_mul, Nat.zero_add, List.flatMap_cons]
      rw [List.getElem?_append_left ((List.getElem?_eq_some_iff.1 hv).1)]
      exact hv
    | succ i =>
      have := ih (i := i) (by simpa using h)
      simp only [List.flatMap_cons]
      have hu : (prC u).length = 3 := rfl
      rw [List.getElem?_append_right (by omega), hu, show (i + 1) * 3 + j - 3 = i * 3 + j by omega]
      exact this
theorem flat3_len (l : List PP) : (l.flatMap prC).length = l.length * 3 := by
  induction l with
  | nil => rfl
  | cons p l ih => simp only [List.flatMap_cons, List.length_append, ih, List.length_cons]; show 3 + _ = _; omega
def PRow (w : World) (v : Value) (l : List PP) : Prop := w.ownsRow 0 48 3 v l.length (l.flatMap prC)
theorem PRow.prs {w : World} {a : Option Addr} {c : Nat} {l : List PP} (h : PRow w (.slice a l.length c) l) (hl : l.length ≤ 140737488355328) (hf : ∀ x ∈ l, x.n.size ≤ 140737488355328 ∧ x.t.size ≤ 140737488355328) : PrsAt w a l := by
  refine ⟨hl, hf, ?_⟩
  rcases Nat.eq_zero_or_pos l.length with h0 | h0
  · exact Or.inl (List.eq_nil_of_length_eq_zero h0)
  · obtain ⟨g, cap, hv, hg, hc, _⟩ := own_open h h0
    cases hv
    refine Or.inr ⟨g, 0, rfl, hg, fun i x hx => ⟨?_, ?_, ?_⟩⟩
    · simpa using own_cell h (g := g) rfl (flat3 hx (j := 0) rfl)
    · simpa using own_cell h (g := g) rfl (flat3 hx (j := 1) rfl)
    · simpa using own_cell h (g := g) rfl (flat3 hx (j := 2) rfl)
theorem PRow.form {w : World} {v : Value} {l : List PP} (h : PRow w v l) : ∃ a c, v = .slice a l.length c := own_slice h
theorem PRow.keep {w w' : World} {v : Value} {l : List PP} (h : PRow w v l) (hb : ∀ k, v.ownBlock = some k → w'.heap[k]? = w.heap[k]?) : PRow w' v l := own_keep h hb
theorem PRow.bw {w w' : World} {v : Value} {l : List PP} (h : PRow w v l) (hb : Below w.heap.size w w') : PRow w' v l := own_keep h (fun k hk => hb.block k (World.ownsRow.lt h k hk).2)
theorem prow_nil (w : World) : PRow w (.slice none 0 0) [] := World.ownsRow_nil _ _ _ _
def resP (v : Value) (l : List PP) : Res := ⟨v.ownBlock.toList, fun w => PRow w v l, fun _ _ _ h hf hd => own_keep h (fun k hk => hf.block k (World.ownsRow.lt h k hk).2 (hd k (by simpa using hk))), fun _ h x hx => (World.ownsRow.lt h x (by simpa using hx)).2⟩

/-! How a pair reads, as an element of a map. -/
def pdat (p : PP) : DataW Unit := .agg [.lit (.string p.n.data.toList), .lit (.string p.t.data.toList), .lit (.bool p.g)]
def R7 : Value → Option (DataW Unit × List MemPlace)
  | .agg cs => match cs.toList with
    | [.string n, .string t, .bool g] => some (pdat ⟨n, t, g⟩, [])
    | _ => none
  | _ => none
theorem R7_mk (p : PP) : R7 (pairV p) = some (pdat p, []) := rfl
theorem R7_inv {v : Value} {z : DataW Unit × List MemPlace} (h : R7 v = some z) : ∃ p, v = pairV p ∧ z = (pdat p, []) := by
  match v, h with
  | .agg cs, h =>
    obtain ⟨l⟩ := cs
    simp only [R7] at h
    split at h
    · rename_i _ n t g
      cases h
      exact ⟨⟨n, t, g⟩, rfl, rfl⟩
    · cases h
theorem pdat_inj {p q : PP} (h : pdat p = pdat q) : p = q := by
  simp only [pdat, DataW.agg.injEq, List.cons.injEq, DataW.lit.injEq, Lit.string.injEq, Lit.bool.injEq, and_true] at h
  exact PP.eq (ba_ext h.1) (ba_ext h.2.1) h.2.2
theorem lawStr : Keyed Tryz.prog 9 := string_keyed Tryz.underlying9
theorem keyS {k : ByteArray} (h : k.size ≤ 140737488355328) : keyOf Tryz.prog 9 (.string k) = some (.string k.data.toList) := Go.WideMaps.keyOf_string_mk Tryz.underlying9 (by unfold maxLen; omega)
theorem lit_ba {a b : ByteArray} (h : a ≠ b) : (Lit.string a.data.toList) ≠ .string b.data.toList := fun c => h (ba_ext (by simpa using c))
structure PD (D : DataW Unit) (m : MM) : Prop where
  key : ∀ kl, Maps.has D kl = true → ∃ k : ByteArray, kl = .string k.data.toList
  has : ∀ k : ByteArray, Maps.has D (.string k.data.toList) = (m k).isSome
  at_ : ∀ (k t : ByteArray), m k = some t → ∀ z, D.atKey (.string k.data.toList) z = pdat ⟨k, t, false⟩
def PMap (w : World) (b : Nat) (m : MM) (c : Nat) : Prop := ∃ D : DataW Unit, w.ownsMap Tryz.prog 9 R7 b c D ∧ PD D m
theorem PMap.made (w : World) : PMap (w.alloc (.map #[] 0)) w.heap.size MM.nil 0 := ⟨.map [], World.ownsMap_made w _ _ _, ⟨fun kl h => by simp [Maps.has] at h, fun k => by simp [Maps.has, MM.nil], fun k t h => by cases h⟩⟩
theorem PMap.mono {w : World} {b : Nat} {m : MM} {c c' : Nat} (h : PMap w b m c) (hc : c ≤ c') : PMap w b m c' := by obtain ⟨D, h1, h2⟩ := h; exact ⟨D, h1.mono hc, h2⟩
theorem PMap.lt {w : World} {b : Nat} {m : MM} {c : Nat} (h : PMap w b m c) : b < w.heap.size := by obtain ⟨D, h1, _⟩ := h; exact h1.lt
theorem PMap.block {w : World} {b : Nat} {m : MM} {c : Nat} (h : PMap w b m c) : ∃ es clock, w.heap[b]? = some (.map es clock) := by obtain ⟨D, ⟨es, clock, h1, _⟩, _⟩ := h; exact ⟨es, clock, h1⟩
theorem PMap.keep {w w' : World} {b : Nat} {m : MM} {c : Nat} (h : PMap w b m c) (hb : w'.heap[b]? = w.heap[b]?) : PMap w' b m c := by
  obtain ⟨D, ⟨es, clock, h1, h2⟩, h3⟩ := h
  exact ⟨D, ⟨es, clock, by rw [hb]; exact h1, h2⟩, h3⟩
theorem PMap.bw {w w' : World} {b : Nat} {m : MM} {c : Nat} (h : PMap w b m c) (hb : Below w.heap.size w w') : PMap w' b m c := h.keep (hb.block b h.lt)
def resM (b : Nat) (m : MM) (c : Nat) : Res := ⟨[b], fun w => PMap w b m c, fun _ _ _ h hf hd => h.keep (hf.block b h.lt (hd b (by simp))), fun _ h x hx => by simp at hx; subst hx; exact h.lt⟩
theorem solid_M (b : Nat) (m : MM) (c : Nat) : Solid (resM b m c) := by
  intro W hP x hx o ho
  have hP : PMap W b m c := hP
  have hx : x = b := by simpa [resM] using hx
  subst hx
  obtain ⟨es, clock, hb⟩ := hP.block
  rw [hb] at ho; cases ho; rfl
set_option maxRecDepth 100000 in
theorem zeroPair (w : World) : (zeroValue 48).run Tryz.prog w = .ok (pairV ⟨⟨#[]⟩, ⟨#[]⟩, false⟩) w := by
  have h : (Tryz.prog.info? 48).map (fun i => (i.zero, i.size)) = some (some (pairV ⟨⟨#[]⟩, ⟨#[]⟩, false⟩), 3) := by kernel_rfl
  exact (zero_of_info h).1 w
set_option maxRecDepth 100000 in
theorem PD.set {D : DataW Unit} {m : MM} (B : PD D m) (hT : Tidy D) (p : PP) (hg : p.g = false) : PD (D.put (.string p.n.data.toList) (pdat p)) (m.set p) := by
  have hk : WideAt.IsKeyLit (.string p.n.data.toList) := trivial
  refine ⟨?_, ?_, ?_⟩
  · intro kl hh
    by_cases c : kl = .string p.n.data.toList
    · exact ⟨p.n, c⟩
    · rw [has_put_other c] at hh; exact B.key kl hh
  · intro k
    by_cases c : k = p.n
    · subst c; rw [has_put_same hT.isMap hk]; simp [MM.set, hg]
    · rw [has_put_other (lit_ba c), B.has k]; simp [MM.set, c]
  · intro k t ht z
    by_cases c : k = p.n
    · subst c
      simp only [MM.set, if_true, hg, Bool.false_eq_true, if_false, Option.some.injEq] at ht
      subst ht
      rw [atKey_put_same hT.isMap hk]
      congr 1; exact PP.eq rfl rfl hg
    · rw [atKey_put_other (lit_ba c)]
      exact B.at_ k t (by simpa [MM.set, c] using ht) z
theorem PD.del {D : DataW Unit} {m : MM} (B : PD D m) (p : PP) (hg : p.g = true) : PD (D.del (.string p.n.data.toList)) (m.set p) := by
  refine ⟨?_, ?_, ?_⟩
  · intro kl hh
    by_cases c : kl = .string p.n.data.toList
    · exact ⟨p.n, c⟩
    · rw [has_del_other c] at hh; exact B.key kl hh
  · intro k
    by_cases c : k = p.n
    · subst c; rw [has_del_same]; simp [MM.set, hg]
    · rw [has_del_other (lit_ba c), B.has k]; simp [MM.set, c]
  · intro k t ht z
    by_cases c : k = p.n
    · subst c; simp [MM.set, hg] at ht
    · rw [atKey_del_other (lit_ba c)]
      exact B.at_ k t (by simpa [MM.set, c] using ht) z
set_option maxRecDepth 100000 in
theorem PMap.store {w : World} {b : Nat} {m : MM} {c : Nat} (B : PMap w b m c) (hc : c ≤ 1000000) (p : PP) (hg : p.g = false) (hn : p.n.size ≤ 140737488355328) :
    ∃ w', (Instr.mapUpdate 82 (.map (some b)) (.string p.n) (pairV p)).run Tryz.prog w = .ok () w' ∧ PMap w' b (m.set p) (c + 1) ∧ w.grownBy w' (some b) := by
  obtain ⟨D, h1, h2⟩ := B
  obtain ⟨w', r, h3, h4⟩ := h1.update lawStr Tryz.underlying82 (by unfold maxLen; omega) (keyS hn) (R7_mk p)
  exact ⟨w', r, ⟨_, h3, h2.set (h1.tidy lawStr) p hg⟩, h4⟩
set_option maxRecDepth 100000 in
theorem PMap.drop {w : World} {b : Nat} {m : MM} {c : Nat} (B : PMap w b m c) (p : PP) (hg : p.g = true) (hn : p.n.size ≤ 140737488355328) (ty : TypeId) :
    ∃ w', (Builtin.delete_ #[82, 9] ty #[.map (some b), .string p.n]).run Tryz.prog w = .ok (.tuple #[]) w' ∧ PMap w' b (m.set p) c ∧ w.grownBy w' (some b) := by
  obtain ⟨D, h1, h2⟩ := B
  obtain ⟨w', r, h3, h4⟩ := h1.drop lawStr Tryz.underlying82 (keyS hn) ty
  exact ⟨w', r, ⟨_, h3, h2.del p hg⟩, h4.grown⟩
/-- What a map tells of a name. -/
def MM.at (m : MM) (k : ByteArray) : PP := match m k with
  | some t => ⟨k, t, false⟩
  | none => ⟨⟨#[]⟩, ⟨#[]⟩, false⟩
theorem PD.look {D : DataW Unit} {m : MM} (B : PD D m) (k : ByteArray) : D.atKey (.string k.data.toList) (pdat ⟨⟨#[]⟩, ⟨#[]⟩, false⟩) = pdat (m.at k) := by
  unfold MM.at
  cases e : m k with
  | none => rw [atKey_of_not_has (by rw [B.has k, e]; rfl)]
  | some t => rw [B.at_ k t e]
set_option maxRecDepth 100000 in
theorem PMap.look {w : World} {b : Nat} {m : MM} {c : Nat} (B : PMap w b m c) {k : ByteArray} (hk : k.size ≤ 140737488355328) :
    (Instr.lookup 82 (.map (some b)) (.string k) false).run Tryz.prog w = .ok (pairV (m.at k)) w := by
  obtain ⟨D, h1, h2⟩ := B
  obtain ⟨v, ps, r, hv⟩ := h1.lookup lawStr Tryz.underlying82 (zeroPair w) (R7_mk _) (keyS hk)
  obtain ⟨p, rfl, hz⟩ := R7_inv hv
  rw [r]
  rw [h2.look k] at hz
  rw [pdat_inj (congrArg Prod.fst hz)]
set_option maxRecDepth 100000 in
theorem PMap.lookOk {w : World} {b : Nat} {m : MM} {c : Nat} (B : PMap w b m c) {k : ByteArray} (hk : k.size ≤ 140737488355328) :
    (Instr.lookup 82 (.map (some b)) (.string k) true).run Tryz.prog w = .ok (.tuple #[pairV (m.at k), .bool (m k).isSome]) w := by
  obtain ⟨D, h1, h2⟩ := B
  obtain ⟨v, ps, r, hv⟩ := h1.look_ok lawStr Tryz.underlying82 (zeroPair w) (R7_mk _) (keyS hk)
  obtain ⟨p, rfl, hz⟩ := R7_inv hv
  rw [r, h2.has k]
  rw [h2.look k] at hz
  rw [pdat_inj (congrArg Prod.fst hz)]

/-! The names of a map. -/
theorem strKeys_mem {w : World} {b c : Nat} {R : Value → Option (DataW Unit × List MemPlace)} {D : DataW Unit} (h : w.ownsMap Tryz.prog 9 R b c D) : (strKeys D).Nodup ∧ ∀ x, x ∈ strKeys D ↔ Maps.has D (.string x) = true := by
  obtain ⟨es, hD, hpw, _⟩ := h.entries lawStr
  obtain ⟨es', hD', hko⟩ := h.keysOf
  obtain rfl : es = es' := by rw [hD] at hD'; simpa using hD'
  subst hD
  have hk : ∀ p ∈ es, ∃ x, p.1 = .string x := fun p hp => by obtain ⟨v, hv⟩ := hko p hp; obtain ⟨x, _, hx, _⟩ := Maps.keyOf_str Tryz.underlying9 hv; exact ⟨x, hx⟩
  refine ⟨?_, fun x => ?_⟩
  · show (es.map fun p => strOf p.1).Nodup
    refine List.pairwise_map.2 (hpw.imp_of_mem fun {p q} hp' hq' hne e => hne ?_)
    obtain ⟨a, ha⟩ := hk p hp'
    obtain ⟨b, hb⟩ := hk q hq'
    rw [ha, hb] at e ⊢
    exact congrArg _ e
  · rw [has_eq, List.any_eq_true]
    show x ∈ es.map (fun p => strOf p.1) ↔ _
    rw [List.mem_map]
    constructor
    · rintro ⟨p, hp', rfl⟩
      obtain ⟨a, ha⟩ := hk p hp'
      exact ⟨p, hp', by rw [ha]; simp [Lit.sameKey, strOf]⟩
    · rintro ⟨p, hp', hs⟩
      obtain ⟨a, ha⟩ := hk p hp'
      rw [ha] at hs
      exact ⟨p, hp', by rw [ha]; simpa [Lit.sameKey, strOf] using hs⟩
def nsOf (D : DataW Unit) : List ByteArray := ((strKeys D).mergeSort leB).map Wi.str
theorem nsOf_len (D : DataW Unit) : (nsOf D).length = size D := by
  unfold nsOf
  rw [List.length_map, List.length_mergeSort]
  cases D <;> simp [strKeys, size]
theorem nsOf_nm {w : World} {b c : Nat} {R : Value → Option (DataW Unit × List MemPlace)} {D : DataW Unit} {m : MM} (h : w.ownsMap Tryz.prog 9 R b c D) (B : PD D m) : Nm m (nsOf D) := by
  obtain ⟨h1, h2⟩ := strKeys_mem h
  have tr : ∀ a b c : List UInt8, leB a b = true → leB b c = true → leB a c = true := fun a b c h1 h2 => by simp only [leB, decide_eq_true_eq] at *; exact List.le_trans h1 h2
  have to : ∀ a b : List UInt8, (leB a b || leB b a) = true := fun a b => by simp only [leB, Bool.or_eq_true, decide_eq_true_eq]; exact List.le_total a b
  have hs := List.pairwise_mergeSort tr to (strKeys D)
  have hp := List.mergeSort_perm (strKeys D) leB
  have hn : ((strKeys D).mergeSort leB).Nodup := hp.nodup_iff.2 h1
  refine ⟨?_, fun k => ?_⟩
  · unfold nsOf
    refine List.pairwise_map.2 ((hs.and hn).imp fun {x y} hxy => ?_)
    show (Wi.str x).data.toList < (Wi.str y).data.toList
    rw [data_str, data_str]
    simp only [leB, decide_eq_true_eq] at hxy
    refine Decidable.byContradiction fun c => hxy.2 (List.le_antisymm hxy.1 (List.not_lt.1 c))
  · unfold nsOf
    rw [List.mem_map, ← B.has k, ← h2]
    constructor
    · rintro ⟨x, hx, rfl⟩
      rw [data_str]; exact hp.mem_iff.1 hx
    · intro hx
      exact ⟨k.data.toList, hp.mem_iff.2 hx, str_data k⟩
theorem PMap.names {w : World} {b : Nat} {m : MM} {c : Nat} (B : PMap w b m c) : ∃ ns, Nm m ns ∧ ns.length ≤ c := by
  obtain ⟨D, h1, h2⟩ := B
  exact ⟨_, nsOf_nm h1 h2, by rw [nsOf_len]; exact h1.size_le⟩
set_option maxRecDepth 100000 in
theorem PMap.len {w : World} {b : Nat} {m : MM} {c : Nat} (B : PMap w b m c) {ns : List ByteArray} (hn : Nm m ns) (ty : TypeId) : (Builtin.len_ #[82] ty #[.map (some b)]).run Tryz.prog w = .ok (.int .i64 (ns.length : Int)) w := by
  obtain ⟨D, h1, h2⟩ := B
  rw [h1.len Tryz.underlying82 ty, hn.uniq (nsOf_nm h1 h2), nsOf_len]

/-! Sets of names. -/
def AMap (w : World) (b : Nat) (ns : List ByteArray) (c : Nat) : Prop := ∃ D : DataW Unit, w.ownsMap Tryz.prog 9 unitElem b c D ∧ ∀ k : ByteArray, Maps.has D (.string k.data.toList) = inB k ns
theorem AMap.made (w : World) : AMap (w.alloc (.map #[] 0)) w.heap.size [] 0 := ⟨.map [], World.ownsMap_made w _ _ _, fun k => by simp [Maps.has, inB]⟩
theorem AMap.lt {w : World} {b : Nat} {ns : List ByteArray} {c : Nat} (h : AMap w b ns c) : b < w.heap.size := by obtain ⟨D, h1, _⟩ := h; exact h1.lt
theorem AMap.keep {w w' : World} {b : Nat} {ns : List ByteArray} {c : Nat} (h : AMap w b ns c) (hb : w'.heap[b]? = w.heap[b]?) : AMap w' b ns c := by
  obtain ⟨D, ⟨es, clock, h1, h2⟩, h3⟩ := h
  exact ⟨D, ⟨es, clock, by rw [hb]; exact h1, h2⟩, h3⟩
set_option maxRecDepth 100000 in
theorem AMap.store {w : World} {b : Nat} {ns : List ByteArray} {c : Nat} (B : AMap w b ns c) (hc : c ≤ 1000000) (n : ByteArray) (hn : n.size ≤ 140737488355328) :
    ∃ w', (Instr.mapUpdate 118 (.map (some b)) (.string n) (.agg #[])).run Tryz.prog w = .ok () w' ∧ AMap w' b (ns ++ [n]) (c + 1) ∧ w.grownBy w' (some b) := by
  obtain ⟨D, h1, h2⟩ := B
  obtain ⟨w', r, h3, h4⟩ := h1.update lawStr Tryz.underlying118 (by unfold maxLen; omega) (keyS hn) unitElem_mk
  refine ⟨w', r, ⟨_, h3, fun k => ?_⟩, h4⟩
  by_cases e : k = n
  · subst e
    have hk : WideAt.IsKeyLit (.string k.data.toList) := trivial
    rw [has_put_same (h1.tidy lawStr).isMap hk]; simp [inB]
  · rw [has_put_other (lit_ba e), h2 k]; simp [inB, Ne.symm e]
set_option maxRecDepth 100000 in
theorem AMap.lookOk {w : World} {b : Nat} {ns : List ByteArray} {c : Nat} (B : AMap w b ns c) (hz : (zeroValue 119).run Tryz.prog w = .ok (.agg #[]) w) {k : ByteArray} (hk : k.size ≤ 140737488355328) :
    (Instr.lookup 118 (.map (some b)) (.string k) true).run Tryz.prog w = .ok (.tuple #[.agg #[], .bool (inB k ns)]) w := by
  obtain ⟨D, h1, h2⟩ := B
  obtain ⟨v, ps, r, hv⟩ := h1.look_ok lawStr Tryz.underlying118 hz unitElem_mk (keyS hk)
  obtain ⟨rfl, _⟩ := unitElem_inv hv
  rw [r, h2 k]
end Go.Proofs.YtfnpeiikjiffeaaGreat
