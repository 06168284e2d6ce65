/- Disks in memory: maps of blocks, rows of writes, what a disk's struct leads to. No walk is in this text. -/
import Derived.Test.YtimhjheigejjmabRsMem
import Derived.Test.YtimhjheigejjmabDkPure
namespace Go.Proofs.Ytimhjheigejjmab
open Go.RowKit Go.Maps

theorem lawInt : Keyed Try.prog 3 := int_keyed Try.underlying3
theorem Try.infoBlock : (Try.prog.info? 78).map (·.size) = some 64 := by kernel_rfl
theorem Try.infoWrite : (Try.prog.info? 80).map (·.size) = some 65 := by kernel_rfl
theorem Try.infoU8 : (Try.prog.info? 5).map (·.size) = some 1 := by kernel_rfl
set_option maxRecDepth 100000 in
theorem zeroBlock (w : World) : (zeroValue 78).run Try.prog w = .ok (blkV nought) w := by
  have h : (Try.prog.info? 78).map (fun i => (i.zero, i.size)) = some (some (blkV nought), 64) := by kernel_rfl
  exact (zero_of_info h).1 w
theorem keyN {k : Nat} (h : k ≤ 4096) : keyOf Try.prog 3 (.int .i64 (k : Int)) = some (.int .i64 (k : Int)) := keyOf_int_mk Try.underlying3 (wf_i64 (by omega) (by omega))

/-! Maps of blocks. -/
def cntB (h : Nat → Bool) : Nat → Nat
  | 0 => 0
  | n + 1 => cntB h n + if h n then 1 else 0
theorem cntB_le (h : Nat → Bool) (n : Nat) : cntB h n ≤ n := by
  induction n with
  | zero => simp [cntB]
  | succ n ih => simp only [cntB]; split <;> omega
theorem cntB_congr {h g : Nat → Bool} {n : Nat} (e : ∀ k, k < n → h k = g k) : cntB h n = cntB g n := by
  induction n with
  | zero => rfl
  | succ n ih => simp only [cntB]; rw [ih (fun k hk => e k (by omega)), e n (by omega)]
def setB (h : Nat → Bool) (m : Nat) : Nat → Bool := fun k => (k == m) || h k
theorem cntB_set {h : Nat → Bool} {m n : Nat} (hm : m < n) (h0 : h m = false) : cntB (setB h m) n = cntB h n + 1 := by
  induction n with
  | zero => omega
  | succ n ih =>
    simp only [cntB]
    by_cases c : m = n
    · subst c
      rw [cntB_congr (h := setB h m) (g := h) (fun k hk => by simp [setB]; omega), h0]
      simp [setB]
    · have : setB h m n = h n := by simp [setB]; omega
      rw [ih (by omega), this]; omega
theorem cntB_set_true {h : Nat → Bool} {m n : Nat} (h0 : h m = true) : cntB (setB h m) n = cntB h n := cntB_congr (fun k _ => by
  simp only [setB]
  by_cases c : k = m
  · subst c; simp [h0]
  · simp [c])

structure BD (D : DataW Unit) (N : Nat) (h : Nat → Bool) (f : Nat → ByteArray) : Prop where
  cnt : size D = cntB h N
  key : ∀ kl, Maps.has D kl = true → ∃ k : Nat, k < N ∧ kl = .int .i64 (k : Int)
  has : ∀ k : Nat, k < N → Maps.has D (.int .i64 (k : Int)) = h k
  at_ : ∀ k : Nat, k < N → h k = true → ∀ z, D.atKey (.int .i64 (k : Int)) z = .lit (.string (f k).data.toList)
/-- A map of blocks: which sectors it has, and with which bytes. -/
def BMap (w : World) (b N : Nat) (h : Nat → Bool) (f : Nat → ByteArray) : Prop := ∃ D : DataW Unit, w.ownsMap Try.prog 3 R5 b N D ∧ BD D N h f
theorem own_bound {w : World} {b n m : Nat} {D : DataW Unit} (h : w.ownsMap Try.prog 3 R5 b n D) (hs : size D ≤ m) : w.ownsMap Try.prog 3 R5 b m D := by
  obtain ⟨es, clock, h1, h2, h3, rfl⟩ := h
  refine ⟨es, clock, h1, h2, ?_, rfl⟩
  simpa [size, length_sorted] using hs
theorem lit_ne {a b : Nat} (h : a ≠ b) : (Lit.int .i64 (a : Int)) ≠ .int .i64 (b : Int) := by
  intro c; simp only [Lit.int.injEq, true_and] at c; omega
set_option maxRecDepth 100000 in
theorem BD.put {D : DataW Unit} {N : Nat} {h : Nat → Bool} {f : Nat → ByteArray} (B : BD D N h f) (hT : Tidy D) {m : Nat} (hm : m < N) (s : ByteArray) : BD (D.put (.int .i64 (m : Int)) (.lit (.string s.data.toList))) N (setB h m) (upd f m s) := by
  have hk : WideAt.IsKeyLit (.int .i64 (m : Int)) := trivial
  refine ⟨?_, ?_, ?_, ?_⟩
  · rw [size_put hT, B.has m hm]
    cases e : h m
    · rw [cntB_set hm e, B.cnt]; rfl
    · rw [cntB_set_true e, B.cnt]; rfl
  · intro kl hh
    by_cases c : kl = .int .i64 (m : Int)
    · exact ⟨m, hm, c⟩
    · rw [has_put_other c] at hh
      exact B.key kl hh
  · intro k hkN
    by_cases c : k = m
    · subst c; rw [has_put_same hT.isMap hk]; simp [setB]
    · rw [has_put_other (lit_ne c), B.has k hkN]; simp [setB, c]
  · intro k hkN hh z
    by_cases c : k = m
    · subst c; rw [atKey_put_same hT.isMap hk, upd_same]
    · rw [atKey_put_other (lit_ne c), upd_other _ _ c]
      exact B.at_ k hkN (by simpa [setB, c] using hh) z
theorem BD.congr {D : DataW Unit} {N : Nat} {h g : Nat → Bool} {f f' : Nat → ByteArray} (B : BD D N h f) (e1 : ∀ k, k < N → h k = g k) (e2 : ∀ k, k < N → h k = true → f k = f' k) : BD D N g f' :=
  ⟨by rw [B.cnt]; exact cntB_congr e1, B.key, fun k hk => by rw [B.has k hk, e1 k hk], fun k hk hh z => by rw [B.at_ k hk (by rw [e1 k hk]; exact hh) z, e2 k hk (by rw [e1 k hk]; exact hh)]⟩
theorem BD.made (N : Nat) (f : Nat → ByteArray) : BD (.map []) N (fun _ => false) f := by
  refine ⟨?_, fun kl h => by simp [Maps.has] at h, fun k _ => by simp [Maps.has], fun k _ h => by simp at h⟩
  have : cntB (fun _ => false) N = 0 := by
    induction N with
    | zero => rfl
    | succ N ih => simp only [cntB, ih]; rfl
  rw [this]; rfl
theorem BMap.made (w : World) (N : Nat) (f : Nat → ByteArray) : BMap (w.alloc (.map #[] 0)) w.heap.size N (fun _ => false) f := ⟨.map [], own_bound (World.ownsMap_made w _ _ _) (by simp [size]), BD.made N f⟩
theorem BMap.congr {w : World} {b N : Nat} {h g : Nat → Bool} {f f' : Nat → ByteArray} (B : BMap w b N h f) (e1 : ∀ k, k < N → h k = g k) (e2 : ∀ k, k < N → h k = true → f k = f' k) : BMap w b N g f' := by
  obtain ⟨D, h1, h2⟩ := B; exact ⟨D, h1, h2.congr e1 e2⟩
theorem BMap.lt {w : World} {b N : Nat} {h : Nat → Bool} {f : Nat → ByteArray} (B : BMap w b N h f) : b < w.heap.size := by obtain ⟨D, h1, _⟩ := B; exact h1.lt
theorem BMap.block {w : World} {b N : Nat} {h : Nat → Bool} {f : Nat → ByteArray} (B : BMap w b N h f) : ∃ es clock, w.heap[b]? = some (.map es clock) := by obtain ⟨D, ⟨es, clock, h1, _⟩, _⟩ := B; exact ⟨es, clock, h1⟩
theorem BMap.keep {w w' : World} {b N : Nat} {h : Nat → Bool} {f : Nat → ByteArray} (B : BMap w b N h f) (hb : w'.heap[b]? = w.heap[b]?) : BMap w' b N h f := by
  obtain ⟨D, ⟨es, clock, h1, h2⟩, h3⟩ := B
  exact ⟨D, ⟨es, clock, by rw [hb]; exact h1, h2⟩, h3⟩
set_option maxRecDepth 100000 in
theorem BMap.store {w : World} {b N : Nat} {h : Nat → Bool} {f : Nat → ByteArray} (B : BMap w b N h f) (hN : N ≤ 4096) {m : Nat} (hm : m < N) {s : ByteArray} (hs : s.size = 64) :
    ∃ w', (Instr.mapUpdate 68 (.map (some b)) (.int .i64 (m : Int)) (blkV s)).run Try.prog w = .ok () w' ∧ BMap w' b N (setB h m) (upd f m s) ∧ w.grownBy w' (some b) := by
  obtain ⟨D, h1, h2⟩ := B
  obtain ⟨w', r, h3, h4⟩ := h1.update lawInt Try.underlying68 (by unfold maxLen; omega) (keyN (k := m) (by omega)) (R5_mk hs)
  have hp := h2.put (h1.tidy lawInt) hm s
  exact ⟨w', r, ⟨_, own_bound h3 (by rw [hp.cnt]; exact cntB_le _ _), hp⟩, h4⟩
set_option maxRecDepth 100000 in
theorem BMap.look {w : World} {b N : Nat} {h : Nat → Bool} {f : Nat → ByteArray} (B : BMap w b N h f) (hN : N ≤ 4096) {m : Nat} (hm : m < N) :
    (Instr.lookup 68 (.map (some b)) (.int .i64 (m : Int)) false).run Try.prog w = .ok (blkV (if h m then f m else nought)) w := by
  obtain ⟨D, h1, h2⟩ := B
  obtain ⟨v, ps, r, hv⟩ := h1.lookup lawInt Try.underlying68 (zeroBlock w) (R5_mk nought_size) (keyN (k := m) (by omega))
  obtain ⟨s, hs, rfl, hz⟩ := R5_inv hv
  rw [r]
  congr 2
  simp only [Prod.mk.injEq] at hz
  cases e : h m
  · rw [atKey_of_not_has (by rw [h2.has m hm]; exact e)] at hz
    simp only [DataW.lit.injEq, Lit.string.injEq] at hz
    cases s; simp only [Bool.false_eq_true, if_false]
    cases hn : nought with | mk n => rw [hn] at hz; simp at hz; rw [hz.1]
  · rw [h2.at_ m hm e] at hz
    simp only [DataW.lit.injEq, Lit.string.injEq] at hz
    cases s; simp only [if_true]
    cases hn : f m with | mk n => rw [hn] at hz; simp at hz; rw [hz.1]
set_option maxRecDepth 100000 in
theorem BMap.lookOk {w : World} {b N : Nat} {h : Nat → Bool} {f : Nat → ByteArray} (B : BMap w b N h f) (hN : N ≤ 4096) {m : Nat} (hm : m < N) :
    (Instr.lookup 68 (.map (some b)) (.int .i64 (m : Int)) true).run Try.prog w = .ok (.tuple #[blkV (if h m then f m else nought), .bool (h m)]) w := by
  obtain ⟨D, h1, h2⟩ := B
  obtain ⟨v, ps, r, hv⟩ := h1.look_ok lawInt Try.underlying68 (zeroBlock w) (R5_mk nought_size) (keyN (k := m) (by omega))
  obtain ⟨s, hs, rfl, hz⟩ := R5_inv hv
  rw [r, h2.has m hm]
  have e : s = (if h m then f m else nought) := by
    simp only [Prod.mk.injEq] at hz
    cases e : h m
    · rw [atKey_of_not_has (by rw [h2.has m hm]; exact e)] at hz
      simp only [DataW.lit.injEq, Lit.string.injEq] at hz
      cases s; simp only [Bool.false_eq_true, if_false]
      cases hn : nought with | mk n => rw [hn] at hz; simp at hz; rw [hz.1]
    · rw [h2.at_ m hm e] at hz
      simp only [DataW.lit.injEq, Lit.string.injEq] at hz
      cases s; simp only [if_true]
      cases hn : f m with | mk n => rw [hn] at hz; simp at hz; rw [hz.1]
  rw [e]
/-- The sectors, as the map 'now' tells them: those that it has not are noughts. -/
def NMap (w : World) (b N : Nat) (f : Nat → ByteArray) : Prop := ∃ h, BMap w b N h f ∧ ∀ k, k < N → h k = false → f k = nought
theorem NMap.keep {w w' : World} {b N : Nat} {f : Nat → ByteArray} (B : NMap w b N f) (hb : w'.heap[b]? = w.heap[b]?) : NMap w' b N f := by obtain ⟨h, h1, h2⟩ := B; exact ⟨h, h1.keep hb, h2⟩
theorem NMap.lt {w : World} {b N : Nat} {f : Nat → ByteArray} (B : NMap w b N f) : b < w.heap.size := by obtain ⟨h, h1, h2⟩ := B; exact h1.lt
theorem NMap.block {w : World} {b N : Nat} {f : Nat → ByteArray} (B : NMap w b N f) : ∃ es clock, w.heap[b]? = some (.map es clock) := by obtain ⟨h, h1, h2⟩ := B; exact h1.block
theorem NMap.congr {w : World} {b N : Nat} {f g : Nat → ByteArray} (B : NMap w b N f) (e : ∀ k, k < N → f k = g k) : NMap w b N g := by
  obtain ⟨h, h1, h2⟩ := B
  exact ⟨h, h1.congr (fun _ _ => rfl) (fun k hk _ => e k hk), fun k hk hh => by rw [← e k hk]; exact h2 k hk hh⟩
theorem NMap.look {w : World} {b N : Nat} {f : Nat → ByteArray} (B : NMap w b N f) (hN : N ≤ 4096) {m : Nat} (hm : m < N) :
    (Instr.lookup 68 (.map (some b)) (.int .i64 (m : Int)) false).run Try.prog w = .ok (blkV (f m)) w := by
  obtain ⟨h, h1, h2⟩ := B
  rw [h1.look hN hm]
  cases e : h m
  · simp only [Bool.false_eq_true, if_false]; rw [h2 m hm e]
  · rfl
theorem NMap.store {w : World} {b N : Nat} {f : Nat → ByteArray} (B : NMap w b N f) (hN : N ≤ 4096) {m : Nat} (hm : m < N) {s : ByteArray} (hs : s.size = 64) :
    ∃ w', (Instr.mapUpdate 68 (.map (some b)) (.int .i64 (m : Int)) (blkV s)).run Try.prog w = .ok () w' ∧ NMap w' b N (upd f m s) ∧ w.grownBy w' (some b) := by
  obtain ⟨h, h1, h2⟩ := B
  obtain ⟨w', r, h3, h4⟩ := h1.store hN hm hs
  refine ⟨w', r, ⟨_, h3, fun k hk hh => ?_⟩, h4⟩
  simp only [setB, Bool.or_eq_false_iff, beq_eq_false_iff_ne] at hh
  rw [upd_other _ _ hh.1]; exact h2 k hk hh.2

/-! Rows of writes. -/
def wrC (p : Nat × ByteArray) : List Value := .int .i64 (p.1 : Int) :: blkC p.2
def FRow (w : World) (v : Value) (l : List (Nat × ByteArray)) : Prop := w.ownsRow 0 80 65 v l.length (l.flatMap wrC)
theorem wrC_len {p : Nat × ByteArray} (h : p.2.size = 64) : (wrC p).length = 65 := by simp [wrC, blkC_len, h]
theorem flat_get (l : List (Nat × ByteArray)) (hl : ∀ p ∈ l, p.2.size = 64) (i : Nat) (p : Nat × ByteArray) (h : l[i]? = some p) (j : Nat) (v : Value) (hv : (wrC p)[j]? = some v) : (l.flatMap wrC)[i * 65 + j]? = some v := by
  induction l generalizing i with
  | nil => simp at h
  | cons u l ih =>
    have hu := wrC_len (hl u (by simp))
    cases i with
    | zero =>
      simp at h; subst h
      simp only [Nat.zero_mul, Nat.zero_add, List.flatMap_cons]
      rw [List.getElem?_append_left ((List.getElem?_eq_some_iff.1 hv).1)]
      exact hv
    | succ i =>
      have := ih (fun p hp => hl p (by simp [hp])) i (by simpa using h)
      simp only [List.flatMap_cons]
      rw [List.getElem?_append_right (by omega), hu, show (i + 1) * 65 + j - 65 = i * 65 + j by omega]
      exact this
theorem FRow.range {w : World} {v : Value} {l : List (Nat × ByteArray)} (h : FRow w v l) (hl : ∀ p ∈ l, p.2.size = 64) {g : Nat} (hg : v.ownBlock = some g) {i : Nat} {p : Nat × ByteArray} (hi : l[i]? = some p) : w.rangeAt g (i * 65) (wrC p) := by
  intro j u hj
  exact own_cell h hg (flat_get l hl i p hi j u hj)

/-! A disk. -/
def ptr (b : Nat) : Value := .pointer (some ⟨b, 0, none⟩)
def comeF (d : Nat) : Value := .func (.func 34) #[ptr d] #[]
def cutF (c : Nat) : Value := .func (.func 59) #[ptr c] #[]
def ComeAt (w : World) (d cb : Nat) (cv : Value) (S : DS) : Prop :=
  (∃ fn fs cs, cv = .func fn fs cs) ∧ (S.up = true → match S.cut with
    | none => cv = comeF d
    | some (n, bits) => cv = cutF cb ∧ (n : Int) ≤ 9223372036854775807 ∧ w.heap[cb]? = some (.cells #[ptr d, .int .i64 (n : Int), .int .i64 bits] 96 (0, 0)))
structure Dk (w : World) (d nb sb cb : Nat) (fv cv : Value) (S : DS) : Prop where
  blk : w.heap[d]? = some (.cells #[.int .i64 (S.N : Int), .bool S.up, .int .i64 (S.cnt : Int), .int .i64 (S.since.length : Int), .map (some nb), .map (some sb), fv, cv] 72 (0, 0))
  now : NMap w nb S.N S.now
  syn : BMap w sb S.N (fun k => S.since.any (fun p => p.1 == k)) S.base
  row : FRow w fv (S.since.take 31)
  come : ComeAt w d cb cv S
  ok : S.ok
  ne : nb ≠ sb
def czone (S : DS) (cb : Nat) : List Nat := if S.up = true ∧ S.cut ≠ none then [cb] else []
def dfoot (d nb sb cb : Nat) (fv : Value) (S : DS) : List Nat := d :: nb :: sb :: (fv.ownBlock.toList ++ czone S cb)
theorem mem_dfoot {d nb sb cb x : Nat} {fv : Value} {S : DS} : x ∈ dfoot d nb sb cb fv S ↔ x = d ∨ x = nb ∨ x = sb ∨ fv.ownBlock = some x ∨ (x = cb ∧ S.up = true ∧ S.cut ≠ none) := by
  unfold dfoot czone
  split
  · rename_i c; simp [eq_comm, c]
  · rename_i c
    simp only [List.append_nil, List.mem_cons, Option.mem_toList]
    constructor
    · rintro (h | h | h | h) <;> simp [h]
    · rintro (h | h | h | h | ⟨_, h⟩)
      · exact Or.inl h
      · exact Or.inr (Or.inl h)
      · exact Or.inr (Or.inr (Or.inl h))
      · exact Or.inr (Or.inr (Or.inr h))
      · exact absurd h c
theorem ComeAt.cut {w : World} {d cb : Nat} {cv : Value} {S : DS} (h : ComeAt w d cb cv S) (h1 : S.up = true) (h2 : S.cut ≠ none) : ∃ n bits, S.cut = some (n, bits) ∧ cv = cutF cb ∧ (n : Int) ≤ 9223372036854775807 ∧ w.heap[cb]? = some (.cells #[ptr d, .int .i64 (n : Int), .int .i64 bits] 96 (0, 0)) := by
  have := h.2 h1
  cases e : S.cut with
  | none => exact absurd e h2
  | some p => obtain ⟨n, bits⟩ := p; rw [e] at this; exact ⟨n, bits, rfl, this.1, this.2.1, this.2.2⟩
theorem Dk.lt {w : World} {d nb sb cb : Nat} {fv cv : Value} {S : DS} (h : Dk w d nb sb cb fv cv S) : ∀ x ∈ dfoot d nb sb cb fv S, x < w.heap.size := by
  intro x hx
  rcases mem_dfoot.1 hx with rfl | rfl | rfl | hx | ⟨rfl, h1, h2⟩
  · exact lt_of_blk h.blk
  · exact h.now.lt
  · exact h.syn.lt
  · exact (World.ownsRow.lt h.row x hx).2
  · obtain ⟨_, _, _, _, _, hb⟩ := h.come.cut h1 h2
    exact lt_of_blk hb
theorem Dk.apart {w : World} {d nb sb cb : Nat} {fv cv : Value} {S : DS} (h : Dk w d nb sb cb fv cv S) : d ≠ nb ∧ d ≠ sb ∧ fv.ownBlock ≠ some d ∧ fv.ownBlock ≠ some nb ∧ fv.ownBlock ≠ some sb := by
  obtain ⟨e1, c1, hm⟩ := h.now.block
  obtain ⟨e2, c2, hs⟩ := h.syn.block
  refine ⟨?_, ?_, own_block_ne h.row h.blk (by decide), ?_, ?_⟩
  · rintro rfl; rw [h.blk] at hm; simp at hm
  · rintro rfl; rw [h.blk] at hs; simp at hs
  · intro c
    obtain ⟨cur, hc⟩ := own_kind h.row c
    rw [hm] at hc; simp at hc
  · intro c
    obtain ⟨cur, hc⟩ := own_kind h.row c
    rw [hs] at hc; simp at hc
theorem Dk.apartC {w : World} {d nb sb cb : Nat} {fv cv : Value} {S : DS} (h : Dk w d nb sb cb fv cv S) (h1 : S.up = true) (h2 : S.cut ≠ none) : cb ≠ d ∧ cb ≠ nb ∧ cb ≠ sb ∧ fv.ownBlock ≠ some cb := by
  obtain ⟨e1, c1, hm⟩ := h.now.block
  obtain ⟨e2, c2, hs⟩ := h.syn.block
  obtain ⟨_, _, _, _, _, hb⟩ := h.come.cut h1 h2
  refine ⟨?_, ?_, ?_, own_block_ne h.row hb (by decide)⟩
  · rintro rfl; rw [h.blk] at hb; simp at hb
  · rintro rfl; rw [hb] at hm; simp at hm
  · rintro rfl; rw [hb] at hs; simp at hs
theorem Dk.keep {w w' : World} {d nb sb cb : Nat} {fv cv : Value} {S : DS} {T : List Nat} (h : Dk w d nb sb cb fv cv S) (hf : Fr T w w') (hd : ∀ x ∈ dfoot d nb sb cb fv S, x ∉ T) : Dk w' d nb sb cb fv cv S := by
  have hb : ∀ x ∈ dfoot d nb sb cb fv S, w'.heap[x]? = w.heap[x]? := fun x hx => hf.block x (h.lt x hx) (hd x hx)
  refine ⟨by rw [hb d (mem_dfoot.2 (Or.inl rfl))]; exact h.blk, h.now.keep (hb nb (mem_dfoot.2 (Or.inr (Or.inl rfl)))), h.syn.keep (hb sb (mem_dfoot.2 (Or.inr (Or.inr (Or.inl rfl))))),
    own_keep h.row (fun k hk => hb k (mem_dfoot.2 (Or.inr (Or.inr (Or.inr (Or.inl hk)))))), ⟨h.come.1, fun hu => ?_⟩, h.ok, h.ne⟩
  have := h.come.2 hu
  cases e : S.cut with
  | none => rw [e] at this; exact this
  | some p =>
    obtain ⟨n, bits⟩ := p
    rw [e] at this
    exact ⟨this.1, this.2.1, by rw [hb cb (mem_dfoot.2 (Or.inr (Or.inr (Or.inr (Or.inr ⟨rfl, hu, by rw [e]; simp⟩)))))]; exact this.2.2⟩
theorem Dk.cells {w : World} {d nb sb cb : Nat} {fv cv : Value} {S : DS} (h : Dk w d nb sb cb fv cv S) :
    w.cell? ⟨d, 0, none⟩ = some (.int .i64 (S.N : Int)) ∧ w.cell? ⟨d, 1, none⟩ = some (.bool S.up) ∧ w.cell? ⟨d, 2, none⟩ = some (.int .i64 (S.cnt : Int)) ∧ w.cell? ⟨d, 3, none⟩ = some (.int .i64 (S.since.length : Int)) ∧ w.cell? ⟨d, 4, none⟩ = some (.map (some nb)) ∧ w.cell? ⟨d, 5, none⟩ = some (.map (some sb)) ∧ w.cell? ⟨d, 6, none⟩ = some fv ∧ w.cell? ⟨d, 7, none⟩ = some cv ∧ ∀ j, w.frozen? ⟨d, j, none⟩ = false := by
  refine ⟨?_, ?_, ?_, ?_, ?_, ?_, ?_, ?_, fun j => ?_⟩ <;> simp [World.cell?, World.frozen?, h.blk]
/-- A disk, its blocks Z. -/
def DkS (w : World) (d : Nat) (S : DS) (Z : List Nat) : Prop := ∃ nb sb cb fv cv, Z = dfoot d nb sb cb fv S ∧ Dk w d nb sb cb fv cv S
theorem DkS.keep {w w' : World} {d : Nat} {S : DS} {Z T : List Nat} (h : DkS w d S Z) (hf : Fr T w w') (hd : ∀ x ∈ Z, x ∉ T) : DkS w' d S Z := by
  obtain ⟨nb, sb, cb, fv, cv, rfl, h1⟩ := h
  exact ⟨nb, sb, cb, fv, cv, rfl, h1.keep hf hd⟩
theorem DkS.lt {w : World} {d : Nat} {S : DS} {Z : List Nat} (h : DkS w d S Z) : ∀ x ∈ Z, x < w.heap.size := by
  obtain ⟨nb, sb, cb, fv, cv, rfl, h1⟩ := h
  exact h1.lt
theorem DkS.bw {w w' : World} {d : Nat} {S : DS} {Z : List Nat} (h : DkS w d S Z) (hb : Below w.heap.size w w') : DkS w' d S Z := h.keep (Fr.ofBelow hb) (by simp)
theorem DkS.ok {w : World} {d : Nat} {S : DS} {Z : List Nat} (h : DkS w d S Z) : S.ok := by obtain ⟨nb, sb, cb, fv, cv, rfl, h1⟩ := h; exact h1.ok
def resD (d : Nat) (S : DS) (Z : List Nat) : Res := ⟨Z, fun w => DkS w d S Z, fun _ _ _ h hf hd => h.keep hf hd, fun _ h => h.lt⟩

end Go.Proofs.Ytimhjheigejjmab
