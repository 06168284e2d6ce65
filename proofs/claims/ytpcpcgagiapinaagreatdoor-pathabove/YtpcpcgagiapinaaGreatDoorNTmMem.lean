/- Terms and stores of terms in memory, and what a step of making leaves. No walk is in this text. -/
import Derived.Test.YtpcpcgagiapinaaGreatDoorProg
import Derived.Test.YtpcpcgagiapinaaGreatDoorZ05
import Derived.WalkKit
import Derived.WalkSpells
import Derived.WalkLawsBesides
import Derived.WalkSmall
import Derived.Maps.OwnSet
import Derived.Maps.AppendAt
import Derived.DeepKeys4
import Derived.BigQuiet
namespace Go.Proofs.YtpcpcgagiapinaaGreatDoor.Tn
open Go.RowKit Go.Maps
theorem hide {p : Prop} (h : p) : Hid p := h
theorem unhide {p : Prop} (h : Hid p) : p := h
structure Fr (S : List Nat) (w w' : World) : Prop where
  os : w'.os = w.os
  tape : w'.tape = w.tape
  output : w'.output = w.output
  size : w.heap.size ≤ w'.heap.size
  block : ∀ k, k < w.heap.size → k ∉ S → w'.heap[k]? = w.heap[k]?
theorem Fr.refl (S : List Nat) (w : World) : Fr S w w := ⟨rfl, rfl, rfl, Nat.le_refl _, fun _ _ _ => rfl⟩
theorem Fr.trans {S S' T : List Nat} {w w1 w2 : World} (h : Fr S w w1) (k : Fr S' w1 w2) (h1 : ∀ x, x < w.heap.size → x ∈ S → x ∈ T) (h2 : ∀ x, x < w.heap.size → x ∈ S' → x ∈ T) : Fr T w w2 :=
  ⟨k.os.trans h.os, k.tape.trans h.tape, k.output.trans h.output, Nat.le_trans h.size k.size,
   fun x hx hn => (k.block x (Nat.lt_of_lt_of_le hx h.size) (fun c => hn (h2 x hx c))).trans (h.block x hx (fun c => hn (h1 x hx c)))⟩
theorem Fr.mono {S T : List Nat} {w w1 : World} (h : Fr S w w1) (h1 : ∀ x, x < w.heap.size → x ∈ S → x ∈ T) : Fr T w w1 :=
  ⟨h.os, h.tape, h.output, h.size, fun x hx hn => h.block x hx (fun c => hn (h1 x hx c))⟩
theorem Fr.tr {S : List Nat} {w w1 w2 : World} (h : Fr S w w1) (k : Fr S w1 w2) : Fr S w w2 := h.trans k (fun _ _ c => c) (fun _ _ c => c)
theorem Fr.alloc {S : List Nat} {w w1 : World} (h : Fr S w w1) (o : Obj) : Fr S w (w1.alloc o) :=
  h.tr ⟨rfl, rfl, rfl, by simp, fun k hk _ => Below.heap_alloc _ _ _ hk⟩
theorem Fr.setCell {S : List Nat} {w w1 : World} (h : Fr S w w1) {a : Addr} (ha : w.heap.size ≤ a.block ∨ a.block ∈ S) (u : Value) : Fr S w (w1.setCell a u) :=
  h.trans (S' := [a.block]) ⟨rfl, rfl, rfl, by simp [World.setCell], fun k _ hn => Below.heap_setCell _ _ _ _ (by simpa using hn)⟩ (fun _ _ c => c)
    (fun x hx c => by simp at c; subst c; rcases ha with h | h; omega; exact h)
theorem Fr.drew {S : List Nat} {w w1 : World} (h : Fr S w w1) : Fr S w w1.drew := ⟨h.os, h.tape, h.output, h.size, h.block⟩
theorem Fr.drewN {S : List Nat} {w w1 : World} (h : Fr S w w1) (n : Nat) : Fr S w (w1.drewN n) := by
  have hb : Below w1.heap.size w1 (w1.drewN n) := below_drewN (Below.refl _ _) n
  exact h.tr ⟨hb.os, hb.tape, hb.output, hb.size, fun k hk _ => hb.block k hk⟩
theorem Fr.ofBelow {w w' : World} (h : Below w.heap.size w w') : Fr [] w w' := ⟨h.os, h.tape, h.output, h.size, fun k hk _ => h.block k hk⟩
theorem Fr.below {S : List Nat} {w w1 w2 : World} (h : Fr S w w1) (hb : Below w1.heap.size w1 w2) : Fr S w w2 :=
  h.tr ⟨hb.os, hb.tape, hb.output, hb.size, fun k hk _ => hb.block k hk⟩
theorem Fr.toBelow {w w' : World} (h : Fr [] w w') : Below w.heap.size w w' := ⟨h.os, h.tape, h.output, h.size, fun k hk => h.block k hk (by simp)⟩
theorem Fr.ofGrown {w w' : World} {row : Option Nat} (hg : w.grownBy w' row) : Fr row.toList w w' :=
  ⟨hg.os, hg.tape, hg.output, hg.size, fun k hk hn => hg.block k hk (fun c => hn (by rw [← c]; simp))⟩
theorem Fr.toBase {S : List Nat} {w w1 w2 : World} (h : Below w.heap.size w w1) (k : Fr S w1 w2) (hS : ∀ x ∈ S, w.heap.size ≤ x) : Below w.heap.size w w2 :=
  ((Fr.ofBelow h).trans (T := []) k (fun _ _ c => by cases c) (fun x hx c => by have := hS x c; omega)).toBelow
theorem bw_mono {B B' : Nat} {w w' : World} (h : Below B' w w') (hB : B ≤ B') : Below B w w' := ⟨h.os, h.tape, h.output, h.size, fun k hk => h.block k (by omega)⟩
theorem bw_tr {w w1 w2 : World} (h : Below w.heap.size w w1) (k : Below w1.heap.size w1 w2) : Below w.heap.size w w2 := h.trans (bw_mono k h.size)
theorem lt_of_blk {w : World} {b : Nat} {o : Obj} (h : w.heap[b]? = some o) : b < w.heap.size := by
  rcases Nat.lt_or_ge b w.heap.size with h1 | h1
  · exact h1
  · rw [Array.getElem?_eq_none h1] at h; cases h
theorem lt_of_cell {w : World} {a : Addr} {v : Value} (h : w.cell? a = some v) : a.block < w.heap.size := World.block_lt_of_cell? w a h
def tmV (t : Tm) : Value := .agg #[.int .u8 t.kd, .int .i64 t.n, .int .i64 t.a, .int .i64 t.b]
def tmC (t : Tm) : List Value := [.int .u8 t.kd, .int .i64 t.n, .int .i64 t.a, .int .i64 t.b]
structure Tm.ok (t : Tm) : Prop where
  k1 : 0 ≤ t.kd
  k2 : t.kd ≤ 255
  n1 : -9223372036854775808 ≤ t.n
  n2 : t.n ≤ 9223372036854775807
  a1 : -9223372036854775808 ≤ t.a
  a2 : t.a ≤ 9223372036854775807
  b1 : -9223372036854775808 ≤ t.b
  b2 : t.b ≤ 9223372036854775807
theorem tmV_inj {t u : Tm} (h : tmV t = tmV u) : t = u := by
  cases t; cases u
  simp only [tmV, Value.agg.injEq, Array.mk.injEq, List.cons.injEq, Value.int.injEq, true_and, and_true] at h
  obtain ⟨rfl, rfl, rfl, rfl⟩ := h
  rfl
theorem wf_u8 {x : Int} (h1 : 0 ≤ x) (h2 : x ≤ 255) : (Lit.int .u8 x).wf = true := by
  simp [Lit.wf, IntKind.min, IntKind.max, IntKind.signed, IntKind.bits]; omega
theorem wf_i64 {x : Int} (h1 : -9223372036854775808 ≤ x) (h2 : x ≤ 9223372036854775807) : (Lit.int .i64 x).wf = true := by
  simp [Lit.wf, IntKind.min, IntKind.max, IntKind.signed, IntKind.bits]; omega
theorem Tryz.cellsTerm : Tryz.prog.cellsOf 64 = 4 := by kernel_rfl
theorem Tryz.laidOut : laidOutB Tryz.prog = true := by kernel_rfl
theorem Tryz.wideTerm : (match Tryz.prog.underlying 64 with | some (.array _ _) | some (.struct _) => true | _ => false) = true := by kernel_rfl
set_option maxRecDepth 100000 in
theorem lawTm : Keyed Tryz.prog 64 := Keyed.of_law (deep_law_laid Tryz.laidOut (m := 3) (by omega) (of_decide_eq_true (by kernel_rfl)) (by kernel_rfl) Tryz.wideTerm)
theorem lawInt : Keyed Tryz.prog 3 := int_keyed Tryz.underlying3
theorem zeroInt (w : World) : (zeroValue 3).run Tryz.prog w = .ok (.int .i64 0) w := by kernel_rfl
theorem Tryz.infoTerm : (Tryz.prog.info? 64).map (fun i => (i.zero, i.size, i.bytes)) = some (some (.agg #[.int .u8 0, .int .i64 0, .int .i64 0, .int .i64 0]), 4, 32) := by kernel_rfl
theorem Tryz.infoInt : (Tryz.prog.info? 3).map (fun i => (i.zero, i.size, i.bytes)) = some (some (.int .i64 0), 1, 8) := by kernel_rfl
theorem keyOf_tm {t : Tm} (h : t.ok) : ∃ kl, keyOf Tryz.prog 64 (tmV t) = some kl := by
  have hk : Tryz.prog.keyType 64 = true := by kernel_rfl
  have hf : (tmV t).formed Tryz.prog 64 = true := by
    have u0 := Tryz.underlying64
    have c0 := Tryz.cellsTerm
    generalize Tryz.prog = P at *
    simp [Value.formed, u0, c0, tmV]
  obtain ⟨m, hm⟩ : ∃ m, Tryz.prog.types.size = m + 1 := ⟨Tryz.prog.types.size - 1, by have : 0 < Tryz.prog.types.size := of_decide_eq_true (by kernel_rfl); omega⟩
  have c1 : Tryz.prog.cellsOf 62 = 1 := by kernel_rfl
  have c2 : Tryz.prog.cellsOf 2 = 1 := by kernel_rfl
  have c3 : Tryz.prog.cellsOf 3 = 1 := by kernel_rfl
  refine ⟨.string (keyBytes [.int .u8 t.kd, .int .i64 t.n, .int .i64 t.a, .int .i64 t.b]), ?_⟩
  have w0 := wf_u8 h.k1 h.k2
  have w1 := wf_i64 h.n1 h.n2
  have w2 := wf_i64 h.a1 h.a2
  have w3 := wf_i64 h.b1 h.b2
  have u0 := Tryz.underlying64
  have u1 := Tryz.underlying62
  have u2 := Tryz.underlying2
  have u3 := Tryz.underlying3
  have c0 := Tryz.cellsTerm
  generalize Tryz.prog = P at *
  simp only [keyOf, u0, hk, hf, hm, Bool.and_self, if_true]
  simp [Program.keyLits, u0, u1, u2, u3, c0, c1, c2, c3, tmV, Value.cells, w0, w1, w2, w3]
set_option maxRecDepth 100000 in
theorem equal_tm (w : World) {t u : Tm} (ht : t.ok) (hu : u.ok) : (Op.equal 64 (tmV t) (tmV u)).run Tryz.prog w = .ok (decide (t = u)) w := by
  obtain ⟨x, hx⟩ := keyOf_tm ht
  obtain ⟨y, hy⟩ := keyOf_tm hu
  obtain ⟨r, hr, hiff⟩ := run_equal_deep w (m := 3) (by omega) (by kernel_rfl) Tryz.wideTerm hx hy
  rw [hr]
  congr 1
  rw [Bool.eq_iff_iff, hiff, decide_eq_true_eq]
  constructor
  · rintro rfl; exact tmV_inj (lawTm.inj hx hy)
  · rintro rfl; rw [hx] at hy; exact Option.some.inj hy
def TAt (w : World) (g o : Nat) (t : Tm) : Prop :=
  w.cell? ⟨g, o, none⟩ = some (.int .u8 t.kd) ∧ w.cell? ⟨g, o + 1, none⟩ = some (.int .i64 t.n) ∧ w.cell? ⟨g, o + 2, none⟩ = some (.int .i64 t.a) ∧ w.cell? ⟨g, o + 3, none⟩ = some (.int .i64 t.b)
def Tms (w : World) (v : Value) (l : List Tm) : Prop :=
  ∃ a cap, v = .slice a l.length cap ∧ l.length ≤ 140737488355328 ∧ (l = [] ∨ ∃ g o, a = some ⟨g, o, none⟩ ∧ ∀ i t, l[i]? = some t → TAt w g (o + i * 4) t)
def TmRow (B : Nat) (w : World) (v : Value) (l : List Tm) : Prop := w.ownsRow B 64 4 v l.length (l.flatMap tmC)
theorem TAt.keep {w w' : World} {g o : Nat} {t : Tm} (h : TAt w g o t) (hb : w'.heap[g]? = w.heap[g]?) : TAt w' g o t := by
  unfold TAt World.cell? at *
  rw [hb]; exact h
theorem TAt.lt {w : World} {g o : Nat} {t : Tm} (h : TAt w g o t) : g < w.heap.size := lt_of_cell h.1
theorem Tms.bw {w w' : World} {v : Value} {l : List Tm} (h : Tms w v l) (hb : Below w.heap.size w w') : Tms w' v l := by
  obtain ⟨a, cap, hv, hl, hc⟩ := h
  refine ⟨a, cap, hv, hl, ?_⟩
  rcases hc with hc | ⟨g, o, ha, hc⟩
  · exact Or.inl hc
  · exact Or.inr ⟨g, o, ha, fun i t ht => (hc i t ht).keep (hb.block g (hc i t ht).lt)⟩
theorem Tms.fr {S : List Nat} {w w' : World} {v : Value} {l : List Tm} (h : Tms w v l) (hb : Fr S w w') (hS : ∀ k, v.ownBlock = some k → k ∉ S) : Tms w' v l := by
  obtain ⟨a, cap, rfl, hl, hc⟩ := h
  refine ⟨a, cap, rfl, hl, ?_⟩
  rcases hc with hc | ⟨g, o, rfl, hc⟩
  · exact Or.inl hc
  · exact Or.inr ⟨g, o, rfl, fun i t ht => (hc i t ht).keep (hb.block g (hc i t ht).lt (hS g rfl))⟩
theorem flat_len (l : List Tm) : (l.flatMap tmC).length = l.length * 4 := by
  induction l with
  | nil => rfl
  | cons t l ih => simp only [List.flatMap_cons, List.length_append, ih, List.length_cons]; simp [tmC]; omega
theorem flat_get (l : List Tm) (i : Nat) (t : Tm) (h : l[i]? = some t) : (l.flatMap tmC)[i * 4]? = some (.int .u8 t.kd) ∧ (l.flatMap tmC)[i * 4 + 1]? = some (.int .i64 t.n) ∧ (l.flatMap tmC)[i * 4 + 2]? = some (.int .i64 t.a) ∧ (l.flatMap tmC)[i * 4 + 3]? = some (.int .i64 t.b) := by
  induction l generalizing i with
  | nil => simp at h
  | cons u l ih =>
    cases i with
    | zero => simp at h; subst h; simp [tmC]
    | succ i =>
      have e : ∀ k, (i + 1) * 4 + k = i * 4 + k + 1 + 1 + 1 + 1 := by omega
      have := ih i (by simpa using h)
      have e0 := e 0
      simp only [Nat.add_zero] at e0
      simp only [List.flatMap_cons, tmC, List.cons_append, List.nil_append, e0, List.getElem?_cons_succ]
      exact this
theorem TmRow.nil (B : Nat) (w : World) : TmRow B w (.slice none 0 0) [] := World.ownsRow_nil _ _ _ _
theorem TmRow.at {B : Nat} {w : World} {v : Value} {l : List Tm} (h : TmRow B w v l) {g : Nat} (hg : v.ownBlock = some g) {i : Nat} {t : Tm} (hi : l[i]? = some t) : TAt w g (i * 4) t := by
  obtain ⟨f0, f1, f2, f3⟩ := flat_get l i t hi
  have hc : ∀ j u, (l.flatMap tmC)[j]? = some u → w.cell? ⟨g, j, none⟩ = some u := by
    intro j u hj
    have := World.ownsRow.cells h hg j u hj
    cases j <;> simpa [Addr.add] using this
  exact ⟨hc _ _ f0, hc _ _ f1, hc _ _ f2, hc _ _ f3⟩
theorem TmRow.form {B : Nat} {w : World} {v : Value} {l : List Tm} (h : TmRow B w v l) : (v = .slice none 0 0 ∧ l = []) ∨ ∃ g cap, v = .slice (some ⟨g, 0, none⟩) l.length cap ∧ B ≤ g ∧ g < w.heap.size ∧ l.length ≤ cap ∧ cap ≤ maxLen := by
  rcases h.2 with ⟨h1, h2⟩ | ⟨g, cap, cur, hv, hB, hg, h1, h2, _⟩
  · exact Or.inl ⟨h1, List.length_eq_zero_iff.1 h2⟩
  · exact Or.inr ⟨g, cap, hv, hB, lt_of_blk hg, h1, h2⟩
theorem TmRow.keep {B : Nat} {w w' : World} {v : Value} {l : List Tm} (h : TmRow B w v l) (hb : ∀ k, v.ownBlock = some k → w'.heap[k]? = w.heap[k]?) : TmRow B w' v l := by
  refine ⟨h.1, ?_⟩
  rcases h.2 with h2 | ⟨g, cap, cur, hv, h0, hg, r⟩
  · exact Or.inl h2
  · exact Or.inr ⟨g, cap, cur, hv, h0, by rw [hb g (by rw [hv]; rfl)]; exact hg, r⟩
theorem TmRow.lt {B : Nat} {w : World} {v : Value} {l : List Tm} (h : TmRow B w v l) : ∀ k, v.ownBlock = some k → B ≤ k ∧ k < w.heap.size := World.ownsRow.lt h
theorem TmRow.bw {B : Nat} {w w' : World} {v : Value} {l : List Tm} (h : TmRow B w v l) (hb : Below w.heap.size w w') : TmRow B w' v l := h.keep fun k hk => hb.block k (h.lt k hk).2
theorem TmRow.fr {B : Nat} {S : List Nat} {w w' : World} {v : Value} {l : List Tm} (h : TmRow B w v l) (hb : Fr S w w') (hS : ∀ k, v.ownBlock = some k → k ∉ S) : TmRow B w' v l := h.keep fun k hk => hb.block k (h.lt k hk).2 (hS k hk)
theorem TmRow.block {B : Nat} {w : World} {v : Value} {l : List Tm} {k : Nat} (h : TmRow B w v l) (hk : v.ownBlock = some k) : ∃ cur, w.heap[k]? = some (.cells cur 64 (0, 0)) := by
  rcases h.2 with ⟨rfl, _⟩ | ⟨g, cap, cur, rfl, _, hg, _⟩
  · cases hk
  · simp [Value.ownBlock] at hk; subst hk; exact ⟨cur, hg⟩
theorem TmRow.mono {B B' : Nat} {w : World} {v : Value} {l : List Tm} (h : TmRow B w v l) (hB : B' ≤ B) : TmRow B' w v l := by
  refine ⟨h.1, ?_⟩
  rcases h.2 with h2 | ⟨g, cap, cur, hv, h0, r⟩
  · exact Or.inl h2
  · exact Or.inr ⟨g, cap, cur, hv, Nat.le_trans hB h0, r⟩
theorem cells_new4 (w : World) (x0 x1 x2 x3 : Value) (t : TypeId) : ∀ j u, [x0, x1, x2, x3][j]? = some u → (w.alloc (.cells #[x0, x1, x2, x3] t)).cell? ((⟨w.heap.size, 0, none⟩ : Addr).add j) = some u := by
  intro j u hj
  have e : ∀ j, (⟨w.heap.size, 0, none⟩ : Addr).add j = ⟨w.heap.size, j, none⟩ := fun j => by cases j <;> simp [Addr.add]
  rw [e]
  unfold World.cell?; simp only [heap_alloc_new]
  match j, hj with
  | 0, hj | 1, hj | 2, hj | 3, hj => simpa using hj
  | j + 4, hj => simp at hj
theorem tmC_one (t : Tm) : ∀ u ∈ tmC t, u.oneCell' = true := by
  intro u hu
  simp only [tmC, List.mem_cons, List.not_mem_nil, or_false] at hu
  rcases hu with rfl | rfl | rfl | rfl <;> rfl
theorem flat_snoc (l : List Tm) (t : Tm) : (l ++ [t]).flatMap tmC = l.flatMap tmC ++ tmC t := by simp
def TMap (w : World) (b : Nat) (L : List Tm) : Prop :=
  ∃ D : DataW Unit, w.ownsMap Tryz.prog 64 (plainElem Tryz.prog 3) b L.length D ∧ ∀ t : Tm, t.ok → ∀ kl, keyOf Tryz.prog 64 (tmV t) = some kl → has D kl = decide (t ∈ L) ∧ D.atKey kl (.lit (.int .i64 0)) = .lit (.int .i64 (num L t : Nat))
theorem TMap.made (w : World) : TMap (w.alloc (.map #[] 0)) w.heap.size [] := by
  refine ⟨.map [], World.ownsMap_made _ _ _ _, fun t _ kl _ => ⟨by simp [has], ?_⟩⟩
  simp [num, DataW.atKey]
theorem TMap.lt {w : World} {b : Nat} {L : List Tm} (h : TMap w b L) : b < w.heap.size := by obtain ⟨D, h, _⟩ := h; exact h.lt
theorem TMap.block {w : World} {b : Nat} {L : List Tm} (h : TMap w b L) : ∃ es clock, w.heap[b]? = some (.map es clock) := by
  obtain ⟨D, ⟨es, clock, hb, _⟩, _⟩ := h; exact ⟨es, clock, hb⟩
theorem TMap.keep {w w' : World} {b : Nat} {L : List Tm} (h : TMap w b L) (hb : w'.heap[b]? = w.heap[b]?) : TMap w' b L := by
  obtain ⟨D, ⟨es, clock, h1, h2⟩, h3⟩ := h
  exact ⟨D, ⟨es, clock, hb.trans h1, h2⟩, h3⟩
theorem TMap.put {w w' : World} {b : Nat} {L : List Tm} {D : DataW Unit} {u : Tm} {kl : Lit} (hD : w.ownsMap Tryz.prog 64 (plainElem Tryz.prog 3) b L.length D)
    (hv : ∀ t : Tm, t.ok → ∀ kl, keyOf Tryz.prog 64 (tmV t) = some kl → has D kl = decide (t ∈ L) ∧ D.atKey kl (.lit (.int .i64 0)) = .lit (.int .i64 (num L t : Nat)))
    (hk : keyOf Tryz.prog 64 (tmV u) = some kl) (hn : u ∉ L)
    (h' : w'.ownsMap Tryz.prog 64 (plainElem Tryz.prog 3) b (L.length + 1) (D.put kl (.lit (.int .i64 ((L.length + 1 : Nat) : Int))))) : TMap w' b (L ++ [u]) := by
  refine ⟨_, by rw [List.length_append]; exact h', fun t ht kl' hkl' => ?_⟩
  have hM := hD.isMap
  by_cases e : t = u
  · subst e
    rw [hk] at hkl'
    cases hkl'
    rw [has_put_same hM (lawTm.key hk), atKey_put_same hM (lawTm.key hk), num_last hn]
    simp
  · have hne : kl' ≠ kl := by
      rintro rfl
      exact e (tmV_inj (lawTm.inj hkl' hk))
    obtain ⟨q1, q2⟩ := hv t ht kl' hkl'
    rw [has_put_other hne, atKey_put_other hne, q1, q2]
    by_cases c : t ∈ L
    · rw [num_append c]; simp [c]
    · have c2 : t ∉ L ++ [u] := by simp [c, e]
      rw [num_none c, num_none c2]; simp [c, e]
def PMap (w : World) (b : Nat) (o : List Nat) : Prop :=
  ∃ D : DataW Unit, w.ownsMap Tryz.prog 3 (plainElem Tryz.prog 3) b o.length D ∧ ∀ k : Nat, k ≤ 1048576 → D.atKey (.int .i64 (k : Int)) (.lit (.int .i64 0)) = .lit (.int .i64 (pos o k : Nat))
theorem PMap.made (w : World) : PMap (w.alloc (.map #[] 0)) w.heap.size [] :=
  ⟨.map [], World.ownsMap_made _ _ _ _, fun k _ => by simp [pos, DataW.atKey]⟩
theorem PMap.lt {w : World} {b : Nat} {o : List Nat} (h : PMap w b o) : b < w.heap.size := by obtain ⟨D, h, _⟩ := h; exact h.lt
theorem PMap.keep {w w' : World} {b : Nat} {o : List Nat} (h : PMap w b o) (hb : w'.heap[b]? = w.heap[b]?) : PMap w' b o := by
  obtain ⟨D, ⟨es, clock, h1, h2⟩, h3⟩ := h
  exact ⟨D, ⟨es, clock, hb.trans h1, h2⟩, h3⟩
theorem PMap.bw {w w' : World} {b : Nat} {o : List Nat} (h : PMap w b o) (hb : Below w.heap.size w w') : PMap w' b o := h.keep (hb.block b h.lt)
theorem PMap.put {w w' : World} {b : Nat} {o : List Nat} {D : DataW Unit} {m : Nat} (hD : w.ownsMap Tryz.prog 3 (plainElem Tryz.prog 3) b o.length D)
    (hv : ∀ k : Nat, k ≤ 1048576 → D.atKey (.int .i64 (k : Int)) (.lit (.int .i64 0)) = .lit (.int .i64 (pos o k : Nat))) (hm : m ∉ o)
    (h' : w'.ownsMap Tryz.prog 3 (plainElem Tryz.prog 3) b (o.length + 1) (D.put (.int .i64 (m : Int)) (.lit (.int .i64 ((o.length + 1 : Nat) : Int))))) : PMap w' b (o ++ [m]) := by
  refine ⟨_, by rw [List.length_append]; exact h', fun k hk => ?_⟩
  have hM := hD.isMap
  by_cases e : k = m
  · subst e
    rw [atKey_put_same (k := .int .i64 (k : Int)) hM trivial]
    simp [pos, List.idxOf_append, hm]
  · have hne : (Lit.int .i64 (k : Int)) ≠ (Lit.int .i64 (m : Int)) := by
      intro c; simp at c; omega
    rw [atKey_put_other hne, hv k hk]
    by_cases c : k ∈ o
    · have c2 : k ∈ o ++ [m] := List.mem_append_left _ c
      simp [pos, c, List.idxOf_append]
    · have c2 : k ∉ o ++ [m] := by simp [c, e]
      simp only [pos, c, c2, if_false]
structure St (w : World) (b : Nat) (sv : Value) (mb : Nat) (L : List Tm) : Prop where
  blk : w.heap[b]? = some (.cells #[sv, .map (some mb)] 131 (0, 0))
  row : TmRow 0 w sv L
  map : TMap w mb L
  good : Good L
  fit : ∀ t ∈ L, t.ok
def foot (b : Nat) (sv : Value) (mb : Nat) : List Nat := b :: mb :: sv.ownBlock.toList
theorem mem_foot {b : Nat} {sv : Value} {mb x : Nat} : x ∈ foot b sv mb ↔ x = b ∨ x = mb ∨ sv.ownBlock = some x := by
  simp [foot, eq_comm]
theorem St.lt {w : World} {b : Nat} {sv : Value} {mb : Nat} {L : List Tm} (h : St w b sv mb L) : ∀ x ∈ foot b sv mb, x < w.heap.size := by
  intro x hx
  rcases mem_foot.1 hx with rfl | rfl | hx
  · exact lt_of_blk h.blk
  · exact h.map.lt
  · exact (h.row.lt x hx).2
theorem St.apart {w : World} {b : Nat} {sv : Value} {mb : Nat} {L : List Tm} (h : St w b sv mb L) : b ≠ mb ∧ sv.ownBlock ≠ some b ∧ sv.ownBlock ≠ some mb := by
  obtain ⟨es, clock, hm⟩ := h.map.block
  refine ⟨?_, ?_, ?_⟩
  · rintro rfl; rw [h.blk] at hm; simp at hm
  · intro c
    obtain ⟨cur, hc⟩ := h.row.block c
    rw [h.blk] at hc; simp at hc
  · intro c
    obtain ⟨cur, hc⟩ := h.row.block c
    rw [hm] at hc; simp at hc
theorem St.keep {w w' : World} {b : Nat} {sv : Value} {mb : Nat} {L : List Tm} {S : List Nat} (h : St w b sv mb L) (hf : Fr S w w') (hd : ∀ x ∈ foot b sv mb, x ∉ S) : St w' b sv mb L :=
  ⟨by rw [hf.block b (lt_of_blk h.blk) (hd b (by simp [foot]))]; exact h.blk,
   h.row.fr hf (fun k hk => hd k (mem_foot.2 (Or.inr (Or.inr hk)))),
   h.map.keep (hf.block mb h.map.lt (hd mb (by simp [foot]))), h.good, h.fit⟩
theorem St.new {w w' : World} {b : Nat} {sv : Value} {mb : Nat} {L : List Tm} (h : St w b sv mb L) (hf : Fr [] w w') : St w' b sv mb L := h.keep hf (by simp)
theorem St.bw {w w' : World} {b : Nat} {sv : Value} {mb : Nat} {L : List Tm} (h : St w b sv mb L) (hb : Below w.heap.size w w') : St w' b sv mb L := h.new (Fr.ofBelow hb)
theorem St.cells {w : World} {b : Nat} {sv : Value} {mb : Nat} {L : List Tm} (h : St w b sv mb L) : w.cell? ⟨b, 0, none⟩ = some sv ∧ w.cell? ⟨b, 1, none⟩ = some (.map (some mb)) ∧ w.frozen? ⟨b, 0, none⟩ = false := by
  refine ⟨?_, ?_, ?_⟩ <;> simp [World.cell?, World.frozen?, h.blk]
theorem St.len {w : World} {b : Nat} {sv : Value} {mb : Nat} {L : List Tm} (h : St w b sv mb L) : L.length ≤ 1048576 := h.good.len
structure SStep (w w' : World) (b : Nat) (sv sv' : Value) (mb : Nat) (L' : List Tm) : Prop where
  st : St w' b sv' mb L'
  fr : Fr (foot b sv mb) w w'
  place : ∀ k, sv'.ownBlock = some k → sv.ownBlock = some k ∨ w.heap.size ≤ k
theorem SStep.refl {w : World} {b : Nat} {sv : Value} {mb : Nat} {L : List Tm} (h : St w b sv mb L) : SStep w w b sv sv mb L := ⟨h, Fr.refl _ _, fun _ hk => Or.inl hk⟩
theorem SStep.same {w w' : World} {b : Nat} {sv : Value} {mb : Nat} {L : List Tm} (h : St w b sv mb L) (hb : Below w.heap.size w w') : SStep w w' b sv sv mb L :=
  ⟨h.bw hb, (Fr.ofBelow hb).mono (fun _ _ c => by cases c), fun _ hk => Or.inl hk⟩
theorem SStep.trans {w w1 w2 : World} {b : Nat} {sv sv1 sv2 : Value} {mb : Nat} {L1 L2 : List Tm} (h : SStep w w1 b sv sv1 mb L1) (k : SStep w1 w2 b sv1 sv2 mb L2) : SStep w w2 b sv sv2 mb L2 := by
  refine ⟨k.st, h.fr.trans k.fr (fun _ _ c => c) (fun x hx c => ?_), fun x hx => ?_⟩
  · rcases mem_foot.1 c with c | c | c
    · exact mem_foot.2 (Or.inl c)
    · exact mem_foot.2 (Or.inr (Or.inl c))
    · rcases h.place x c with c | c
      · exact mem_foot.2 (Or.inr (Or.inr c))
      · omega
  · rcases k.place x hx with c | c
    · exact h.place x c
    · exact Or.inr (Nat.le_trans h.fr.size c)
theorem SStep.before {w w0 w1 : World} {b : Nat} {sv sv1 : Value} {mb : Nat} {L1 : List Tm} (h : Below w.heap.size w w0) (k : SStep w0 w1 b sv sv1 mb L1) : SStep w w1 b sv sv1 mb L1 :=
  ⟨k.st, (Fr.ofBelow h).trans k.fr (fun _ _ c => by cases c) (fun _ _ c => c), fun x hx => (k.place x hx).imp id (fun c => Nat.le_trans h.size c)⟩
theorem SStep.after {w w0 w1 : World} {b : Nat} {sv sv1 : Value} {mb : Nat} {L1 : List Tm} (k : SStep w w0 b sv sv1 mb L1) (h : Below w0.heap.size w0 w1) : SStep w w1 b sv sv1 mb L1 := k.trans (SStep.same k.st h)
theorem SStep.base {w w1 : World} {B b : Nat} {sv sv1 : Value} {mb : Nat} {L1 : List Tm} (k : SStep w w1 b sv sv1 mb L1) (hB : B ≤ w.heap.size) (h : ∀ x ∈ foot b sv mb, B ≤ x) : ∀ x ∈ foot b sv1 mb, B ≤ x := by
  intro x hx
  rcases mem_foot.1 hx with hx | hx | hx
  · exact h x (mem_foot.2 (Or.inl hx))
  · exact h x (mem_foot.2 (Or.inr (Or.inl hx)))
  · rcases k.place x hx with c | c
    · exact h x (mem_foot.2 (Or.inr (Or.inr c)))
    · omega
theorem St.appended {w w0 w1 : World} {b : Nat} {sv sv' : Value} {mb : Nat} {L : List Tm} {t : Tm} (h : St w b sv mb L) (h0 : Fr [] w w0) (hown : w1.ownsRow 0 64 4 sv' (L.length + 1) (L.flatMap tmC ++ tmC t)) (hg : w0.grownBy w1 sv.ownBlock)
    (hat : sv'.ownBlock = sv.ownBlock ∨ sv'.ownBlock = some w0.heap.size) :
    w1.cell? ⟨b, 0, none⟩ = some sv ∧ w1.frozen? ⟨b, 0, none⟩ = false ∧ (w1.setCell ⟨b, 0, none⟩ sv').heap[b]? = some (.cells #[sv', .map (some mb)] 131 (0, 0)) ∧ TmRow 0 (w1.setCell ⟨b, 0, none⟩ sv') sv' (L ++ [t]) ∧
    (w1.setCell ⟨b, 0, none⟩ sv').heap[mb]? = w.heap[mb]? ∧ Fr (foot b sv mb) w (w1.setCell ⟨b, 0, none⟩ sv') ∧ (∀ k, sv'.ownBlock = some k → sv.ownBlock = some k ∨ w.heap.size ≤ k) ∧ (∃ g cap, sv' = .slice (some ⟨g, 0, none⟩) (L.length + 1) cap) ∧ sv'.ownBlock ≠ some mb := by
  obtain ⟨a1, a2, a3⟩ := h.apart
  have s0 := h.new h0
  have hb1 : w1.heap[b]? = some (.cells #[sv, .map (some mb)] 131 (0, 0)) := by
    rw [hg.block b (lt_of_blk s0.blk) (fun c => a2 c.symm)]; exact s0.blk
  have hm1 : w1.heap[mb]? = w.heap[mb]? := by
    rw [hg.block mb s0.map.lt (fun c => a3 c.symm), h0.block mb h.map.lt (by simp)]
  have hne : sv'.ownBlock ≠ some b := by
    rcases hat with c | c
    · rw [c]; exact a2
    · rw [c]; intro e; have := lt_of_blk s0.blk; simp at e; omega
  have hnm : sv'.ownBlock ≠ some mb := by
    rcases hat with c | c
    · rw [c]; exact a3
    · rw [c]; intro e; have := s0.map.lt; simp at e; omega
  refine ⟨by simp [World.cell?, hb1], by simp [World.frozen?, hb1], by simp [World.setCell, Array.getElem?_modify, hb1], ?_, ?_, ?_, ?_, ?_, hnm⟩
  · have hr : TmRow 0 w1 sv' (L ++ [t]) := by unfold TmRow; rw [flat_snoc, List.length_append]; exact hown
    exact hr.keep fun k hk => Below.heap_setCell _ _ _ _ (fun c => hne (by rw [hk, c]))
  · rw [Below.heap_setCell _ _ _ _ (Ne.symm a1)]; exact hm1
  · have hF : Fr (foot b sv mb) w w1 := h0.trans (Fr.ofGrown hg) (fun _ _ c => by cases c) (fun x _ c => mem_foot.2 (Or.inr (Or.inr (by simpa using c))))
    exact hF.setCell (Or.inr (by simp [foot])) _
  · intro k hk
    rcases hat with c | c
    · left; rw [← c]; exact hk
    · right; rw [c] at hk; simp at hk; have := h0.size; omega
  · rcases hown.2 with ⟨_, h⟩ | ⟨g, cap, _, h, _⟩
    · omega
    · exact ⟨g, cap, h⟩
end Go.Proofs.YtpcpcgagiapinaaGreatDoor.Tn
