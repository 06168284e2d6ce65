/- Closed facts of the program that every law's row of layer 5 asks; writes and ops that came in: what their reading says of memory; Beyond. -/
import Derived.Test.YtfnpeiikjiffeaaGreatRows
import Derived.Test.YtfnpeiikjiffeaaGreatBaC
import Derived.ProofKit
import Derived.OpenShut
import Derived.ShutString
import Derived.ChangeOld
import Derived.Lib.SmallJoins
import Derived.Deep.Slices
import Derived.Deep.Strs
import Derived.SizedLaws
namespace Go.Proofs.YtfnpeiikjiffeaaGreat
open Go.ChangeShapes Go.WideShapes Go.ChangeAt Go.RowKit Go.Joins Go.Deep

theorem own : ownKnob Tryz.prog.godebug = none := by kernel_rfl
theorem laidOut : laidOutB Tryz.prog = true := by kernel_rfl
theorem bounds64 {a : Int} (h : (Lit.int .i64 a).wf = true) : -9223372036854775808 ≤ a ∧ a ≤ 9223372036854775807 := by
  simpa [Lit.wf, IntKind.min, IntKind.max, IntKind.signed, IntKind.bits] using h
theorem bounds8 {a : Int} (h : (Lit.int .u8 a).wf = true) : 0 ≤ a ∧ a ≤ 255 := by
  simpa [Lit.wf, IntKind.min, IntKind.max, IntKind.signed, IntKind.bits] using h
theorem mem_weightsAll {H : Type} {P : Program} {e : TypeId} {d : DataW H} {n : Nat} : ∀ {l : List (DataW H)}, d ∈ l → n ∈ d.weights P e → n ∈ DataW.weightsAll P e l
  | [], h, _ => by cases h
  | x :: r, h, hn => by
    simp only [DataW.weightsAll, List.mem_append]
    rcases List.mem_cons.1 h with rfl | h
    · exact Or.inl hn
    · exact Or.inr (mem_weightsAll h hn)
theorem array5 {α : Type} {cs : Array α} (h : cs.size = 5) : ∃ c0 c1 c2 c3 c4, cs = #[c0, c1, c2, c3, c4] := by
  obtain ⟨l⟩ := cs
  match l, h with
  | [c0, c1, c2, c3, c4], _ => exact ⟨c0, c1, c2, c3, c4, rfl⟩
theorem trod_struct5 {H : Type} {enc : TypeId × Value → H} {P : Program} {w : World} {base : Nat} {spare : Nat → Bool} {held : Bool} {t : TypeId} {f0 f1 f2 f3 f4 : Field} {fuel : Nat} {cs : List Value} {x : DataW H × List MemPlace} (ht : P.underlying t = some (.struct #[f0, f1, f2, f3, f4])) (h : DataW.trod enc P w base spare held fuel t cs = some x) :
    ∃ y0 y1 y2 y3 y4 n, x = (.agg [y0.1, y1.1, y2.1, y3.1, y4.1], y0.2 ++ (y1.2 ++ (y2.2 ++ (y3.2 ++ y4.2)))) ∧ cs.length = P.cellsOf t ∧ DataW.trod enc P w base spare held n f0.type ((cs.drop f0.offset).take (P.cellsOf f0.type)) = some y0 ∧
      DataW.trod enc P w base spare held n f1.type ((cs.drop f1.offset).take (P.cellsOf f1.type)) = some y1 ∧ DataW.trod enc P w base spare held n f2.type ((cs.drop f2.offset).take (P.cellsOf f2.type)) = some y2 ∧
      DataW.trod enc P w base spare held n f3.type ((cs.drop f3.offset).take (P.cellsOf f3.type)) = some y3 ∧ DataW.trod enc P w base spare held n f4.type ((cs.drop f4.offset).take (P.cellsOf f4.type)) = some y4 := by
  obtain ⟨xs, n, _, rfl, hl, hlen, hf⟩ := DataW.trod_struct ht h
  match xs, hlen with
  | [y0, y1, y2, y3, y4], _ => exact ⟨y0, y1, y2, y3, y4, n, by simp, hl, by simpa using hf 0 f0 rfl, by simpa using hf 1 f1 rfl, by simpa using hf 2 f2 rfl, by simpa using hf 3 f3 rfl, by simpa using hf 4 f4 rfl⟩
theorem open_agg5 {H : Type} {enc : TypeId × Value → H} {P : Program} {w : World} {base : Nat} {spare : Nat → Bool} {held : Bool} {r : Reach} {b0 : Nat} {t : TypeId} {f0 f1 f2 f3 f4 : Field} {v : Value} {d : DataW H} {p : List MemPlace} (hs : P.underlying t = some (.struct #[f0, f1, f2, f3, f4])) (hone : oneCellFields P #[f0, f1, f2, f3, f4] = true) (hC : P.cellsOf t = 5)
    (hv : Value.okWide P w r b0 t v) (h : DataW.Trod enc P w base spare held t v d p) :
    ∃ (v0 v1 v2 v3 v4 : Value) (y0 y1 y2 y3 y4 : DataW H × List MemPlace) (n : Nat), v = .agg #[v0, v1, v2, v3, v4] ∧
      DataW.trod enc P w base spare held n f0.type [v0] = some y0 ∧ DataW.trod enc P w base spare held n f1.type [v1] = some y1 ∧ DataW.trod enc P w base spare held n f2.type [v2] = some y2 ∧ DataW.trod enc P w base spare held n f3.type [v3] = some y3 ∧ DataW.trod enc P w base spare held n f4.type [v4] = some y4 := by
  obtain ⟨cs, rfl, hsz⟩ := okWide_struct hs hv
  obtain ⟨c0, c1, c2, c3, c4, rfl⟩ := array5 (hsz.trans hC)
  obtain ⟨fuel, hf⟩ := h
  obtain ⟨y0, y1, y2, y3, y4, n, hx, _, h0, h1, h2, h3, h4⟩ := trod_struct5 hs hf
  obtain ⟨o0, k0⟩ := hone_of hone 0 f0 rfl
  obtain ⟨o1, k1⟩ := hone_of hone 1 f1 rfl
  obtain ⟨o2, k2⟩ := hone_of hone 2 f2 rfl
  obtain ⟨o3, k3⟩ := hone_of hone 3 f3 rfl
  obtain ⟨o4, k4⟩ := hone_of hone 4 f4 rfl
  exact ⟨c0, c1, c2, c3, c4, y0, y1, y2, y3, y4, n, rfl, by simpa [Value.cells, o0, k0] using h0, by simpa [Value.cells, o1, k1] using h1, by simpa [Value.cells, o2, k2] using h2, by simpa [Value.cells, o3, k3] using h3, by simpa [Value.cells, o4, k4] using h4⟩

/-- A write that is handed in: where, and the bytes. -/
structure Wr where
  at_ : Int
  s : ByteArray
def WrAt (w : World) (b o : Nat) (x : Wr) : Prop := w.cell? ⟨b, o, none⟩ = some (.int .i64 x.at_) ∧ w.cell? ⟨b, o + 1, none⟩ = some (.string x.s)
structure WrsAt (w : World) (a : Option Addr) (l : List Wr) : Prop where
  len : l.length ≤ 140737488355328
  fit : ∀ x ∈ l, -9223372036854775808 ≤ x.at_ ∧ x.at_ ≤ 9223372036854775807 ∧ x.s.size ≤ 140737488355328
  cells : l = [] ∨ ∃ b off, a = some ⟨b, off, none⟩ ∧ b < w.heap.size ∧ ∀ i x, l[i]? = some x → WrAt w b (off + i * 2) x
theorem WrsAt.get {w : World} {a : Option Addr} {l : List Wr} (h : WrsAt w a l) {i : Nat} {x : Wr} (hx : l[i]? = some x) : ∃ b off, a = some ⟨b, off, none⟩ ∧ ∀ W, Below w.heap.size w W → W.cell? ⟨b, off + i * 2, none⟩ = some (.int .i64 x.at_) ∧ W.cell? ⟨b, off + i * 2 + 1, none⟩ = some (.string x.s) := by
  rcases h.cells with rfl | ⟨b, off, ha, hB, hc⟩
  · simp at hx
  · refine ⟨b, off, ha, fun W hb => ?_⟩
    have := hc i x hx
    rw [hb.cell (p := ⟨b, off + i * 2, none⟩) hB, hb.cell (p := ⟨b, off + i * 2 + 1, none⟩) hB]; exact this

/-- An op that is handed in. -/
structure OpR where
  kd : Int
  at_ : Int
  b : Int
  more : Int
  bits : Int
structure OpR.ok (x : OpR) : Prop where
  a1 : -9223372036854775808 ≤ x.at_
  a2 : x.at_ ≤ 9223372036854775807
  b1 : 0 ≤ x.b
  b2 : x.b ≤ 255
  m1 : -9223372036854775808 ≤ x.more
  m2 : x.more ≤ 9223372036854775807
  i1 : -9223372036854775808 ≤ x.bits
  i2 : x.bits ≤ 9223372036854775807
def OpAt (w : World) (b o : Nat) (x : OpR) : Prop := w.cell? ⟨b, o, none⟩ = some (.int .i64 x.kd) ∧ w.cell? ⟨b, o + 1, none⟩ = some (.int .i64 x.at_) ∧ w.cell? ⟨b, o + 2, none⟩ = some (.int .u8 x.b) ∧ w.cell? ⟨b, o + 3, none⟩ = some (.int .i64 x.more) ∧ w.cell? ⟨b, o + 4, none⟩ = some (.int .i64 x.bits)
structure OpsAt (w : World) (a : Option Addr) (l : List OpR) : Prop where
  len : l.length ≤ 140737488355328
  fit : ∀ x ∈ l, x.ok
  cells : l = [] ∨ ∃ b off, a = some ⟨b, off, none⟩ ∧ b < w.heap.size ∧ ∀ i x, l[i]? = some x → OpAt w b (off + i * 5) x
theorem OpsAt.get {w : World} {a : Option Addr} {l : List OpR} (h : OpsAt w a l) {i : Nat} {x : OpR} (hx : l[i]? = some x) : ∃ b off, a = some ⟨b, off, none⟩ ∧ ∀ W, Below w.heap.size w W → OpAt W b (off + i * 5) x := by
  rcases h.cells with rfl | ⟨b, off, ha, hB, hc⟩
  · simp at hx
  · refine ⟨b, off, ha, fun W hb => ?_⟩
    have := hc i x hx
    unfold OpAt at *
    rw [hb.cell (p := ⟨b, off + i * 5, none⟩) hB, hb.cell (p := ⟨b, off + i * 5 + 1, none⟩) hB, hb.cell (p := ⟨b, off + i * 5 + 2, none⟩) hB, hb.cell (p := ⟨b, off + i * 5 + 3, none⟩) hB, hb.cell (p := ⟨b, off + i * 5 + 4, none⟩) hB]; exact this

/-- Beyond of one size. -/
theorem cell_two5 (w : World) (x y : Value) (t : TypeId) : (w.alloc (.cells #[x, y] t)).cell? ⟨w.heap.size, 0, none⟩ = some x ∧ (w.alloc (.cells #[x, y] t)).cell? ⟨w.heap.size, 1, none⟩ = some y := by
  simp [go_sem]

set_option maxHeartbeats 400000 in
theorem beyond_one (b : Nat) (n : Nat) (c : Nat) (w : World) (hn : n ≤ 281474976710656) (h0 : w.cell? ⟨b, 0, none⟩ = some (.int .i64 n)) :
    Calls Tryz.prog 5 #[.slice (some ⟨b, 0, none⟩) 1 c] w fun e w' => e = .returned (.bool (decide (262144 < n))) ∧ w' = w := by
  by_cases hb : 262144 < n
  · rw [decide_eq_true hb]
    go_enter Tryz.func5, Tryz.ntmps5
    go_wp2
    refine wp_loop_rounds 1 ?_
    rw [rounds_succ]
    go_wp2
    go_ret
    exact ⟨rfl, rfl⟩
  · rw [decide_eq_false hb]
    go_enter Tryz.func5, Tryz.ntmps5
    go_wp2
    refine wp_loop_rounds 2 ?_
    rw [rounds_succ]
    go_wp2
    rw [rounds_succ]
    go_wp2
    go_ret
    exact ⟨rfl, rfl⟩

set_option maxHeartbeats 800000 in
theorem beyond_two (b : Nat) (n m : Nat) (c : Nat) (w : World) (hn : n ≤ 281474976710656) (hm : m ≤ 281474976710656) (h0 : w.cell? ⟨b, 0, none⟩ = some (.int .i64 n)) (h1 : w.cell? ⟨b, 1, none⟩ = some (.int .i64 m)) :
    Calls Tryz.prog 5 #[.slice (some ⟨b, 0, none⟩) 2 c] w fun e w' => e = .returned (.bool (decide (262144 < n + m))) ∧ w' = w := by
  by_cases hb : 262144 < n
  · rw [decide_eq_true (by omega)]
    go_enter Tryz.func5, Tryz.ntmps5
    go_wp2
    refine wp_loop_rounds 1 ?_
    rw [rounds_succ]
    go_wp2
    go_ret
    exact ⟨rfl, rfl⟩
  · by_cases hb2 : 262144 < m
    · rw [decide_eq_true (by omega)]
      go_enter Tryz.func5, Tryz.ntmps5
      go_wp2
      refine wp_loop_rounds 2 ?_
      rw [rounds_succ]
      go_wp2
      rw [rounds_succ]
      go_wp2
      go_ret
      exact ⟨rfl, rfl⟩
    · by_cases hb3 : (262144 : Int) < (n : Int) + (m : Int)
      · rw [decide_eq_true (by omega)]
        go_enter Tryz.func5, Tryz.ntmps5
        go_wp2
        refine wp_loop_rounds 2 ?_
        rw [rounds_succ]
        go_wp2
        rw [rounds_succ]
        go_wp2
        go_ret
        exact ⟨rfl, rfl⟩
      · rw [decide_eq_false (by omega)]
        go_enter Tryz.func5, Tryz.ntmps5
        go_wp2
        refine wp_loop_rounds 3 ?_
        rw [rounds_succ]
        go_wp2
        rw [rounds_succ]
        go_wp2
        rw [rounds_succ]
        go_wp2
        go_ret
        exact ⟨rfl, rfl⟩


end Go.Proofs.YtfnpeiikjiffeaaGreat
