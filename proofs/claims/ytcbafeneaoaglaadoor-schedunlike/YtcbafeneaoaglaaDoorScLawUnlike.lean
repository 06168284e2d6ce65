/- SchedUnlike, the walk. -/
import Derived.Test.YtcbafeneaoaglaaDoorScJ
namespace Go.Proofs.YtcbafeneaoaglaaDoor.Tn
open Go.RowKit Go.Maps

/-! A row of three Booleans. -/
theorem Tryd.cellsB3 : Tryd.prog.cellsOf 22 = 3 := by kernel_rfl
theorem Tryd.wideB3 : (match Tryd.prog.underlying 22 with | some (.array _ _) | some (.struct _) => true | _ => false) = true := by kernel_rfl
set_option maxRecDepth 100000 in
theorem lawB3 : Keyed Tryd.prog 22 := Keyed.of_law (deep_law_laid Tryd.laidOut (m := 3) (by omega) (of_decide_eq_true (by kernel_rfl)) (by kernel_rfl) Tryd.wideB3)
theorem keyOf_b3 (a b c : Bool) : ∃ kl, keyOf Tryd.prog 22 (.agg #[.bool a, .bool b, .bool c]) = some kl := by
  have hk : Tryd.prog.keyType 22 = true := by kernel_rfl
  have hf : (Value.agg #[.bool a, .bool b, .bool c]).formed Tryd.prog 22 = true := by
    have u0 := Tryd.underlying22
    have c0 := Tryd.cellsB3
    generalize Tryd.prog = P at *
    simp [Value.formed, u0, c0]
  obtain ⟨m, hm⟩ : ∃ m, Tryd.prog.types.size = m + 1 := ⟨Tryd.prog.types.size - 1, by have : 0 < Tryd.prog.types.size := of_decide_eq_true (by kernel_rfl); omega⟩
  have c1 : Tryd.prog.cellsOf 4 = 1 := by kernel_rfl
  refine ⟨.string (keyBytes [.bool a, .bool b, .bool c]), ?_⟩
  have u0 := Tryd.underlying22
  have u1 := Tryd.underlying4
  have c0 := Tryd.cellsB3
  generalize Tryd.prog = P at *
  simp only [keyOf, u0, hk, hf, hm, Bool.and_self, if_true]
  simp [Program.keyLits, u0, u1, c0, c1, Value.cells, List.range, List.range.loop]
set_option maxRecDepth 100000 in
theorem equal_b3 (w : World) (a b c a' b' c' : Bool) : (Op.equal 22 (.agg #[.bool a, .bool b, .bool c]) (.agg #[.bool a', .bool b', .bool c'])).run Tryd.prog w = .ok (decide ((a, b, c) = (a', b', c'))) w := by
  obtain ⟨x, hx⟩ := keyOf_b3 a b c
  obtain ⟨y, hy⟩ := keyOf_b3 a' b' c'
  obtain ⟨r, hr, hiff⟩ := run_equal_deep w (m := 3) (by omega) (by kernel_rfl) Tryd.wideB3 hx hy
  rw [hr]
  congr 1
  rw [Bool.eq_iff_iff, hiff, decide_eq_true_eq]
  constructor
  · rintro rfl
    have := lawB3.inj hx hy
    simp at this
    simp [this]
  · intro e
    simp at e
    obtain ⟨rfl, rfl, rfl⟩ := e
    rw [hx] at hy; exact Option.some.inj hy

/-- A store that was made behind a world. -/
structure U (wB W : World) (b : Nat) (sv : Value) (mb : Nat) (L : List Tm) : Prop where
  st : St W b sv mb L
  low : ∀ x ∈ foot b sv mb, wB.heap.size ≤ x
  bel : Below wB.heap.size wB W
theorem U.step {wB W W' : World} {b : Nat} {sv sv' : Value} {mb : Nat} {L L' : List Tm} (h : U wB W b sv mb L) (s : SStep W W' b sv sv' mb L') : U wB W' b sv' mb L' :=
  ⟨s.st, s.base h.bel.size h.low, Fr.toBase h.bel s.fr h.low⟩
theorem U.bw {wB W W' : World} {b : Nat} {sv : Value} {mb : Nat} {L : List Tm} (h : U wB W b sv mb L) (hb : Below W.heap.size W W') : U wB W' b sv mb L := h.step (SStep.same h.st hb)
theorem U.poke {wB W : World} {b : Nat} {sv : Value} {mb : Nat} {L : List Tm} {k i : Nat} {cs : Array Value} {t : TypeId} (h : U wB W b sv mb L) (hk : W.heap[k]? = some (.cells cs t (0, 0))) (h1 : t ≠ 60) (h2 : t ≠ 29) (hw : wB.heap.size ≤ k) (v : Value) : U wB (W.setCell ⟨k, i, none⟩ v) b sv mb L :=
  ⟨h.st.keep (S := [k]) ((Fr.refl _ _).setCell (a := ⟨k, i, none⟩) (Or.inr (by simp)) v) (fun x hx c => by simp at c; subst c; exact h.st.notin hk h1 h2 hx), h.low, h.bel.setCell hw v⟩

/-! Which terms are taken. -/
def xf (aa : Nat → Bool) (k i : Nat) : Int := if i < k ∧ aa i = true then 4 + i else 1 + i
def xcs (aa : Nat → Bool) (k : Nat) : Array Value := #[.int .i64 (xf aa k 0), .int .i64 (xf aa k 1), .int .i64 (xf aa k 2)]
theorem xcs_hit (aa : Nat → Bool) (k : Nat) (hk : k < 3) (h : aa k = true) : (xcs aa k).setIfInBounds k (.int .i64 (4 + (k : Int))) = xcs aa (k + 1) := by
  obtain rfl | rfl | rfl : k = 0 ∨ k = 1 ∨ k = 2 := by omega
  · simp [xcs, xf, h]
  · simp [xcs, xf, h]
  · simp [xcs, xf, h]
theorem xcs_miss (aa : Nat → Bool) (k : Nat) (hk : k < 3) (h : aa k = false) : xcs aa (k + 1) = xcs aa k := by
  obtain rfl | rfl | rfl : k = 0 ∨ k = 1 ∨ k = 2 := by omega
  · simp [xcs, xf, h]
  · simp [xcs, xf, h]
  · simp [xcs, xf, h]
theorem xcs_get (aa : Nat → Bool) (k i : Nat) (hi : i < 3) : (xcs aa k)[i]? = some (.int .i64 (xf aa k i)) := by
  obtain rfl | rfl | rfl : i = 0 ∨ i = 1 ∨ i = 2 := by omega
  · rfl
  · rfl
  · rfl
theorem xcs_zero (aa : Nat → Bool) : xcs aa 0 = #[.int .i64 1, .int .i64 2, .int .i64 3] := by simp [xcs, xf]
def b3 (a b c : Bool) (i : Nat) : Bool := if i = 0 then a else if i = 1 then b else c
def un0 : List Tm := [⟨1, 0, 0, 0⟩, ⟨1, 1, 0, 0⟩, ⟨1, 2, 0, 0⟩, ⟨1, 3, 0, 0⟩, ⟨1, 4, 0, 0⟩, ⟨1, 5, 0, 0⟩]
theorem un_fill : fillL [] un0 = un0 := by decide +kernel
theorem un_ok : ∀ t ∈ un0, t.ok := by
  intro t ht
  simp [un0] at ht
  rcases ht with rfl | rfl | rfl | rfl | rfl | rfl <;> constructor <;> simp
theorem un_tms (w : World) : Tms (w.alloc (.cells #[.int .u8 1, .int .i64 0, .int .i64 0, .int .i64 0, .int .u8 1, .int .i64 1, .int .i64 0, .int .i64 0, .int .u8 1, .int .i64 2, .int .i64 0, .int .i64 0, .int .u8 1, .int .i64 3, .int .i64 0, .int .i64 0, .int .u8 1, .int .i64 4, .int .i64 0, .int .i64 0, .int .u8 1, .int .i64 5, .int .i64 0, .int .i64 0] 29)) (.slice (some ⟨w.heap.size, 0, none⟩) 6 6) un0 := by
  refine ⟨_, 6, rfl, by simp [un0], Or.inr ⟨w.heap.size, 0, rfl, fun i t hi => ?_⟩⟩
  unfold TAt World.cell?
  simp only [heap_alloc_new]
  match i, hi with
  | 0, hi | 1, hi | 2, hi | 3, hi | 4, hi | 5, hi => simp [un0] at hi; subst hi; exact ⟨rfl, rfl, rfl, rfl⟩
  | i + 6, hi => simp [un0] at hi
def unP (a0 a1 a2 : Bool) : List Int := nxtV un0 (xf (b3 a0 a1 a2) 3 0) (xf (b3 a0 a1 a2) 3 1) (xf (b3 a0 a1 a2) 3 2)
def unL (a0 a1 a2 : Bool) : List Tm := nxtL un0 (xf (b3 a0 a1 a2) 3 0) (xf (b3 a0 a1 a2) 3 1) (xf (b3 a0 a1 a2) 3 2)
def unQ (a0 a1 a2 b0 b1 b2 : Bool) : List Int := nxtV (unL a0 a1 a2) (xf (b3 b0 b1 b2) 3 0) (xf (b3 b0 b1 b2) 3 1) (xf (b3 b0 b1 b2) 3 2)
def unC (a0 a1 a2 b0 b1 b2 : Bool) : Bool :=
  match unP a0 a1 a2, unQ a0 a1 a2 b0 b1 b2 with
  | [p0, p1, p2, _, _, p5], [q0, q1, q2, _, _, q5] => (decide (p1 = q1) == decide ((a0, a1, a2) = (b0, b1, b2))) && (decide (p2 = q2) == decide ((a0, a1, a2) = (b0, b1, b2))) && (decide (p5 = q5) == decide ((a0, a1, a2) = (b0, b1, b2))) && (decide (p0 = q0) == (decide (a0 = b0) && decide (a1 = b1)))
  | _, _ => false
theorem un_facts : ∀ a0 a1 a2 b0 b1 b2 : Bool, unC a0 a1 a2 b0 b1 b2 = true ∧ nxtE un0 (xf (b3 a0 a1 a2) 3 0) (xf (b3 a0 a1 a2) 3 1) (xf (b3 a0 a1 a2) 3 2) = 0 ∧ nxtE (unL a0 a1 a2) (xf (b3 b0 b1 b2) 3 0) (xf (b3 b0 b1 b2) 3 1) (xf (b3 b0 b1 b2) 3 2) = 0 ∧ (unL a0 a1 a2).length ≤ 20 := by
  decide +kernel

/-! The walk. -/
set_option maxRecDepth 100000 in
set_option maxHeartbeats 8000000 in
theorem SchedUnlike_walk (w : World) (hT : Tab w) (a0 a1 a2 b0 b1 b2 : Bool) :
    Calls Tryd.prog 3 #[.agg #[.bool a0, .bool a1, .bool a2], .agg #[.bool b0, .bool b1, .bool b2]] w fun e w' => e = .returned (.bool true) ∧ Below w.heap.size w w' := by
  obtain ⟨WA, hWA⟩ : ∃ WA, WA = (w.alloc (.cells #[.bool a0, .bool a1, .bool a2] 22)).alloc (.cells #[.bool b0, .bool b1, .bool b2] 22) := ⟨_, rfl⟩
  have y0 : WA.heap[w.heap.size]? = some (.cells #[.bool a0, .bool a1, .bool a2] 22 (0, 0)) := by rw [hWA]; exact blk_before (heap_alloc_new _ _)
  have y1 : WA.heap[w.heap.size + 1]? = some (.cells #[.bool b0, .bool b1, .bool b2] 22 (0, 0)) := by
    have := heap_alloc_new (w.alloc (.cells #[.bool a0, .bool a1, .bool a2] 22)) (.cells #[.bool b0, .bool b1, .bool b2] 22)
    rw [heap_size_alloc] at this
    rw [hWA]; exact this
  have xA : Below w.heap.size w WA := by rw [hWA]; exact (bwA' _ _).alloc (by simp) _
  obtain ⟨WB, hWB⟩ : ∃ WB, WB = WA.alloc (.cells #[.int .u8 1, .int .i64 0, .int .i64 0, .int .i64 0, .int .u8 1, .int .i64 1, .int .i64 0, .int .i64 0, .int .u8 1, .int .i64 2, .int .i64 0, .int .i64 0, .int .u8 1, .int .i64 3, .int .i64 0, .int .i64 0, .int .u8 1, .int .i64 4, .int .i64 0, .int .i64 0, .int .u8 1, .int .i64 5, .int .i64 0, .int .i64 0] 29) := ⟨_, rfl⟩
  have xB : Below WA.heap.size WA WB := by rw [hWB]; exact bwA' _ _
  have KB := build_any WB (some ⟨WA.heap.size, 0, none⟩) 6 un0 (by rw [hWB]; exact un_tms WA) un_ok (by simp [un0])
  rw [un_fill] at KB
  have KB2 : Hid (Calls Tryd.prog 4 #[.slice (some ⟨WA.heap.size, 0, none⟩) 6 6] WB fun e w' => ∃ b sv mb rb, e = .returned (.tuple #[.pointer (some ⟨b, 0, none⟩), .pointer (some ⟨rb, 0, none⟩), .bool true]) ∧ U WB w' b sv mb un0) := KB.mono (fun e w' hh => by
    obtain ⟨b, sv, mb, rb, rv, h1, tw⟩ := hh
    exact ⟨b, sv, mb, rb, h1, tw.st, tw.low, tw.bel⟩)
  have KE : Hid (∀ W, Below WB.heap.size WB W → Calls Tryd.prog 6 #[] W fun e w' => e = .returned (.bool true) ∧ Below w.heap.size w w') := fun W hW => lives10 hT (bw_tr (bw_tr xA xB) hW)
  have HBX : Hid (∀ W, Below WB.heap.size WB W → W.heap[w.heap.size]? = some (.cells #[.bool a0, .bool a1, .bool a2] 22 (0, 0)) ∧ W.heap[w.heap.size + 1]? = some (.cells #[.bool b0, .bool b1, .bool b2] 22 (0, 0))) := fun W hW => ⟨kept_blk (kept_blk y0 xB) hW, kept_blk (kept_blk y1 xB) hW⟩
  have HBC : Hid (∀ W, Below WB.heap.size WB W → ∀ k, k < 3 → W.cell? ⟨w.heap.size, k, none⟩ = some (.bool (b3 a0 a1 a2 k)) ∧ W.cell? ⟨w.heap.size + 1, k, none⟩ = some (.bool (b3 b0 b1 b2 k))) := fun W hW k hk => by
    obtain ⟨q1, q2⟩ := unhide HBX W hW
    obtain rfl | rfl | rfl : k = 0 ∨ k = 1 ∨ k = 2 := by omega
    · exact ⟨blk_cell q1 rfl, blk_cell q2 rfl⟩
    · exact ⟨blk_cell q1 rfl, blk_cell q2 rfl⟩
    · exact ⟨blk_cell q1 rfl, blk_cell q2 rfl⟩
  have HTab : Hid (∀ W, Below WB.heap.size WB W → Tab W) := fun W hW => hT.bw (bw_tr (bw_tr xA xB) hW)
  have HBw : Hid (∀ W, Below WB.heap.size WB W → Below w.heap.size w W) := fun W hW => bw_tr (bw_tr xA xB) hW
  have HWA := hide hWA
  have HWB := hide hWB
  clear KB hWA hWB y0 y1 xA xB hT
  go_enter Tryd.func3, Tryd.ntmps3
  go_upto_region 1 with fail
  rw [← unhide HWA]
  go_wp2_with fail
  rw [← unhide HWB]
  refine (unhide KB2).mono ?_
  rintro e W1 ⟨b, sv, mb, rb, rfl, u1⟩
  have U1 := hide u1
  clear u1 KB2 HWA HWB
  go_upto_region 5 with fail
  obtain ⟨W2, hW2⟩ : ∃ W2, W2 = (W1.alloc (.cells #[.int .i64 1, .int .i64 2, .int .i64 3] 3)).alloc (.cells #[.int .i64 1, .int .i64 2, .int .i64 3] 3) := ⟨_, rfl⟩
  rw [← hW2]
  obtain ⟨X, hX⟩ : ∃ X, X = W1.heap.size := ⟨_, rfl⟩
  have x2 : Below W1.heap.size W1 W2 := by rw [hW2]; exact (bwA' _ _).alloc (by simp) _
  have U2 : Hid (U WB W2 b sv mb un0) := (unhide U1).bw x2
  have bX : W2.heap[X]? = some (.cells (xcs (b3 a0 a1 a2) 0) 3 (0, 0)) := by rw [xcs_zero, hW2, hX]; exact blk_before (heap_alloc_new _ _)
  have bY : W2.heap[X + 1]? = some (.cells (xcs (b3 b0 b1 b2) 0) 3 (0, 0)) := by
    have := heap_alloc_new (W1.alloc (.cells #[.int .i64 1, .int .i64 2, .int .i64 3] 3)) (.cells #[.int .i64 1, .int .i64 2, .int .i64 3] 3)
    rw [heap_size_alloc] at this
    rw [xcs_zero, hW2, hX]; exact this
  have hXb : Hid (WB.heap.size ≤ X) := by have := (unhide U1).bel.size; unfold Hid; omega
  rw [← hX]
  have HX2 := hide (And.intro bX bY)
  clear hW2 x2 bX bY U1 hX
  go_wp2_with fail
  go_loopw [10] (fun iv wr => ∃ k : Nat, k ≤ 3 ∧ iv = .int .i64 (k : Int) ∧ Hid (U WB wr b sv mb un0 ∧ wr.heap[X]? = some (.cells (xcs (b3 a0 a1 a2) k) 3 (0, 0)) ∧ wr.heap[X + 1]? = some (.cells (xcs (b3 b0 b1 b2) k) 3 (0, 0)))) (fun iv _ => (3 - intOf iv).toNat)
  case atStart => exact ⟨0, by omega, rfl, ⟨unhide U2, unhide HX2⟩⟩
  case round =>
    obtain ⟨k, hk, rfl, HR⟩ := hrel
    by_cases hlt : k < 3
    · have hltI : (k : Int) < 3 := by omega
      obtain ⟨ca, cb⟩ := unhide HBC _ (unhide HR).1.bel k hlt
      obtain ⟨hu, hx, hy⟩ := unhide HR
      have cx := blk_cell (i := k) hx (xcs_get (b3 a0 a1 a2) k k hlt)
      have fx := blk_froz (i := k) hx
      have cy := blk_cell (i := k) hy (xcs_get (b3 b0 b1 b2) k k hlt)
      have fy := blk_froz (i := k) hy
      obtain ⟨Wx, hWx⟩ : ∃ Wx, Wx = wr.setCell ⟨X, k, none⟩ (.int .i64 (4 + (k : Int))) := ⟨_, rfl⟩
      have hb := unhide hXb
      have ux : U WB Wx b sv mb un0 := by rw [hWx]; exact hu.poke hx (by decide) (by decide) hb _
      have hxx : Wx.heap[X]? = some (.cells ((xcs (b3 a0 a1 a2) k).setIfInBounds k (.int .i64 (4 + (k : Int)))) 3 (0, 0)) := by rw [hWx]; exact poke_blk hx _
      have hxy : Wx.heap[X + 1]? = some (.cells (xcs (b3 b0 b1 b2) k) 3 (0, 0)) := by rw [hWx]; exact poke_other hy _ (by omega)
      have cyx := blk_cell (i := k) hxy (xcs_get (b3 b0 b1 b2) k k hlt)
      have fyx := blk_froz (i := k) hxy
      have cbx := (unhide HBC _ ux.bel k hlt).2
      have HWx := hide hWx
      have r4 : IntKind.i64.wrap (4 + (k : Int)) = 4 + (k : Int) := by rw [IntKind.wrap_i64]; omega
      cases ha : b3 a0 a1 a2 k
      · cases hb2 : b3 b0 b1 b2 k
        · have HN : Hid (U WB wr b sv mb un0 ∧ wr.heap[X]? = some (.cells (xcs (b3 a0 a1 a2) (k + 1)) 3 (0, 0)) ∧ wr.heap[X + 1]? = some (.cells (xcs (b3 b0 b1 b2) (k + 1)) 3 (0, 0))) := by
            unfold Hid; rw [xcs_miss _ _ hlt ha, xcs_miss _ _ hlt hb2]; exact ⟨hu, hx, hy⟩
          rw [ha] at ca
          rw [hb2] at cb
          clear hu hx hy ux hxx hxy hWx cbx cyx fyx HR ha hb2 cx fx cy fy HWx
          go_wp2_with fail
          go_roundw
          case rel => exact ⟨k + 1, by omega, by go_num, HN⟩
          case measure => simp only [intOf]; omega
        · have HN : Hid (U WB (wr.setCell ⟨X + 1, k, none⟩ (.int .i64 (4 + (k : Int)))) b sv mb un0 ∧ (wr.setCell ⟨X + 1, k, none⟩ (.int .i64 (4 + (k : Int)))).heap[X]? = some (.cells (xcs (b3 a0 a1 a2) (k + 1)) 3 (0, 0)) ∧ (wr.setCell ⟨X + 1, k, none⟩ (.int .i64 (4 + (k : Int)))).heap[X + 1]? = some (.cells (xcs (b3 b0 b1 b2) (k + 1)) 3 (0, 0))) := by
            unfold Hid; rw [xcs_miss _ _ hlt ha, ← xcs_hit _ _ hlt hb2]; exact ⟨hu.poke hy (by decide) (by decide) (by omega) _, poke_other hx _ (by omega), poke_blk hy _⟩
          rw [ha] at ca
          rw [hb2] at cb
          clear hu hx hy ux hxx hxy hWx cbx cyx fyx HR ha hb2 HWx
          go_wp2_with fail
          go_roundw
          case rel => exact ⟨k + 1, by omega, by go_num, HN⟩
          case measure => simp only [intOf]; omega
      · cases hb2 : b3 b0 b1 b2 k
        · have HN : Hid (U WB Wx b sv mb un0 ∧ Wx.heap[X]? = some (.cells (xcs (b3 a0 a1 a2) (k + 1)) 3 (0, 0)) ∧ Wx.heap[X + 1]? = some (.cells (xcs (b3 b0 b1 b2) (k + 1)) 3 (0, 0))) := by
            unfold Hid; rw [xcs_miss _ _ hlt hb2, ← xcs_hit _ _ hlt ha]; exact ⟨ux, hxx, hxy⟩
          rw [ha] at ca
          rw [hb2] at cbx
          clear hu hx hy ux hxx hxy hWx HR ha hb2 cb cy fy
          go_upto_region 10 with fail
          rw [← unhide HWx]
          go_wp2_with fail
          go_roundw
          case rel => exact ⟨k + 1, by omega, by go_num, HN⟩
          case measure => simp only [intOf]; omega
        · have HN : Hid (U WB (Wx.setCell ⟨X + 1, k, none⟩ (.int .i64 (4 + (k : Int)))) b sv mb un0 ∧ (Wx.setCell ⟨X + 1, k, none⟩ (.int .i64 (4 + (k : Int)))).heap[X]? = some (.cells (xcs (b3 a0 a1 a2) (k + 1)) 3 (0, 0)) ∧ (Wx.setCell ⟨X + 1, k, none⟩ (.int .i64 (4 + (k : Int)))).heap[X + 1]? = some (.cells (xcs (b3 b0 b1 b2) (k + 1)) 3 (0, 0))) := by
            unfold Hid; rw [← xcs_hit _ _ hlt ha, ← xcs_hit _ _ hlt hb2]; exact ⟨ux.poke hxy (by decide) (by decide) (by omega) _, poke_other hxx _ (by omega), poke_blk hxy _⟩
          rw [ha] at ca
          rw [hb2] at cbx
          clear hu hx hy ux hxx hxy hWx HR ha hb2 cb cy fy
          go_upto_region 10 with fail
          rw [← unhide HWx]
          go_wp2_with fail
          go_roundw
          case rel => exact ⟨k + 1, by omega, by go_num, HN⟩
          case measure => simp only [intOf]; omega
    · obtain rfl : k = 3 := by omega
      clear hlt hk
      obtain ⟨u3, hx3, hy3⟩ := unhide HR
      have U3 := hide u3
      obtain ⟨X0, hX0⟩ : ∃ X0 : Int, X0 = xf (b3 a0 a1 a2) 3 0 := ⟨_, rfl⟩
      obtain ⟨X1, hX1⟩ : ∃ X1 : Int, X1 = xf (b3 a0 a1 a2) 3 1 := ⟨_, rfl⟩
      obtain ⟨X2, hX2⟩ : ∃ X2 : Int, X2 = xf (b3 a0 a1 a2) 3 2 := ⟨_, rfl⟩
      obtain ⟨Y0, hY0⟩ : ∃ Y0 : Int, Y0 = xf (b3 b0 b1 b2) 3 0 := ⟨_, rfl⟩
      obtain ⟨Y1, hY1⟩ : ∃ Y1 : Int, Y1 = xf (b3 b0 b1 b2) 3 1 := ⟨_, rfl⟩
      obtain ⟨Y2, hY2⟩ : ∃ Y2 : Int, Y2 = xf (b3 b0 b1 b2) 3 2 := ⟨_, rfl⟩
      have ex : xcs (b3 a0 a1 a2) 3 = #[.int .i64 X0, .int .i64 X1, .int .i64 X2] := by unfold xcs; rw [hX0, hX1, hX2]
      have ey : xcs (b3 b0 b1 b2) 3 = #[.int .i64 Y0, .int .i64 Y1, .int .i64 Y2] := by unfold xcs; rw [hY0, hY1, hY2]
      rw [ex] at hx3
      rw [ey] at hy3
      obtain ⟨fC, fE1, fE2, fL⟩ := un_facts a0 a1 a2 b0 b1 b2
      rw [← hX0, ← hX1, ← hX2] at fE1
      rw [← hY0, ← hY1, ← hY2] at fE2
      obtain ⟨L1, hL1⟩ : ∃ L1, L1 = unL a0 a1 a2 := ⟨_, rfl⟩
      obtain ⟨p0, p1, p2, p3, p4, p5, hp⟩ : ∃ p0 p1 p2 p3 p4 p5, nxtV un0 X0 X1 X2 = [p0, p1, p2, p3, p4, p5] := ⟨_, _, _, _, _, _, by unfold nxtV; rw [if_pos]; rfl; · unfold nxtE at fE1; by_cases c : nx3 un0 X0 X1 X2 = true; exact c; rw [if_neg c] at fE1; cases fE1⟩
      obtain ⟨q0, q1, q2, q3, q4, q5, hq⟩ : ∃ q0 q1 q2 q3 q4 q5, nxtV L1 Y0 Y1 Y2 = [q0, q1, q2, q3, q4, q5] := ⟨_, _, _, _, _, _, by unfold nxtV; rw [if_pos]; rfl; · rw [hL1]; unfold nxtE at fE2; by_cases c : nx3 (unL a0 a1 a2) Y0 Y1 Y2 = true; exact c; rw [if_neg c] at fE2; cases fE2⟩
      have eP : unP a0 a1 a2 = [p0, p1, p2, p3, p4, p5] := by unfold unP; rw [← hX0, ← hX1, ← hX2]; exact hp
      have eQ : unQ a0 a1 a2 b0 b1 b2 = [q0, q1, q2, q3, q4, q5] := by unfold unQ; rw [← hY0, ← hY1, ← hY2, ← hL1]; exact hq
      have eL : nxtL un0 X0 X1 X2 = L1 := by rw [hL1]; unfold unL; rw [← hX0, ← hX1, ← hX2]
      unfold unC at fC
      rw [eP, eQ] at fC
      simp only [Bool.and_eq_true, beq_iff_eq] at fC
      obtain ⟨⟨⟨f1, f2⟩, f5⟩, f0⟩ := fC
      rw [← hL1] at fE2 fL
      have HF := hide (And.intro f1 (And.intro f2 (And.intro f5 f0)))
      have KN1 : Hid (∀ W sv', U WB W b sv' mb un0 → Calls Tryd.prog 5 #[.pointer (some ⟨b, 0, none⟩), .int .i64 X0, .int .i64 X1, .int .i64 X2] W fun e w' => e = .returned (.tuple #[.agg #[.int .i64 p0, .int .i64 p1, .int .i64 p2, .int .i64 p3, .int .i64 p4, .int .i64 p5], .int .i64 0]) ∧ ∃ sv2, SStep W w' b sv' sv2 mb L1) := fun W sv' u => by
        have := next_any u.st X0 X1 X2 (by simp [un0])
        rw [hp, fE1, eL, secA6] at this
        exact this
      have KN2 : Hid (∀ W sv', U WB W b sv' mb L1 → Calls Tryd.prog 5 #[.pointer (some ⟨b, 0, none⟩), .int .i64 Y0, .int .i64 Y1, .int .i64 Y2] W fun e w' => e = .returned (.tuple #[.agg #[.int .i64 q0, .int .i64 q1, .int .i64 q2, .int .i64 q3, .int .i64 q4, .int .i64 q5], .int .i64 0]) ∧ ∃ sv2, SStep W w' b sv' sv2 mb (nxtL L1 Y0 Y1 Y2)) := fun W sv' u => by
        have := next_any u.st Y0 Y1 Y2 (by omega)
        rw [hq, fE2, secA6] at this
        exact this
      obtain ⟨L2, hL2⟩ : ∃ L2, L2 = nxtL L1 Y0 Y1 Y2 := ⟨_, rfl⟩
      rw [← hL2] at KN2
      have HXB := hide (And.intro hx3 hy3)
      clear u3 hx3 hy3 hX0 hX1 hX2 hY0 hY1 hY2 ex ey fE1 fE2 fL hL1 hp hq eP eQ eL f1 f2 f5 f0 hL2 HR U2 HX2
      rename World => W3
      go_upto_region 12 with fail
      have SX : Hid (∀ W sv' L', SStep W3 W b sv sv' mb L' → (W.cell? ⟨X, 0, none⟩ = some (.int .i64 X0) ∧ W.cell? ⟨X, 1, none⟩ = some (.int .i64 X1) ∧ W.cell? ⟨X, 2, none⟩ = some (.int .i64 X2)) ∧ W.heap[X + 1]? = some (.cells #[.int .i64 Y0, .int .i64 Y1, .int .i64 Y2] 3 (0, 0)) ∧ U WB W b sv' mb L') := fun W sv' L' s => by
        have k1 := kept_fr (unhide HXB).1 (unhide U3).st s.fr (by decide) (by decide)
        have k2 := kept_fr (unhide HXB).2 (unhide U3).st s.fr (by decide) (by decide)
        exact ⟨⟨blk_cell k1 rfl, blk_cell k1 rfl, blk_cell k1 rfl⟩, k2, (unhide U3).step s⟩
      have sA : SStep W3 W3.drew b sv sv mb un0 := SStep.same (unhide U3).st (Below.refl _ _).drew
      have sB : SStep W3 (W3.alloc (.cells #[.int .i64 0, .int .i64 0, .int .i64 0, .int .i64 0, .int .i64 0, .int .i64 0] 33)).drew b sv sv mb un0 := SStep.same (unhide U3).st (bwA' _ _).drew
      have S0 := (unhide SX _ _ _ sA).1
      have S0b := (unhide SX _ _ _ sB).1
      have uA := (unhide SX _ _ _ sA).2.2
      have uB := (unhide SX _ _ _ sB).2.2
      have kB : (W3.alloc (.cells #[.int .i64 0, .int .i64 0, .int .i64 0, .int .i64 0, .int .i64 0, .int .i64 0] 33)).drew.heap[W3.heap.size]? = some (.cells #[.int .i64 0, .int .i64 0, .int .i64 0, .int .i64 0, .int .i64 0, .int .i64 0] 33 (0, 0)) := heap_alloc_new W3 _
      have hA3 : W3.heap.size ≤ W3.heap.size := Nat.le_refl _
      go_cut [11, 12] from 51 to 64 (fun s11 s12 wx => ∃ pb, s11 = .pointer (some ⟨pb, 0, none⟩) ∧ s12 = .int .i64 0 ∧ Hid (∃ sv2, U WB wx b sv2 mb L1 ∧ wx.heap[X + 1]? = some (.cells #[.int .i64 Y0, .int .i64 Y1, .int .i64 Y2] 3 (0, 0)) ∧ wx.heap[pb]? = some (.cells #[.int .i64 p0, .int .i64 p1, .int .i64 p2, .int .i64 p3, .int .i64 p4, .int .i64 p5] 33 (0, 0))))
      case first =>
        go_region_held3 (fun w' : World => w'.cell? ⟨X, 0, none⟩ = some (.int .i64 X0) ∧ w'.cell? ⟨X, 1, none⟩ = some (.int .i64 X1) ∧ w'.cell? ⟨X, 2, none⟩ = some (.int .i64 X2)) (first | with_reducible exact S0 | with_reducible exact S0b | with_reducible exact S1 | with_reducible exact S1b | with_reducible exact S1c | with_reducible exact S1d) (first
          | (go_at_call 5; first
            | (with_reducible refine (unhide KN1 _ _ uA).mono ?_; rintro e z1 ⟨rfl, svA, sa⟩; have s1 := sA.trans sa; have S1 := (unhide SX _ _ _ s1).1; have s1b := s1.after (bwA' z1 (.cells #[.int .i64 p0, .int .i64 p1, .int .i64 p2, .int .i64 p3, .int .i64 p4, .int .i64 p5] 33)); have S1b := (unhide SX _ _ _ s1b).1; have s1d := s1.after (bwA' z1 (.cells #[.int .i64 0, .int .i64 0, .int .i64 0, .int .i64 0, .int .i64 0, .int .i64 0] 33)); have S1d := (unhide SX _ _ _ s1d).1)
            | (with_reducible refine (unhide KN1 _ _ uB).mono ?_; rintro e z1 ⟨rfl, svA, sa⟩; have s1 := sB.trans sa; have S1 := (unhide SX _ _ _ s1).1; have k1 := kept_fr kB uB.st sa.fr (by decide) (by decide); have h0 := blk_cell (i := 0) k1 rfl; have h1 := blk_cell (i := 1) k1 rfl; have h2 := blk_cell (i := 2) k1 rfl; have h3 := blk_cell (i := 3) k1 rfl; have h4 := blk_cell (i := 4) k1 rfl; have h5 := blk_cell (i := 5) k1 rfl; have hf := fun i => blk_froz (i := i) k1; have s6 := s1.six k1 (by decide) (by decide) hA3 (.int .i64 p0) (.int .i64 p1) (.int .i64 p2) (.int .i64 p3) (.int .i64 p4) (.int .i64 p5); have S1c := (unhide SX _ _ _ s6.1).1) | fail) | fail)
        all_goals
          go_wp2_with fail
          go_meet
          case rel => first | exact ⟨_, rfl, rfl, ⟨_, (unhide SX _ _ _ s6.1).2.2, (unhide SX _ _ _ s6.1).2.1, s6.2⟩⟩ | exact ⟨_, rfl, rfl, ⟨_, (unhide SX _ _ _ s1b).2.2, (unhide SX _ _ _ s1b).2.1, heap_alloc_new _ _⟩⟩
      case rest =>
      rename World => W4
      obtain ⟨pb, rfl, rfl, HP⟩ := hcut
      obtain ⟨sv4, u4, y4, k4⟩ := unhide HP
      have U4 := hide u4
      have HK4 := hide (And.intro y4 k4)
      clear HP u4 y4 k4 SX sA sB S0 S0b uA uB kB hA3 U3 HXB KN1
      go_upto_region 13 with fail
      have SX : Hid (∀ W sv' L', SStep W4 W b sv4 sv' mb L' → (W.cell? ⟨X + 1, 0, none⟩ = some (.int .i64 Y0) ∧ W.cell? ⟨X + 1, 1, none⟩ = some (.int .i64 Y1) ∧ W.cell? ⟨X + 1, 2, none⟩ = some (.int .i64 Y2)) ∧ W.heap[pb]? = some (.cells #[.int .i64 p0, .int .i64 p1, .int .i64 p2, .int .i64 p3, .int .i64 p4, .int .i64 p5] 33 (0, 0)) ∧ U WB W b sv' mb L') := fun W sv' L' s => by
        have k1 := kept_fr (unhide HK4).1 (unhide U4).st s.fr (by decide) (by decide)
        have k2 := kept_fr (unhide HK4).2 (unhide U4).st s.fr (by decide) (by decide)
        exact ⟨⟨blk_cell k1 rfl, blk_cell k1 rfl, blk_cell k1 rfl⟩, k2, (unhide U4).step s⟩
      have sA : SStep W4 W4.drew b sv4 sv4 mb L1 := SStep.same (unhide U4).st (Below.refl _ _).drew
      have sB : SStep W4 (W4.alloc (.cells #[.int .i64 0, .int .i64 0, .int .i64 0, .int .i64 0, .int .i64 0, .int .i64 0] 33)).drew b sv4 sv4 mb L1 := SStep.same (unhide U4).st (bwA' _ _).drew
      have S0 := (unhide SX _ _ _ sA).1
      have S0b := (unhide SX _ _ _ sB).1
      have uA := (unhide SX _ _ _ sA).2.2
      have uB := (unhide SX _ _ _ sB).2.2
      have kB : (W4.alloc (.cells #[.int .i64 0, .int .i64 0, .int .i64 0, .int .i64 0, .int .i64 0, .int .i64 0] 33)).drew.heap[W4.heap.size]? = some (.cells #[.int .i64 0, .int .i64 0, .int .i64 0, .int .i64 0, .int .i64 0, .int .i64 0] 33 (0, 0)) := heap_alloc_new W4 _
      have hA3 : W4.heap.size ≤ W4.heap.size := Nat.le_refl _
      go_cut [13, 14] from 65 to 78 (fun s11 s12 wx => ∃ qb, s11 = .pointer (some ⟨qb, 0, none⟩) ∧ s12 = .int .i64 0 ∧ Hid (∃ sv2, U WB wx b sv2 mb L2 ∧ wx.heap[pb]? = some (.cells #[.int .i64 p0, .int .i64 p1, .int .i64 p2, .int .i64 p3, .int .i64 p4, .int .i64 p5] 33 (0, 0)) ∧ wx.heap[qb]? = some (.cells #[.int .i64 q0, .int .i64 q1, .int .i64 q2, .int .i64 q3, .int .i64 q4, .int .i64 q5] 33 (0, 0))))
      case first =>
        go_region_held3 (fun w' : World => w'.cell? ⟨X + 1, 0, none⟩ = some (.int .i64 Y0) ∧ w'.cell? ⟨X + 1, 1, none⟩ = some (.int .i64 Y1) ∧ w'.cell? ⟨X + 1, 2, none⟩ = some (.int .i64 Y2)) (first | with_reducible exact S0 | with_reducible exact S0b | with_reducible exact S1 | with_reducible exact S1b | with_reducible exact S1c | with_reducible exact S1d) (first
          | (go_at_call 5; first
            | (with_reducible refine (unhide KN2 _ _ uA).mono ?_; rintro e z1 ⟨rfl, svA, sa⟩; have s1 := sA.trans sa; have S1 := (unhide SX _ _ _ s1).1; have s1b := s1.after (bwA' z1 (.cells #[.int .i64 q0, .int .i64 q1, .int .i64 q2, .int .i64 q3, .int .i64 q4, .int .i64 q5] 33)); have S1b := (unhide SX _ _ _ s1b).1; have s1d := s1.after (bwA' z1 (.cells #[.int .i64 0, .int .i64 0, .int .i64 0, .int .i64 0, .int .i64 0, .int .i64 0] 33)); have S1d := (unhide SX _ _ _ s1d).1)
            | (with_reducible refine (unhide KN2 _ _ uB).mono ?_; rintro e z1 ⟨rfl, svA, sa⟩; have s1 := sB.trans sa; have S1 := (unhide SX _ _ _ s1).1; have k1 := kept_fr kB uB.st sa.fr (by decide) (by decide); have h0 := blk_cell (i := 0) k1 rfl; have h1 := blk_cell (i := 1) k1 rfl; have h2 := blk_cell (i := 2) k1 rfl; have h3 := blk_cell (i := 3) k1 rfl; have h4 := blk_cell (i := 4) k1 rfl; have h5 := blk_cell (i := 5) k1 rfl; have hf := fun i => blk_froz (i := i) k1; have s6 := s1.six k1 (by decide) (by decide) hA3 (.int .i64 q0) (.int .i64 q1) (.int .i64 q2) (.int .i64 q3) (.int .i64 q4) (.int .i64 q5); have S1c := (unhide SX _ _ _ s6.1).1) | fail) | fail)
        all_goals
          go_wp2_with fail
          go_meet
          case rel => first | exact ⟨_, rfl, rfl, ⟨_, (unhide SX _ _ _ s6.1).2.2, (unhide SX _ _ _ s6.1).2.1, s6.2⟩⟩ | exact ⟨_, rfl, rfl, ⟨_, (unhide SX _ _ _ s1b).2.2, (unhide SX _ _ _ s1b).2.1, heap_alloc_new _ _⟩⟩
      case rest =>
      obtain ⟨qb, rfl, rfl, HP⟩ := hcut
      obtain ⟨sv5, u5, k5, l5⟩ := unhide HP
      obtain ⟨m5, n5⟩ := unhide HBX _ u5.bel
      have B5 := hide u5.bel
      have CC : Hid (∀ W, Below wc.heap.size wc W → (W.cell? ⟨pb, 0, none⟩ = some (.int .i64 p0) ∧ W.cell? ⟨pb, 1, none⟩ = some (.int .i64 p1) ∧ W.cell? ⟨pb, 2, none⟩ = some (.int .i64 p2) ∧ W.cell? ⟨pb, 5, none⟩ = some (.int .i64 p5) ∧ W.cell? ⟨qb, 0, none⟩ = some (.int .i64 q0) ∧ W.cell? ⟨qb, 1, none⟩ = some (.int .i64 q1) ∧ W.cell? ⟨qb, 2, none⟩ = some (.int .i64 q2) ∧ W.cell? ⟨qb, 5, none⟩ = some (.int .i64 q5) ∧ W.cell? ⟨w.heap.size, 0, none⟩ = some (.bool a0) ∧ W.cell? ⟨w.heap.size, 1, none⟩ = some (.bool a1) ∧ W.cell? ⟨w.heap.size, 2, none⟩ = some (.bool a2) ∧ W.cell? ⟨w.heap.size + 1, 0, none⟩ = some (.bool b0) ∧ W.cell? ⟨w.heap.size + 1, 1, none⟩ = some (.bool b1) ∧ W.cell? ⟨w.heap.size + 1, 2, none⟩ = some (.bool b2))) := fun W hW => by
        have k := kept_blk k5 hW
        have l := kept_blk l5 hW
        have m := kept_blk m5 hW
        have n := kept_blk n5 hW
        exact ⟨blk_cell k rfl, blk_cell k rfl, blk_cell k rfl, blk_cell k rfl, blk_cell l rfl, blk_cell l rfl, blk_cell l rfl, blk_cell l rfl, blk_cell m rfl, blk_cell m rfl, blk_cell m rfl, blk_cell n rfl, blk_cell n rfl, blk_cell n rfl⟩
      obtain ⟨ab, hab⟩ : ∃ ab, ab = decide ((a0, a1, a2) = (b0, b1, b2)) := ⟨_, rfl⟩
      have he : ∀ W, (Op.equalIn 10000 22 (.agg #[.bool a0, .bool a1, .bool a2]) (.agg #[.bool b0, .bool b1, .bool b2])).run Tryd.prog W = .ok ab W := fun W => by rw [hab]; exact equal_b3 W a0 a1 a2 b0 b1 b2
      obtain ⟨f1, f2, f5, f0⟩ := unhide HF
      rw [← hab] at f1 f2 f5
      have HABX := hide hab
      clear HP u5 k5 l5 m5 n5 SX sA sB S0 S0b uA uB kB hA3 U4 HK4 KN2 hab HF HBX HBC
      go_upto_region 16 with fail
      have S1 := unhide CC _ (Below.refl _ _).drew
      have KE9 : Hid (Calls Tryd.prog 6 #[] wc.drew fun e w' => e = .returned (.bool true) ∧ Below wc.heap.size wc w') := lives10 (unhide HTab _ (unhide B5)) (Below.refl _ _).drew
      have e1 : (p1 == q1) = ab := by rw [← f1]; rfl
      have e2 : (p2 == q2) = ab := by rw [← f2]; rfl
      have e5 : (p5 == q5) = ab := by rw [← f5]; rfl
      have e0 : (p0 == q0) = (decide (a0 = b0) && decide (a1 = b1)) := by rw [← f0]; rfl
      obtain ⟨c0, hc0⟩ : ∃ c0, c0 = decide (a0 = b0) := ⟨_, rfl⟩
      obtain ⟨c1, hc1⟩ : ∃ c1, c1 = decide (a1 = b1) := ⟨_, rfl⟩
      rw [← hc0, ← hc1] at e0 f0
      have g0 : (a0 == b0) = c0 := by rw [hc0]; cases a0 <;> cases b0 <;> rfl
      have g1 : (a1 == b1) = c1 := by rw [hc1]; cases a1 <;> cases b1 <;> rfl
      have g0' : decide (a0 = b0) = c0 := hc0.symm
      have g1' : decide (a1 = b1) = c1 := hc1.symm
      have himp : ab = true → c0 = true ∧ c1 = true := fun h => by rw [unhide HABX, decide_eq_true_eq] at h; simp at h; rw [hc0, hc1]; simp [h]
      clear hc0 hc1 HABX
      cases ab
      · clear himp
        cases c0
        · have e0' : (p0 == q0) = false := e0
          have f0' : decide (p0 = q0) = false := f0
          clear e0 f0
          refine wp_region_noPanic ?_
          refine wp_region_held_drew (S := fun w' : World => w'.cell? ⟨pb, 0, none⟩ = some (.int .i64 p0) ∧ w'.cell? ⟨pb, 1, none⟩ = some (.int .i64 p1) ∧ w'.cell? ⟨pb, 2, none⟩ = some (.int .i64 p2) ∧ w'.cell? ⟨pb, 5, none⟩ = some (.int .i64 p5) ∧ w'.cell? ⟨qb, 0, none⟩ = some (.int .i64 q0) ∧ w'.cell? ⟨qb, 1, none⟩ = some (.int .i64 q1) ∧ w'.cell? ⟨qb, 2, none⟩ = some (.int .i64 q2) ∧ w'.cell? ⟨qb, 5, none⟩ = some (.int .i64 q5) ∧ w'.cell? ⟨w.heap.size, 0, none⟩ = some (.bool a0) ∧ w'.cell? ⟨w.heap.size, 1, none⟩ = some (.bool a1) ∧ w'.cell? ⟨w.heap.size, 2, none⟩ = some (.bool a2) ∧ w'.cell? ⟨w.heap.size + 1, 0, none⟩ = some (.bool b0) ∧ w'.cell? ⟨w.heap.size + 1, 1, none⟩ = some (.bool b1) ∧ w'.cell? ⟨w.heap.size + 1, 2, none⟩ = some (.bool b2)) (by kernel_rfl) S1 (fun hHeld => ?_)
          refine wpAnyH_take (i := 0) (oi := { dst := some 85, op := Op.fieldAddr 33 (Operand.tmp 11) 1, type := 0, pos := "theorem.go:31", after := #[], guard := none }) (v := ?v0a) rfl (by kernel_rfl) (by kernel_rfl) (by kernel_rfl) (fun _ _ _ h => h) (Or.inl ⟨by rfl, ?hy0a⟩) (by exact S1) ?_
          case hy0a => (intro w hSw; (try dsimp only at hSw); go_simp; try (with_reducible rfl))
          try simp only [Act.put, List.setIfInBounds_toArray, List.set_cons_zero, List.set_cons_succ]
          refine wpAnyH_take (i := 1) (oi := { dst := some 86, op := Op.load 3 (Operand.tmp 85), type := 3, pos := "theorem.go:31", after := #[{ on := 0, ground := Ground.data }], guard := none }) (v := ?v1a) rfl (by kernel_rfl) (by kernel_rfl) (by kernel_rfl) (fun _ _ _ h => h) (Or.inl ⟨by rfl, ?hy1a⟩) (by exact S1) ?_
          case hy1a => (intro w hSw; (try dsimp only at hSw); go_simp; try (with_reducible rfl))
          try simp only [Act.put, List.setIfInBounds_toArray, List.set_cons_zero, List.set_cons_succ]
          refine wpAnyH_take (i := 2) (oi := { dst := some 87, op := Op.fieldAddr 33 (Operand.tmp 13) 1, type := 0, pos := "theorem.go:31", after := #[], guard := none }) (v := ?v2a) rfl (by kernel_rfl) (by kernel_rfl) (by kernel_rfl) (fun _ _ _ h => h) (Or.inl ⟨by rfl, ?hy2a⟩) (by exact S1) ?_
          case hy2a => (intro w hSw; (try dsimp only at hSw); go_simp; try (with_reducible rfl))
          try simp only [Act.put, List.setIfInBounds_toArray, List.set_cons_zero, List.set_cons_succ]
          refine wpAnyH_take (i := 3) (oi := { dst := some 88, op := Op.load 3 (Operand.tmp 87), type := 3, pos := "theorem.go:31", after := #[{ on := 2, ground := Ground.data }], guard := none }) (v := ?v3a) rfl (by kernel_rfl) (by kernel_rfl) (by kernel_rfl) (fun _ _ _ h => h) (Or.inl ⟨by rfl, ?hy3a⟩) (by exact S1) ?_
          case hy3a => (intro w hSw; (try dsimp only at hSw); go_simp; try (with_reducible rfl))
          try simp only [Act.put, List.setIfInBounds_toArray, List.set_cons_zero, List.set_cons_succ]
          refine wpAnyH_take (i := 4) (oi := { dst := some 89, op := Op.binOp BinOp.eql 3 (Operand.tmp 86) (Operand.tmp 88) 3, type := 4, pos := "theorem.go:31", after := #[{ on := 1, ground := Ground.data }, { on := 3, ground := Ground.data }], guard := none }) (v := ?v4a) rfl (by kernel_rfl) (by kernel_rfl) (by kernel_rfl) (fun _ _ _ h => h) (Or.inl ⟨by rfl, ?hy4a⟩) (by exact S1) ?_
          case hy4a => (intro w hSw; (try dsimp only at hSw); go_simp; try (with_reducible rfl))
          try simp only [Act.put, List.setIfInBounds_toArray, List.set_cons_zero, List.set_cons_succ]
          refine wpAnyH_take (i := 5) (oi := { dst := some 90, op := Op.load 22 (Operand.tmp 2), type := 22, pos := "theorem.go:31", after := #[], guard := none }) (v := ?v5a) rfl (by kernel_rfl) (by kernel_rfl) (by kernel_rfl) (fun _ _ _ h => h) (Or.inl ⟨by rfl, ?hy5a⟩) (by exact S1) ?_
          case hy5a => (intro w hSw; (try dsimp only at hSw); go_simp; try (with_reducible rfl))
          try simp only [Act.put, List.setIfInBounds_toArray, List.set_cons_zero, List.set_cons_succ]
          refine wpAnyH_take (i := 6) (oi := { dst := some 91, op := Op.load 22 (Operand.tmp 3), type := 22, pos := "theorem.go:31", after := #[], guard := none }) (v := ?v6a) rfl (by kernel_rfl) (by kernel_rfl) (by kernel_rfl) (fun _ _ _ h => h) (Or.inl ⟨by rfl, ?hy6a⟩) (by exact S1) ?_
          case hy6a => (intro w hSw; (try dsimp only at hSw); go_simp; try (with_reducible rfl))
          try simp only [Act.put, List.setIfInBounds_toArray, List.set_cons_zero, List.set_cons_succ]
          refine wpAnyH_take (i := 7) (oi := { dst := some 92, op := Op.binOp BinOp.eql 22 (Operand.tmp 90) (Operand.tmp 91) 22, type := 4, pos := "theorem.go:31", after := #[{ on := 5, ground := Ground.data }, { on := 6, ground := Ground.data }], guard := none }) (v := ?v7a) rfl (by kernel_rfl) (by kernel_rfl) (by kernel_rfl) (fun _ _ _ h => h) (Or.inl ⟨by rfl, ?hy7a⟩) (by exact S1) ?_
          case hy7a => (intro w hSw; (try dsimp only at hSw); go_simp; try (with_reducible rfl))
          try simp only [Act.put, List.setIfInBounds_toArray, List.set_cons_zero, List.set_cons_succ]
          refine wpAnyH_take (i := 8) (oi := { dst := some 93, op := Op.binOp BinOp.eql 4 (Operand.tmp 89) (Operand.tmp 92) 4, type := 4, pos := "theorem.go:31", after := #[{ on := 4, ground := Ground.data }, { on := 7, ground := Ground.data }], guard := none }) (v := ?v8a) rfl (by kernel_rfl) (by kernel_rfl) (by kernel_rfl) (fun _ _ _ h => h) (Or.inl ⟨by rfl, ?hy8a⟩) (by exact S1) ?_
          case hy8a => (intro w hSw; (try dsimp only at hSw); go_simp; try (with_reducible rfl))
          try simp only [Act.put, List.setIfInBounds_toArray, List.set_cons_zero, List.set_cons_succ]
          refine wpAnyH_take (i := 9) (oi := { dst := some 94, op := Op.move (Operand.tmp 93), type := 4, pos := "theorem.go:31", after := #[{ on := 8, ground := Ground.data }], guard := none }) (v := ?v9a) rfl (by kernel_rfl) (by kernel_rfl) (by kernel_rfl) (fun _ _ _ h => h) (Or.inl ⟨by rfl, ?hy9a⟩) (by exact S1) ?_
          case hy9a => (intro w hSw; (try dsimp only at hSw); go_simp; try (with_reducible rfl))
          try simp only [Act.put, List.setIfInBounds_toArray, List.set_cons_zero, List.set_cons_succ]
          refine wpAnyH_take (i := 10) (oi := { dst := some 95, op := Op.fieldAddr 33 (Operand.tmp 11) 2, type := 0, pos := "theorem.go:31", after := #[{ on := 9, ground := Ground.guard }], guard := some (9, true) }) (v := ?v10a) rfl (by kernel_rfl) (by kernel_rfl) (by kernel_rfl) (fun _ _ _ h => h) (Or.inl ⟨by rfl, ?hy10a⟩) (by exact S1) ?_
          case hy10a => (intro w hSw; (try dsimp only at hSw); go_simp; try (with_reducible rfl))
          try simp only [Act.put, List.setIfInBounds_toArray, List.set_cons_zero, List.set_cons_succ]
          refine wpAnyH_take (i := 11) (oi := { dst := some 96, op := Op.load 3 (Operand.tmp 95), type := 3, pos := "theorem.go:31", after := #[{ on := 10, ground := Ground.data }, { on := 9, ground := Ground.guard }], guard := some (9, true) }) (v := ?v11a) rfl (by kernel_rfl) (by kernel_rfl) (by kernel_rfl) (fun _ _ _ h => h) (Or.inl ⟨by rfl, ?hy11a⟩) (by exact S1) ?_
          case hy11a => (intro w hSw; (try dsimp only at hSw); go_simp; try (with_reducible rfl))
          try simp only [Act.put, List.setIfInBounds_toArray, List.set_cons_zero, List.set_cons_succ]
          refine wpAnyH_take (i := 12) (oi := { dst := some 97, op := Op.fieldAddr 33 (Operand.tmp 13) 2, type := 0, pos := "theorem.go:31", after := #[{ on := 9, ground := Ground.guard }], guard := some (9, true) }) (v := ?v12a) rfl (by kernel_rfl) (by kernel_rfl) (by kernel_rfl) (fun _ _ _ h => h) (Or.inl ⟨by rfl, ?hy12a⟩) (by exact S1) ?_
          case hy12a => (intro w hSw; (try dsimp only at hSw); go_simp; try (with_reducible rfl))
          try simp only [Act.put, List.setIfInBounds_toArray, List.set_cons_zero, List.set_cons_succ]
          refine wpAnyH_take (i := 13) (oi := { dst := some 98, op := Op.load 3 (Operand.tmp 97), type := 3, pos := "theorem.go:31", after := #[{ on := 12, ground := Ground.data }, { on := 9, ground := Ground.guard }], guard := some (9, true) }) (v := ?v13a) rfl (by kernel_rfl) (by kernel_rfl) (by kernel_rfl) (fun _ _ _ h => h) (Or.inl ⟨by rfl, ?hy13a⟩) (by exact S1) ?_
          case hy13a => (intro w hSw; (try dsimp only at hSw); go_simp; try (with_reducible rfl))
          try simp only [Act.put, List.setIfInBounds_toArray, List.set_cons_zero, List.set_cons_succ]
          refine wpAnyH_take (i := 14) (oi := { dst := some 99, op := Op.binOp BinOp.eql 3 (Operand.tmp 96) (Operand.tmp 98) 3, type := 4, pos := "theorem.go:31", after := #[{ on := 11, ground := Ground.data }, { on := 13, ground := Ground.data }, { on := 9, ground := Ground.guard }], guard := some (9, true) }) (v := ?v14a) rfl (by kernel_rfl) (by kernel_rfl) (by kernel_rfl) (fun _ _ _ h => h) (Or.inl ⟨by rfl, ?hy14a⟩) (by exact S1) ?_
          case hy14a => (intro w hSw; (try dsimp only at hSw); go_simp; try (with_reducible rfl))
          try simp only [Act.put, List.setIfInBounds_toArray, List.set_cons_zero, List.set_cons_succ]
          refine wpAnyH_take (i := 15) (oi := { dst := some 100, op := Op.load 22 (Operand.tmp 2), type := 22, pos := "theorem.go:31", after := #[{ on := 9, ground := Ground.guard }], guard := some (9, true) }) (v := ?v15a) rfl (by kernel_rfl) (by kernel_rfl) (by kernel_rfl) (fun _ _ _ h => h) (Or.inl ⟨by rfl, ?hy15a⟩) (by exact S1) ?_
          case hy15a => (intro w hSw; (try dsimp only at hSw); go_simp; try (with_reducible rfl))
          try simp only [Act.put, List.setIfInBounds_toArray, List.set_cons_zero, List.set_cons_succ]
          refine wpAnyH_take (i := 16) (oi := { dst := some 101, op := Op.load 22 (Operand.tmp 3), type := 22, pos := "theorem.go:31", after := #[{ on := 9, ground := Ground.guard }], guard := some (9, true) }) (v := ?v16a) rfl (by kernel_rfl) (by kernel_rfl) (by kernel_rfl) (fun _ _ _ h => h) (Or.inl ⟨by rfl, ?hy16a⟩) (by exact S1) ?_
          case hy16a => (intro w hSw; (try dsimp only at hSw); go_simp; try (with_reducible rfl))
          try simp only [Act.put, List.setIfInBounds_toArray, List.set_cons_zero, List.set_cons_succ]
          refine wpAnyH_take (i := 17) (oi := { dst := some 102, op := Op.binOp BinOp.eql 22 (Operand.tmp 100) (Operand.tmp 101) 22, type := 4, pos := "theorem.go:31", after := #[{ on := 15, ground := Ground.data }, { on := 16, ground := Ground.data }, { on := 9, ground := Ground.guard }], guard := some (9, true) }) (v := ?v17a) rfl (by kernel_rfl) (by kernel_rfl) (by kernel_rfl) (fun _ _ _ h => h) (Or.inl ⟨by rfl, ?hy17a⟩) (by exact S1) ?_
          case hy17a => (intro w hSw; (try dsimp only at hSw); go_simp; try (with_reducible rfl))
          try simp only [Act.put, List.setIfInBounds_toArray, List.set_cons_zero, List.set_cons_succ]
          refine wpAnyH_take (i := 18) (oi := { dst := some 103, op := Op.binOp BinOp.eql 4 (Operand.tmp 99) (Operand.tmp 102) 4, type := 4, pos := "theorem.go:31", after := #[{ on := 14, ground := Ground.data }, { on := 17, ground := Ground.data }, { on := 9, ground := Ground.guard }], guard := some (9, true) }) (v := ?v18a) rfl (by kernel_rfl) (by kernel_rfl) (by kernel_rfl) (fun _ _ _ h => h) (Or.inl ⟨by rfl, ?hy18a⟩) (by exact S1) ?_
          case hy18a => (intro w hSw; (try dsimp only at hSw); go_simp; try (with_reducible rfl))
          try simp only [Act.put, List.setIfInBounds_toArray, List.set_cons_zero, List.set_cons_succ]
          refine wpAnyH_take (i := 19) (oi := { dst := some 104, op := Op.pick (Operand.tmp 94) (Operand.tmp 103) (Operand.const (Value.bool false)), type := 4, pos := "theorem.go:31", after := #[{ on := 9, ground := Ground.data }, { on := 18, ground := Ground.data }], guard := none }) (v := ?v19a) rfl (by kernel_rfl) (by kernel_rfl) (by kernel_rfl) (fun _ _ _ h => h) (Or.inl ⟨by rfl, ?hy19a⟩) (by exact S1) ?_
          case hy19a => (intro w hSw; (try dsimp only at hSw); go_simp; try (with_reducible rfl))
          try simp only [Act.put, List.setIfInBounds_toArray, List.set_cons_zero, List.set_cons_succ]
          refine wpAnyH_take (i := 20) (oi := { dst := some 105, op := Op.move (Operand.tmp 104), type := 4, pos := "theorem.go:31", after := #[{ on := 19, ground := Ground.data }, { on := 9, ground := Ground.chain }], guard := none }) (v := ?v20a) rfl (by kernel_rfl) (by kernel_rfl) (by kernel_rfl) (fun _ _ _ h => h) (Or.inl ⟨by rfl, ?hy20a⟩) (by exact S1) ?_
          case hy20a => (intro w hSw; (try dsimp only at hSw); go_simp; try (with_reducible rfl))
          try simp only [Act.put, List.setIfInBounds_toArray, List.set_cons_zero, List.set_cons_succ]
          refine wpAnyH_take (i := 21) (oi := { dst := some 106, op := Op.fieldAddr 33 (Operand.tmp 11) 5, type := 0, pos := "theorem.go:31", after := #[{ on := 20, ground := Ground.guard }], guard := some (20, true) }) (v := ?v21a) rfl (by kernel_rfl) (by kernel_rfl) (by kernel_rfl) (fun _ _ _ h => h) (Or.inl ⟨by rfl, ?hy21a⟩) (by exact S1) ?_
          case hy21a => (intro w hSw; (try dsimp only at hSw); go_simp; try (with_reducible rfl))
          try simp only [Act.put, List.setIfInBounds_toArray, List.set_cons_zero, List.set_cons_succ]
          refine wpAnyH_take (i := 22) (oi := { dst := some 107, op := Op.load 3 (Operand.tmp 106), type := 3, pos := "theorem.go:31", after := #[{ on := 21, ground := Ground.data }, { on := 20, ground := Ground.guard }], guard := some (20, true) }) (v := ?v22a) rfl (by kernel_rfl) (by kernel_rfl) (by kernel_rfl) (fun _ _ _ h => h) (Or.inl ⟨by rfl, ?hy22a⟩) (by exact S1) ?_
          case hy22a => (intro w hSw; (try dsimp only at hSw); go_simp; try (with_reducible rfl))
          try simp only [Act.put, List.setIfInBounds_toArray, List.set_cons_zero, List.set_cons_succ]
          refine wpAnyH_take (i := 23) (oi := { dst := some 108, op := Op.fieldAddr 33 (Operand.tmp 13) 5, type := 0, pos := "theorem.go:31", after := #[{ on := 20, ground := Ground.guard }], guard := some (20, true) }) (v := ?v23a) rfl (by kernel_rfl) (by kernel_rfl) (by kernel_rfl) (fun _ _ _ h => h) (Or.inl ⟨by rfl, ?hy23a⟩) (by exact S1) ?_
          case hy23a => (intro w hSw; (try dsimp only at hSw); go_simp; try (with_reducible rfl))
          try simp only [Act.put, List.setIfInBounds_toArray, List.set_cons_zero, List.set_cons_succ]
          refine wpAnyH_take (i := 24) (oi := { dst := some 109, op := Op.load 3 (Operand.tmp 108), type := 3, pos := "theorem.go:31", after := #[{ on := 23, ground := Ground.data }, { on := 20, ground := Ground.guard }], guard := some (20, true) }) (v := ?v24a) rfl (by kernel_rfl) (by kernel_rfl) (by kernel_rfl) (fun _ _ _ h => h) (Or.inl ⟨by rfl, ?hy24a⟩) (by exact S1) ?_
          case hy24a => (intro w hSw; (try dsimp only at hSw); go_simp; try (with_reducible rfl))
          try simp only [Act.put, List.setIfInBounds_toArray, List.set_cons_zero, List.set_cons_succ]
          refine wpAnyH_take (i := 25) (oi := { dst := some 110, op := Op.binOp BinOp.eql 3 (Operand.tmp 107) (Operand.tmp 109) 3, type := 4, pos := "theorem.go:31", after := #[{ on := 22, ground := Ground.data }, { on := 24, ground := Ground.data }, { on := 20, ground := Ground.guard }], guard := some (20, true) }) (v := ?v25a) rfl (by kernel_rfl) (by kernel_rfl) (by kernel_rfl) (fun _ _ _ h => h) (Or.inl ⟨by rfl, ?hy25a⟩) (by exact S1) ?_
          case hy25a => (intro w hSw; (try dsimp only at hSw); go_simp; try (with_reducible rfl))
          try simp only [Act.put, List.setIfInBounds_toArray, List.set_cons_zero, List.set_cons_succ]
          refine wpAnyH_take (i := 26) (oi := { dst := some 111, op := Op.load 22 (Operand.tmp 2), type := 22, pos := "theorem.go:31", after := #[{ on := 20, ground := Ground.guard }], guard := some (20, true) }) (v := ?v26a) rfl (by kernel_rfl) (by kernel_rfl) (by kernel_rfl) (fun _ _ _ h => h) (Or.inl ⟨by rfl, ?hy26a⟩) (by exact S1) ?_
          case hy26a => (intro w hSw; (try dsimp only at hSw); go_simp; try (with_reducible rfl))
          try simp only [Act.put, List.setIfInBounds_toArray, List.set_cons_zero, List.set_cons_succ]
          refine wpAnyH_take (i := 27) (oi := { dst := some 112, op := Op.load 22 (Operand.tmp 3), type := 22, pos := "theorem.go:31", after := #[{ on := 20, ground := Ground.guard }], guard := some (20, true) }) (v := ?v27a) rfl (by kernel_rfl) (by kernel_rfl) (by kernel_rfl) (fun _ _ _ h => h) (Or.inl ⟨by rfl, ?hy27a⟩) (by exact S1) ?_
          case hy27a => (intro w hSw; (try dsimp only at hSw); go_simp; try (with_reducible rfl))
          try simp only [Act.put, List.setIfInBounds_toArray, List.set_cons_zero, List.set_cons_succ]
          refine wpAnyH_take (i := 28) (oi := { dst := some 113, op := Op.binOp BinOp.eql 22 (Operand.tmp 111) (Operand.tmp 112) 22, type := 4, pos := "theorem.go:31", after := #[{ on := 26, ground := Ground.data }, { on := 27, ground := Ground.data }, { on := 20, ground := Ground.guard }], guard := some (20, true) }) (v := ?v28a) rfl (by kernel_rfl) (by kernel_rfl) (by kernel_rfl) (fun _ _ _ h => h) (Or.inl ⟨by rfl, ?hy28a⟩) (by exact S1) ?_
          case hy28a => (intro w hSw; (try dsimp only at hSw); go_simp; try (with_reducible rfl))
          try simp only [Act.put, List.setIfInBounds_toArray, List.set_cons_zero, List.set_cons_succ]
          refine wpAnyH_take (i := 29) (oi := { dst := some 114, op := Op.binOp BinOp.eql 4 (Operand.tmp 110) (Operand.tmp 113) 4, type := 4, pos := "theorem.go:31", after := #[{ on := 25, ground := Ground.data }, { on := 28, ground := Ground.data }, { on := 20, ground := Ground.guard }], guard := some (20, true) }) (v := ?v29a) rfl (by kernel_rfl) (by kernel_rfl) (by kernel_rfl) (fun _ _ _ h => h) (Or.inl ⟨by rfl, ?hy29a⟩) (by exact S1) ?_
          case hy29a => (intro w hSw; (try dsimp only at hSw); go_simp; try (with_reducible rfl))
          try simp only [Act.put, List.setIfInBounds_toArray, List.set_cons_zero, List.set_cons_succ]
          refine wpAnyH_take (i := 30) (oi := { dst := some 115, op := Op.pick (Operand.tmp 105) (Operand.tmp 114) (Operand.const (Value.bool false)), type := 4, pos := "theorem.go:31", after := #[{ on := 20, ground := Ground.data }, { on := 29, ground := Ground.data }], guard := none }) (v := ?v30a) rfl (by kernel_rfl) (by kernel_rfl) (by kernel_rfl) (fun _ _ _ h => h) (Or.inl ⟨by rfl, ?hy30a⟩) (by exact S1) ?_
          case hy30a => (intro w hSw; (try dsimp only at hSw); go_simp; try (with_reducible rfl))
          try simp only [Act.put, List.setIfInBounds_toArray, List.set_cons_zero, List.set_cons_succ]
          refine wpAnyH_take (i := 31) (oi := { dst := some 116, op := Op.move (Operand.tmp 115), type := 4, pos := "theorem.go:31", after := #[{ on := 30, ground := Ground.data }, { on := 20, ground := Ground.chain }], guard := none }) (v := ?v31a) rfl (by kernel_rfl) (by kernel_rfl) (by kernel_rfl) (fun _ _ _ h => h) (Or.inl ⟨by rfl, ?hy31a⟩) (by exact S1) ?_
          case hy31a => (intro w hSw; (try dsimp only at hSw); go_simp; try (with_reducible rfl))
          try simp only [Act.put, List.setIfInBounds_toArray, List.set_cons_zero, List.set_cons_succ]
          refine wpAnyH_take (i := 32) (oi := { dst := some 117, op := Op.fieldAddr 33 (Operand.tmp 11) 0, type := 0, pos := "theorem.go:31", after := #[{ on := 31, ground := Ground.guard }], guard := some (31, true) }) (v := ?v32a) rfl (by kernel_rfl) (by kernel_rfl) (by kernel_rfl) (fun _ _ _ h => h) (Or.inl ⟨by rfl, ?hy32a⟩) (by exact S1) ?_
          case hy32a => (intro w hSw; (try dsimp only at hSw); go_simp; try (with_reducible rfl))
          try simp only [Act.put, List.setIfInBounds_toArray, List.set_cons_zero, List.set_cons_succ]
          refine wpAnyH_take (i := 33) (oi := { dst := some 118, op := Op.load 3 (Operand.tmp 117), type := 3, pos := "theorem.go:31", after := #[{ on := 32, ground := Ground.data }, { on := 31, ground := Ground.guard }], guard := some (31, true) }) (v := ?v33a) rfl (by kernel_rfl) (by kernel_rfl) (by kernel_rfl) (fun _ _ _ h => h) (Or.inl ⟨by rfl, ?hy33a⟩) (by exact S1) ?_
          case hy33a => (intro w hSw; (try dsimp only at hSw); go_simp; try (with_reducible rfl))
          try simp only [Act.put, List.setIfInBounds_toArray, List.set_cons_zero, List.set_cons_succ]
          refine wpAnyH_take (i := 34) (oi := { dst := some 119, op := Op.fieldAddr 33 (Operand.tmp 13) 0, type := 0, pos := "theorem.go:31", after := #[{ on := 31, ground := Ground.guard }], guard := some (31, true) }) (v := ?v34a) rfl (by kernel_rfl) (by kernel_rfl) (by kernel_rfl) (fun _ _ _ h => h) (Or.inl ⟨by rfl, ?hy34a⟩) (by exact S1) ?_
          case hy34a => (intro w hSw; (try dsimp only at hSw); go_simp; try (with_reducible rfl))
          try simp only [Act.put, List.setIfInBounds_toArray, List.set_cons_zero, List.set_cons_succ]
          refine wpAnyH_take (i := 35) (oi := { dst := some 120, op := Op.load 3 (Operand.tmp 119), type := 3, pos := "theorem.go:31", after := #[{ on := 34, ground := Ground.data }, { on := 31, ground := Ground.guard }], guard := some (31, true) }) (v := ?v35a) rfl (by kernel_rfl) (by kernel_rfl) (by kernel_rfl) (fun _ _ _ h => h) (Or.inl ⟨by rfl, ?hy35a⟩) (by exact S1) ?_
          case hy35a => (intro w hSw; (try dsimp only at hSw); go_simp; try (with_reducible rfl))
          try simp only [Act.put, List.setIfInBounds_toArray, List.set_cons_zero, List.set_cons_succ]
          refine wpAnyH_take (i := 36) (oi := { dst := some 121, op := Op.binOp BinOp.eql 3 (Operand.tmp 118) (Operand.tmp 120) 3, type := 4, pos := "theorem.go:31", after := #[{ on := 33, ground := Ground.data }, { on := 35, ground := Ground.data }, { on := 31, ground := Ground.guard }], guard := some (31, true) }) (v := ?v36a) rfl (by kernel_rfl) (by kernel_rfl) (by kernel_rfl) (fun _ _ _ h => h) (Or.inl ⟨by rfl, ?hy36a⟩) (by exact S1) ?_
          case hy36a => (intro w hSw; (try dsimp only at hSw); go_simp; try (with_reducible rfl))
          try simp only [Act.put, List.setIfInBounds_toArray, List.set_cons_zero, List.set_cons_succ]
          refine wpAnyH_take (i := 37) (oi := { dst := some 122, op := Op.indexAddr 22 (Operand.tmp 2) (Operand.const (Value.int IntKind.i64 0)), type := 0, pos := "theorem.go:31", after := #[{ on := 31, ground := Ground.guard }], guard := some (31, true) }) (v := ?v37a) rfl (by kernel_rfl) (by kernel_rfl) (by kernel_rfl) (fun _ _ _ h => h) (Or.inl ⟨by rfl, ?hy37a⟩) (by exact S1) ?_
          case hy37a => (intro w hSw; (try dsimp only at hSw); go_simp; try (with_reducible rfl))
          try simp only [Act.put, List.setIfInBounds_toArray, List.set_cons_zero, List.set_cons_succ]
          refine wpAnyH_take (i := 38) (oi := { dst := some 123, op := Op.load 4 (Operand.tmp 122), type := 4, pos := "theorem.go:31", after := #[{ on := 37, ground := Ground.data }, { on := 31, ground := Ground.guard }], guard := some (31, true) }) (v := ?v38a) rfl (by kernel_rfl) (by kernel_rfl) (by kernel_rfl) (fun _ _ _ h => h) (Or.inl ⟨by rfl, ?hy38a⟩) (by exact S1) ?_
          case hy38a => (intro w hSw; (try dsimp only at hSw); go_simp; try (with_reducible rfl))
          try simp only [Act.put, List.setIfInBounds_toArray, List.set_cons_zero, List.set_cons_succ]
          refine wpAnyH_take (i := 39) (oi := { dst := some 124, op := Op.indexAddr 22 (Operand.tmp 3) (Operand.const (Value.int IntKind.i64 0)), type := 0, pos := "theorem.go:31", after := #[{ on := 31, ground := Ground.guard }], guard := some (31, true) }) (v := ?v39a) rfl (by kernel_rfl) (by kernel_rfl) (by kernel_rfl) (fun _ _ _ h => h) (Or.inl ⟨by rfl, ?hy39a⟩) (by exact S1) ?_
          case hy39a => (intro w hSw; (try dsimp only at hSw); go_simp; try (with_reducible rfl))
          try simp only [Act.put, List.setIfInBounds_toArray, List.set_cons_zero, List.set_cons_succ]
          refine wpAnyH_take (i := 40) (oi := { dst := some 125, op := Op.load 4 (Operand.tmp 124), type := 4, pos := "theorem.go:31", after := #[{ on := 39, ground := Ground.data }, { on := 31, ground := Ground.guard }], guard := some (31, true) }) (v := ?v40a) rfl (by kernel_rfl) (by kernel_rfl) (by kernel_rfl) (fun _ _ _ h => h) (Or.inl ⟨by rfl, ?hy40a⟩) (by exact S1) ?_
          case hy40a => (intro w hSw; (try dsimp only at hSw); go_simp; try (with_reducible rfl))
          try simp only [Act.put, List.setIfInBounds_toArray, List.set_cons_zero, List.set_cons_succ]
          refine wpAnyH_take (i := 41) (oi := { dst := some 126, op := Op.binOp BinOp.eql 4 (Operand.tmp 123) (Operand.tmp 125) 4, type := 4, pos := "theorem.go:31", after := #[{ on := 38, ground := Ground.data }, { on := 40, ground := Ground.data }, { on := 31, ground := Ground.guard }], guard := some (31, true) }) (v := ?v41a) rfl (by kernel_rfl) (by kernel_rfl) (by kernel_rfl) (fun _ _ _ h => h) (Or.inl ⟨by rfl, ?hy41a⟩) (by exact S1) ?_
          case hy41a => (intro w hSw; (try dsimp only at hSw); go_simp; try (with_reducible rfl))
          try simp only [Act.put, List.setIfInBounds_toArray, List.set_cons_zero, List.set_cons_succ]
          refine wpAnyH_take (i := 42) (oi := { dst := some 127, op := Op.move (Operand.tmp 126), type := 4, pos := "theorem.go:31", after := #[{ on := 41, ground := Ground.data }, { on := 31, ground := Ground.chain }, { on := 31, ground := Ground.guard }], guard := some (31, true) }) (v := ?v42a) rfl (by kernel_rfl) (by kernel_rfl) (by kernel_rfl) (fun _ _ _ h => h) (Or.inl ⟨by rfl, ?hy42a⟩) (by exact S1) ?_
          case hy42a => (intro w hSw; (try dsimp only at hSw); go_simp; try (with_reducible rfl))
          try simp only [Act.put, List.setIfInBounds_toArray, List.set_cons_zero, List.set_cons_succ]
          refine wpAnyH_take (i := 43) (oi := { dst := some 128, op := Op.indexAddr 22 (Operand.tmp 2) (Operand.const (Value.int IntKind.i64 1)), type := 0, pos := "theorem.go:31", after := #[{ on := 42, ground := Ground.guard }], guard := some (42, true) }) (v := undef) rfl (by kernel_rfl) (by kernel_rfl) (by kernel_rfl) (fun _ _ _ h => h) (Or.inr ⟨by rfl, rfl⟩) (by exact S1) ?_
          try simp only [Act.put, List.setIfInBounds_toArray, List.set_cons_zero, List.set_cons_succ]
          refine wpAnyH_take (i := 44) (oi := { dst := some 129, op := Op.load 4 (Operand.tmp 128), type := 4, pos := "theorem.go:31", after := #[{ on := 43, ground := Ground.data }, { on := 42, ground := Ground.guard }], guard := some (42, true) }) (v := undef) rfl (by kernel_rfl) (by kernel_rfl) (by kernel_rfl) (fun _ _ _ h => h) (Or.inr ⟨by rfl, rfl⟩) (by exact S1) ?_
          try simp only [Act.put, List.setIfInBounds_toArray, List.set_cons_zero, List.set_cons_succ]
          refine wpAnyH_take (i := 45) (oi := { dst := some 130, op := Op.indexAddr 22 (Operand.tmp 3) (Operand.const (Value.int IntKind.i64 1)), type := 0, pos := "theorem.go:31", after := #[{ on := 42, ground := Ground.guard }], guard := some (42, true) }) (v := undef) rfl (by kernel_rfl) (by kernel_rfl) (by kernel_rfl) (fun _ _ _ h => h) (Or.inr ⟨by rfl, rfl⟩) (by exact S1) ?_
          try simp only [Act.put, List.setIfInBounds_toArray, List.set_cons_zero, List.set_cons_succ]
          refine wpAnyH_take (i := 46) (oi := { dst := some 131, op := Op.load 4 (Operand.tmp 130), type := 4, pos := "theorem.go:31", after := #[{ on := 45, ground := Ground.data }, { on := 42, ground := Ground.guard }], guard := some (42, true) }) (v := undef) rfl (by kernel_rfl) (by kernel_rfl) (by kernel_rfl) (fun _ _ _ h => h) (Or.inr ⟨by rfl, rfl⟩) (by exact S1) ?_
          try simp only [Act.put, List.setIfInBounds_toArray, List.set_cons_zero, List.set_cons_succ]
          refine wpAnyH_take (i := 47) (oi := { dst := some 132, op := Op.binOp BinOp.eql 4 (Operand.tmp 129) (Operand.tmp 131) 4, type := 4, pos := "theorem.go:31", after := #[{ on := 44, ground := Ground.data }, { on := 46, ground := Ground.data }, { on := 42, ground := Ground.guard }], guard := some (42, true) }) (v := undef) rfl (by kernel_rfl) (by kernel_rfl) (by kernel_rfl) (fun _ _ _ h => h) (Or.inr ⟨by rfl, rfl⟩) (by exact S1) ?_
          try simp only [Act.put, List.setIfInBounds_toArray, List.set_cons_zero, List.set_cons_succ]
          refine wpAnyH_take (i := 48) (oi := { dst := some 133, op := Op.pick (Operand.tmp 127) (Operand.tmp 132) (Operand.const (Value.bool false)), type := 4, pos := "theorem.go:31", after := #[{ on := 42, ground := Ground.data }, { on := 47, ground := Ground.data }, { on := 31, ground := Ground.guard }], guard := some (31, true) }) (v := ?v48a) rfl (by kernel_rfl) (by kernel_rfl) (by kernel_rfl) (fun _ _ _ h => h) (Or.inl ⟨by rfl, ?hy48a⟩) (by exact S1) ?_
          case hy48a => (intro w hSw; (try dsimp only at hSw); go_simp; try (with_reducible rfl))
          try simp only [Act.put, List.setIfInBounds_toArray, List.set_cons_zero, List.set_cons_succ]
          refine wpAnyH_take (i := 49) (oi := { dst := some 134, op := Op.binOp BinOp.eql 4 (Operand.tmp 121) (Operand.tmp 133) 4, type := 4, pos := "theorem.go:31", after := #[{ on := 36, ground := Ground.data }, { on := 48, ground := Ground.data }, { on := 31, ground := Ground.guard }], guard := some (31, true) }) (v := ?v49a) rfl (by kernel_rfl) (by kernel_rfl) (by kernel_rfl) (fun _ _ _ h => h) (Or.inl ⟨by rfl, ?hy49a⟩) (by exact S1) ?_
          case hy49a => (intro w hSw; (try dsimp only at hSw); go_simp; try (with_reducible rfl))
          try simp only [Act.put, List.setIfInBounds_toArray, List.set_cons_zero, List.set_cons_succ]
          refine wpAnyH_take (i := 50) (oi := { dst := some 135, op := Op.pick (Operand.tmp 116) (Operand.tmp 134) (Operand.const (Value.bool false)), type := 4, pos := "theorem.go:31", after := #[{ on := 31, ground := Ground.data }, { on := 49, ground := Ground.data }], guard := none }) (v := ?v50a) rfl (by kernel_rfl) (by kernel_rfl) (by kernel_rfl) (fun _ _ _ h => h) (Or.inl ⟨by rfl, ?hy50a⟩) (by exact S1) ?_
          case hy50a => (intro w hSw; (try dsimp only at hSw); go_simp; try (with_reducible rfl))
          try simp only [Act.put, List.setIfInBounds_toArray, List.set_cons_zero, List.set_cons_succ]
          refine wpAnyH_take (i := 51) (oi := { dst := some 136, op := Op.move (Operand.tmp 135), type := 4, pos := "theorem.go:31", after := #[{ on := 50, ground := Ground.data }, { on := 42, ground := Ground.chain }], guard := none }) (v := ?v51a) rfl (by kernel_rfl) (by kernel_rfl) (by kernel_rfl) (fun _ _ _ h => h) (Or.inl ⟨by rfl, ?hy51a⟩) (by exact S1) ?_
          case hy51a => (intro w hSw; (try dsimp only at hSw); go_simp; try (with_reducible rfl))
          try simp only [Act.put, List.setIfInBounds_toArray, List.set_cons_zero, List.set_cons_succ]
          refine wpAnyH_ready (rs := [52]) (by kernel_rfl) (by simp) ?_
          refine AllReadyH.cons (o := { dst := some 137, op := Op.call { callee := Callee.value (Operand.func 6), args := #[], argTypes := #[] }, type := 4, pos := "theorem.go:31", after := #[{ on := 51, ground := Ground.chain }, { on := 51, ground := Ground.guard }], guard := some (51, true) }) rfl (fun K hK => ?_) AllReadyH.nil
          go_simp
          refine (unhide KE9).mono ?_
          rintro e z9 ⟨rfl, yb⟩
          have S9 := unhide CC _ yb
          go_wp2_with fail
          refine hK.out _ _ S9 (fun _ => ?_)
          clear hK K
          try simp only [Act.put, List.setIfInBounds_toArray, List.set_cons_zero, List.set_cons_succ]
          refine wpAnyH_take (i := 53) (oi := { dst := some 138, op := Op.pick (Operand.tmp 136) (Operand.tmp 137) (Operand.const (Value.bool false)), type := 4, pos := "theorem.go:31", after := #[{ on := 51, ground := Ground.data }, { on := 52, ground := Ground.data }], guard := none }) (v := ?v53a) rfl (by kernel_rfl) (by kernel_rfl) (by kernel_rfl) (fun _ _ _ h => h) (Or.inl ⟨by rfl, ?hy53a⟩) (by exact S9) ?_
          case hy53a => (intro w hSw; (try dsimp only at hSw); go_simp; try (with_reducible rfl))
          try simp only [Act.put, List.setIfInBounds_toArray, List.set_cons_zero, List.set_cons_succ]
          refine wpAnyH_take (i := 54) (oi := { dst := some 4, op := Op.assign (Operand.tmp 138), type := 4, pos := "theorem.go:31", after := #[{ on := 53, ground := Ground.data }, { on := 52, ground := Ground.chain }, { on := 0, ground := Ground.phase }, { on := 1, ground := Ground.phase }, { on := 2, ground := Ground.phase }, { on := 3, ground := Ground.phase }, { on := 4, ground := Ground.phase }, { on := 5, ground := Ground.phase }, { on := 6, ground := Ground.phase }, { on := 7, ground := Ground.phase }, { on := 8, ground := Ground.phase }, { on := 9, ground := Ground.phase }, { on := 10, ground := Ground.phase }, { on := 11, ground := Ground.phase }, { on := 12, ground := Ground.phase }, { on := 13, ground := Ground.phase }, { on := 14, ground := Ground.phase }, { on := 15, ground := Ground.phase }, { on := 16, ground := Ground.phase }, { on := 17, ground := Ground.phase }, { on := 18, ground := Ground.phase }, { on := 19, ground := Ground.phase }, { on := 20, ground := Ground.phase }, { on := 21, ground := Ground.phase }, { on := 22, ground := Ground.phase }, { on := 23, ground := Ground.phase }, { on := 24, ground := Ground.phase }, { on := 25, ground := Ground.phase }, { on := 26, ground := Ground.phase }, { on := 27, ground := Ground.phase }, { on := 28, ground := Ground.phase }, { on := 29, ground := Ground.phase }, { on := 30, ground := Ground.phase }, { on := 31, ground := Ground.phase }, { on := 32, ground := Ground.phase }, { on := 33, ground := Ground.phase }, { on := 34, ground := Ground.phase }, { on := 35, ground := Ground.phase }, { on := 36, ground := Ground.phase }, { on := 37, ground := Ground.phase }, { on := 38, ground := Ground.phase }, { on := 39, ground := Ground.phase }, { on := 40, ground := Ground.phase }, { on := 41, ground := Ground.phase }, { on := 42, ground := Ground.phase }, { on := 43, ground := Ground.phase }, { on := 44, ground := Ground.phase }, { on := 45, ground := Ground.phase }, { on := 46, ground := Ground.phase }, { on := 47, ground := Ground.phase }, { on := 48, ground := Ground.phase }, { on := 49, ground := Ground.phase }, { on := 50, ground := Ground.phase }, { on := 51, ground := Ground.phase }, { on := 52, ground := Ground.phase }, { on := 53, ground := Ground.phase }], guard := none }) (v := ?v54a) rfl (by kernel_rfl) (by kernel_rfl) (by kernel_rfl) (fun _ _ _ h => h) (Or.inl ⟨by rfl, ?hy54a⟩) (by exact S9) ?_
          case hy54a => (intro w hSw; (try dsimp only at hSw); go_simp; try (with_reducible rfl))
          try simp only [Act.put, List.setIfInBounds_toArray, List.set_cons_zero, List.set_cons_succ]
          refine wpAnyH_done (by kernel_rfl) ?_ _
          refine NoPanic.normal ?_
          go_wp2_with fail
          go_ret
          exact ⟨rfl, unhide HBw _ (bw_tr (unhide B5) yb)⟩
        · cases c1
          · have e0' : (p0 == q0) = false := e0
            have f0' : decide (p0 = q0) = false := f0
            clear e0 f0
            refine wp_region_noPanic ?_
            refine wp_region_held_drew (S := fun w' : World => w'.cell? ⟨pb, 0, none⟩ = some (.int .i64 p0) ∧ w'.cell? ⟨pb, 1, none⟩ = some (.int .i64 p1) ∧ w'.cell? ⟨pb, 2, none⟩ = some (.int .i64 p2) ∧ w'.cell? ⟨pb, 5, none⟩ = some (.int .i64 p5) ∧ w'.cell? ⟨qb, 0, none⟩ = some (.int .i64 q0) ∧ w'.cell? ⟨qb, 1, none⟩ = some (.int .i64 q1) ∧ w'.cell? ⟨qb, 2, none⟩ = some (.int .i64 q2) ∧ w'.cell? ⟨qb, 5, none⟩ = some (.int .i64 q5) ∧ w'.cell? ⟨w.heap.size, 0, none⟩ = some (.bool a0) ∧ w'.cell? ⟨w.heap.size, 1, none⟩ = some (.bool a1) ∧ w'.cell? ⟨w.heap.size, 2, none⟩ = some (.bool a2) ∧ w'.cell? ⟨w.heap.size + 1, 0, none⟩ = some (.bool b0) ∧ w'.cell? ⟨w.heap.size + 1, 1, none⟩ = some (.bool b1) ∧ w'.cell? ⟨w.heap.size + 1, 2, none⟩ = some (.bool b2)) (by kernel_rfl) S1 (fun hHeld => ?_)
            refine wpAnyH_take (i := 0) (oi := { dst := some 85, op := Op.fieldAddr 33 (Operand.tmp 11) 1, type := 0, pos := "theorem.go:31", after := #[], guard := none }) (v := ?v0b) rfl (by kernel_rfl) (by kernel_rfl) (by kernel_rfl) (fun _ _ _ h => h) (Or.inl ⟨by rfl, ?hy0b⟩) (by exact S1) ?_
            case hy0b => (intro w hSw; (try dsimp only at hSw); go_simp; try (with_reducible rfl))
            try simp only [Act.put, List.setIfInBounds_toArray, List.set_cons_zero, List.set_cons_succ]
            refine wpAnyH_take (i := 1) (oi := { dst := some 86, op := Op.load 3 (Operand.tmp 85), type := 3, pos := "theorem.go:31", after := #[{ on := 0, ground := Ground.data }], guard := none }) (v := ?v1b) rfl (by kernel_rfl) (by kernel_rfl) (by kernel_rfl) (fun _ _ _ h => h) (Or.inl ⟨by rfl, ?hy1b⟩) (by exact S1) ?_
            case hy1b => (intro w hSw; (try dsimp only at hSw); go_simp; try (with_reducible rfl))
            try simp only [Act.put, List.setIfInBounds_toArray, List.set_cons_zero, List.set_cons_succ]
            refine wpAnyH_take (i := 2) (oi := { dst := some 87, op := Op.fieldAddr 33 (Operand.tmp 13) 1, type := 0, pos := "theorem.go:31", after := #[], guard := none }) (v := ?v2b) rfl (by kernel_rfl) (by kernel_rfl) (by kernel_rfl) (fun _ _ _ h => h) (Or.inl ⟨by rfl, ?hy2b⟩) (by exact S1) ?_
            case hy2b => (intro w hSw; (try dsimp only at hSw); go_simp; try (with_reducible rfl))
            try simp only [Act.put, List.setIfInBounds_toArray, List.set_cons_zero, List.set_cons_succ]
            refine wpAnyH_take (i := 3) (oi := { dst := some 88, op := Op.load 3 (Operand.tmp 87), type := 3, pos := "theorem.go:31", after := #[{ on := 2, ground := Ground.data }], guard := none }) (v := ?v3b) rfl (by kernel_rfl) (by kernel_rfl) (by kernel_rfl) (fun _ _ _ h => h) (Or.inl ⟨by rfl, ?hy3b⟩) (by exact S1) ?_
            case hy3b => (intro w hSw; (try dsimp only at hSw); go_simp; try (with_reducible rfl))
            try simp only [Act.put, List.setIfInBounds_toArray, List.set_cons_zero, List.set_cons_succ]
            refine wpAnyH_take (i := 4) (oi := { dst := some 89, op := Op.binOp BinOp.eql 3 (Operand.tmp 86) (Operand.tmp 88) 3, type := 4, pos := "theorem.go:31", after := #[{ on := 1, ground := Ground.data }, { on := 3, ground := Ground.data }], guard := none }) (v := ?v4b) rfl (by kernel_rfl) (by kernel_rfl) (by kernel_rfl) (fun _ _ _ h => h) (Or.inl ⟨by rfl, ?hy4b⟩) (by exact S1) ?_
            case hy4b => (intro w hSw; (try dsimp only at hSw); go_simp; try (with_reducible rfl))
            try simp only [Act.put, List.setIfInBounds_toArray, List.set_cons_zero, List.set_cons_succ]
            refine wpAnyH_take (i := 5) (oi := { dst := some 90, op := Op.load 22 (Operand.tmp 2), type := 22, pos := "theorem.go:31", after := #[], guard := none }) (v := ?v5b) rfl (by kernel_rfl) (by kernel_rfl) (by kernel_rfl) (fun _ _ _ h => h) (Or.inl ⟨by rfl, ?hy5b⟩) (by exact S1) ?_
            case hy5b => (intro w hSw; (try dsimp only at hSw); go_simp; try (with_reducible rfl))
            try simp only [Act.put, List.setIfInBounds_toArray, List.set_cons_zero, List.set_cons_succ]
            refine wpAnyH_take (i := 6) (oi := { dst := some 91, op := Op.load 22 (Operand.tmp 3), type := 22, pos := "theorem.go:31", after := #[], guard := none }) (v := ?v6b) rfl (by kernel_rfl) (by kernel_rfl) (by kernel_rfl) (fun _ _ _ h => h) (Or.inl ⟨by rfl, ?hy6b⟩) (by exact S1) ?_
            case hy6b => (intro w hSw; (try dsimp only at hSw); go_simp; try (with_reducible rfl))
            try simp only [Act.put, List.setIfInBounds_toArray, List.set_cons_zero, List.set_cons_succ]
            refine wpAnyH_take (i := 7) (oi := { dst := some 92, op := Op.binOp BinOp.eql 22 (Operand.tmp 90) (Operand.tmp 91) 22, type := 4, pos := "theorem.go:31", after := #[{ on := 5, ground := Ground.data }, { on := 6, ground := Ground.data }], guard := none }) (v := ?v7b) rfl (by kernel_rfl) (by kernel_rfl) (by kernel_rfl) (fun _ _ _ h => h) (Or.inl ⟨by rfl, ?hy7b⟩) (by exact S1) ?_
            case hy7b => (intro w hSw; (try dsimp only at hSw); go_simp; try (with_reducible rfl))
            try simp only [Act.put, List.setIfInBounds_toArray, List.set_cons_zero, List.set_cons_succ]
            refine wpAnyH_take (i := 8) (oi := { dst := some 93, op := Op.binOp BinOp.eql 4 (Operand.tmp 89) (Operand.tmp 92) 4, type := 4, pos := "theorem.go:31", after := #[{ on := 4, ground := Ground.data }, { on := 7, ground := Ground.data }], guard := none }) (v := ?v8b) rfl (by kernel_rfl) (by kernel_rfl) (by kernel_rfl) (fun _ _ _ h => h) (Or.inl ⟨by rfl, ?hy8b⟩) (by exact S1) ?_
            case hy8b => (intro w hSw; (try dsimp only at hSw); go_simp; try (with_reducible rfl))
            try simp only [Act.put, List.setIfInBounds_toArray, List.set_cons_zero, List.set_cons_succ]
            refine wpAnyH_take (i := 9) (oi := { dst := some 94, op := Op.move (Operand.tmp 93), type := 4, pos := "theorem.go:31", after := #[{ on := 8, ground := Ground.data }], guard := none }) (v := ?v9b) rfl (by kernel_rfl) (by kernel_rfl) (by kernel_rfl) (fun _ _ _ h => h) (Or.inl ⟨by rfl, ?hy9b⟩) (by exact S1) ?_
            case hy9b => (intro w hSw; (try dsimp only at hSw); go_simp; try (with_reducible rfl))
            try simp only [Act.put, List.setIfInBounds_toArray, List.set_cons_zero, List.set_cons_succ]
            refine wpAnyH_take (i := 10) (oi := { dst := some 95, op := Op.fieldAddr 33 (Operand.tmp 11) 2, type := 0, pos := "theorem.go:31", after := #[{ on := 9, ground := Ground.guard }], guard := some (9, true) }) (v := ?v10b) rfl (by kernel_rfl) (by kernel_rfl) (by kernel_rfl) (fun _ _ _ h => h) (Or.inl ⟨by rfl, ?hy10b⟩) (by exact S1) ?_
            case hy10b => (intro w hSw; (try dsimp only at hSw); go_simp; try (with_reducible rfl))
            try simp only [Act.put, List.setIfInBounds_toArray, List.set_cons_zero, List.set_cons_succ]
            refine wpAnyH_take (i := 11) (oi := { dst := some 96, op := Op.load 3 (Operand.tmp 95), type := 3, pos := "theorem.go:31", after := #[{ on := 10, ground := Ground.data }, { on := 9, ground := Ground.guard }], guard := some (9, true) }) (v := ?v11b) rfl (by kernel_rfl) (by kernel_rfl) (by kernel_rfl) (fun _ _ _ h => h) (Or.inl ⟨by rfl, ?hy11b⟩) (by exact S1) ?_
            case hy11b => (intro w hSw; (try dsimp only at hSw); go_simp; try (with_reducible rfl))
            try simp only [Act.put, List.setIfInBounds_toArray, List.set_cons_zero, List.set_cons_succ]
            refine wpAnyH_take (i := 12) (oi := { dst := some 97, op := Op.fieldAddr 33 (Operand.tmp 13) 2, type := 0, pos := "theorem.go:31", after := #[{ on := 9, ground := Ground.guard }], guard := some (9, true) }) (v := ?v12b) rfl (by kernel_rfl) (by kernel_rfl) (by kernel_rfl) (fun _ _ _ h => h) (Or.inl ⟨by rfl, ?hy12b⟩) (by exact S1) ?_
            case hy12b => (intro w hSw; (try dsimp only at hSw); go_simp; try (with_reducible rfl))
            try simp only [Act.put, List.setIfInBounds_toArray, List.set_cons_zero, List.set_cons_succ]
            refine wpAnyH_take (i := 13) (oi := { dst := some 98, op := Op.load 3 (Operand.tmp 97), type := 3, pos := "theorem.go:31", after := #[{ on := 12, ground := Ground.data }, { on := 9, ground := Ground.guard }], guard := some (9, true) }) (v := ?v13b) rfl (by kernel_rfl) (by kernel_rfl) (by kernel_rfl) (fun _ _ _ h => h) (Or.inl ⟨by rfl, ?hy13b⟩) (by exact S1) ?_
            case hy13b => (intro w hSw; (try dsimp only at hSw); go_simp; try (with_reducible rfl))
            try simp only [Act.put, List.setIfInBounds_toArray, List.set_cons_zero, List.set_cons_succ]
            refine wpAnyH_take (i := 14) (oi := { dst := some 99, op := Op.binOp BinOp.eql 3 (Operand.tmp 96) (Operand.tmp 98) 3, type := 4, pos := "theorem.go:31", after := #[{ on := 11, ground := Ground.data }, { on := 13, ground := Ground.data }, { on := 9, ground := Ground.guard }], guard := some (9, true) }) (v := ?v14b) rfl (by kernel_rfl) (by kernel_rfl) (by kernel_rfl) (fun _ _ _ h => h) (Or.inl ⟨by rfl, ?hy14b⟩) (by exact S1) ?_
            case hy14b => (intro w hSw; (try dsimp only at hSw); go_simp; try (with_reducible rfl))
            try simp only [Act.put, List.setIfInBounds_toArray, List.set_cons_zero, List.set_cons_succ]
            refine wpAnyH_take (i := 15) (oi := { dst := some 100, op := Op.load 22 (Operand.tmp 2), type := 22, pos := "theorem.go:31", after := #[{ on := 9, ground := Ground.guard }], guard := some (9, true) }) (v := ?v15b) rfl (by kernel_rfl) (by kernel_rfl) (by kernel_rfl) (fun _ _ _ h => h) (Or.inl ⟨by rfl, ?hy15b⟩) (by exact S1) ?_
            case hy15b => (intro w hSw; (try dsimp only at hSw); go_simp; try (with_reducible rfl))
            try simp only [Act.put, List.setIfInBounds_toArray, List.set_cons_zero, List.set_cons_succ]
            refine wpAnyH_take (i := 16) (oi := { dst := some 101, op := Op.load 22 (Operand.tmp 3), type := 22, pos := "theorem.go:31", after := #[{ on := 9, ground := Ground.guard }], guard := some (9, true) }) (v := ?v16b) rfl (by kernel_rfl) (by kernel_rfl) (by kernel_rfl) (fun _ _ _ h => h) (Or.inl ⟨by rfl, ?hy16b⟩) (by exact S1) ?_
            case hy16b => (intro w hSw; (try dsimp only at hSw); go_simp; try (with_reducible rfl))
            try simp only [Act.put, List.setIfInBounds_toArray, List.set_cons_zero, List.set_cons_succ]
            refine wpAnyH_take (i := 17) (oi := { dst := some 102, op := Op.binOp BinOp.eql 22 (Operand.tmp 100) (Operand.tmp 101) 22, type := 4, pos := "theorem.go:31", after := #[{ on := 15, ground := Ground.data }, { on := 16, ground := Ground.data }, { on := 9, ground := Ground.guard }], guard := some (9, true) }) (v := ?v17b) rfl (by kernel_rfl) (by kernel_rfl) (by kernel_rfl) (fun _ _ _ h => h) (Or.inl ⟨by rfl, ?hy17b⟩) (by exact S1) ?_
            case hy17b => (intro w hSw; (try dsimp only at hSw); go_simp; try (with_reducible rfl))
            try simp only [Act.put, List.setIfInBounds_toArray, List.set_cons_zero, List.set_cons_succ]
            refine wpAnyH_take (i := 18) (oi := { dst := some 103, op := Op.binOp BinOp.eql 4 (Operand.tmp 99) (Operand.tmp 102) 4, type := 4, pos := "theorem.go:31", after := #[{ on := 14, ground := Ground.data }, { on := 17, ground := Ground.data }, { on := 9, ground := Ground.guard }], guard := some (9, true) }) (v := ?v18b) rfl (by kernel_rfl) (by kernel_rfl) (by kernel_rfl) (fun _ _ _ h => h) (Or.inl ⟨by rfl, ?hy18b⟩) (by exact S1) ?_
            case hy18b => (intro w hSw; (try dsimp only at hSw); go_simp; try (with_reducible rfl))
            try simp only [Act.put, List.setIfInBounds_toArray, List.set_cons_zero, List.set_cons_succ]
            refine wpAnyH_take (i := 19) (oi := { dst := some 104, op := Op.pick (Operand.tmp 94) (Operand.tmp 103) (Operand.const (Value.bool false)), type := 4, pos := "theorem.go:31", after := #[{ on := 9, ground := Ground.data }, { on := 18, ground := Ground.data }], guard := none }) (v := ?v19b) rfl (by kernel_rfl) (by kernel_rfl) (by kernel_rfl) (fun _ _ _ h => h) (Or.inl ⟨by rfl, ?hy19b⟩) (by exact S1) ?_
            case hy19b => (intro w hSw; (try dsimp only at hSw); go_simp; try (with_reducible rfl))
            try simp only [Act.put, List.setIfInBounds_toArray, List.set_cons_zero, List.set_cons_succ]
            refine wpAnyH_take (i := 20) (oi := { dst := some 105, op := Op.move (Operand.tmp 104), type := 4, pos := "theorem.go:31", after := #[{ on := 19, ground := Ground.data }, { on := 9, ground := Ground.chain }], guard := none }) (v := ?v20b) rfl (by kernel_rfl) (by kernel_rfl) (by kernel_rfl) (fun _ _ _ h => h) (Or.inl ⟨by rfl, ?hy20b⟩) (by exact S1) ?_
            case hy20b => (intro w hSw; (try dsimp only at hSw); go_simp; try (with_reducible rfl))
            try simp only [Act.put, List.setIfInBounds_toArray, List.set_cons_zero, List.set_cons_succ]
            refine wpAnyH_take (i := 21) (oi := { dst := some 106, op := Op.fieldAddr 33 (Operand.tmp 11) 5, type := 0, pos := "theorem.go:31", after := #[{ on := 20, ground := Ground.guard }], guard := some (20, true) }) (v := ?v21b) rfl (by kernel_rfl) (by kernel_rfl) (by kernel_rfl) (fun _ _ _ h => h) (Or.inl ⟨by rfl, ?hy21b⟩) (by exact S1) ?_
            case hy21b => (intro w hSw; (try dsimp only at hSw); go_simp; try (with_reducible rfl))
            try simp only [Act.put, List.setIfInBounds_toArray, List.set_cons_zero, List.set_cons_succ]
            refine wpAnyH_take (i := 22) (oi := { dst := some 107, op := Op.load 3 (Operand.tmp 106), type := 3, pos := "theorem.go:31", after := #[{ on := 21, ground := Ground.data }, { on := 20, ground := Ground.guard }], guard := some (20, true) }) (v := ?v22b) rfl (by kernel_rfl) (by kernel_rfl) (by kernel_rfl) (fun _ _ _ h => h) (Or.inl ⟨by rfl, ?hy22b⟩) (by exact S1) ?_
            case hy22b => (intro w hSw; (try dsimp only at hSw); go_simp; try (with_reducible rfl))
            try simp only [Act.put, List.setIfInBounds_toArray, List.set_cons_zero, List.set_cons_succ]
            refine wpAnyH_take (i := 23) (oi := { dst := some 108, op := Op.fieldAddr 33 (Operand.tmp 13) 5, type := 0, pos := "theorem.go:31", after := #[{ on := 20, ground := Ground.guard }], guard := some (20, true) }) (v := ?v23b) rfl (by kernel_rfl) (by kernel_rfl) (by kernel_rfl) (fun _ _ _ h => h) (Or.inl ⟨by rfl, ?hy23b⟩) (by exact S1) ?_
            case hy23b => (intro w hSw; (try dsimp only at hSw); go_simp; try (with_reducible rfl))
            try simp only [Act.put, List.setIfInBounds_toArray, List.set_cons_zero, List.set_cons_succ]
            refine wpAnyH_take (i := 24) (oi := { dst := some 109, op := Op.load 3 (Operand.tmp 108), type := 3, pos := "theorem.go:31", after := #[{ on := 23, ground := Ground.data }, { on := 20, ground := Ground.guard }], guard := some (20, true) }) (v := ?v24b) rfl (by kernel_rfl) (by kernel_rfl) (by kernel_rfl) (fun _ _ _ h => h) (Or.inl ⟨by rfl, ?hy24b⟩) (by exact S1) ?_
            case hy24b => (intro w hSw; (try dsimp only at hSw); go_simp; try (with_reducible rfl))
            try simp only [Act.put, List.setIfInBounds_toArray, List.set_cons_zero, List.set_cons_succ]
            refine wpAnyH_take (i := 25) (oi := { dst := some 110, op := Op.binOp BinOp.eql 3 (Operand.tmp 107) (Operand.tmp 109) 3, type := 4, pos := "theorem.go:31", after := #[{ on := 22, ground := Ground.data }, { on := 24, ground := Ground.data }, { on := 20, ground := Ground.guard }], guard := some (20, true) }) (v := ?v25b) rfl (by kernel_rfl) (by kernel_rfl) (by kernel_rfl) (fun _ _ _ h => h) (Or.inl ⟨by rfl, ?hy25b⟩) (by exact S1) ?_
            case hy25b => (intro w hSw; (try dsimp only at hSw); go_simp; try (with_reducible rfl))
            try simp only [Act.put, List.setIfInBounds_toArray, List.set_cons_zero, List.set_cons_succ]
            refine wpAnyH_take (i := 26) (oi := { dst := some 111, op := Op.load 22 (Operand.tmp 2), type := 22, pos := "theorem.go:31", after := #[{ on := 20, ground := Ground.guard }], guard := some (20, true) }) (v := ?v26b) rfl (by kernel_rfl) (by kernel_rfl) (by kernel_rfl) (fun _ _ _ h => h) (Or.inl ⟨by rfl, ?hy26b⟩) (by exact S1) ?_
            case hy26b => (intro w hSw; (try dsimp only at hSw); go_simp; try (with_reducible rfl))
            try simp only [Act.put, List.setIfInBounds_toArray, List.set_cons_zero, List.set_cons_succ]
            refine wpAnyH_take (i := 27) (oi := { dst := some 112, op := Op.load 22 (Operand.tmp 3), type := 22, pos := "theorem.go:31", after := #[{ on := 20, ground := Ground.guard }], guard := some (20, true) }) (v := ?v27b) rfl (by kernel_rfl) (by kernel_rfl) (by kernel_rfl) (fun _ _ _ h => h) (Or.inl ⟨by rfl, ?hy27b⟩) (by exact S1) ?_
            case hy27b => (intro w hSw; (try dsimp only at hSw); go_simp; try (with_reducible rfl))
            try simp only [Act.put, List.setIfInBounds_toArray, List.set_cons_zero, List.set_cons_succ]
            refine wpAnyH_take (i := 28) (oi := { dst := some 113, op := Op.binOp BinOp.eql 22 (Operand.tmp 111) (Operand.tmp 112) 22, type := 4, pos := "theorem.go:31", after := #[{ on := 26, ground := Ground.data }, { on := 27, ground := Ground.data }, { on := 20, ground := Ground.guard }], guard := some (20, true) }) (v := ?v28b) rfl (by kernel_rfl) (by kernel_rfl) (by kernel_rfl) (fun _ _ _ h => h) (Or.inl ⟨by rfl, ?hy28b⟩) (by exact S1) ?_
            case hy28b => (intro w hSw; (try dsimp only at hSw); go_simp; try (with_reducible rfl))
            try simp only [Act.put, List.setIfInBounds_toArray, List.set_cons_zero, List.set_cons_succ]
            refine wpAnyH_take (i := 29) (oi := { dst := some 114, op := Op.binOp BinOp.eql 4 (Operand.tmp 110) (Operand.tmp 113) 4, type := 4, pos := "theorem.go:31", after := #[{ on := 25, ground := Ground.data }, { on := 28, ground := Ground.data }, { on := 20, ground := Ground.guard }], guard := some (20, true) }) (v := ?v29b) rfl (by kernel_rfl) (by kernel_rfl) (by kernel_rfl) (fun _ _ _ h => h) (Or.inl ⟨by rfl, ?hy29b⟩) (by exact S1) ?_
            case hy29b => (intro w hSw; (try dsimp only at hSw); go_simp; try (with_reducible rfl))
            try simp only [Act.put, List.setIfInBounds_toArray, List.set_cons_zero, List.set_cons_succ]
            refine wpAnyH_take (i := 30) (oi := { dst := some 115, op := Op.pick (Operand.tmp 105) (Operand.tmp 114) (Operand.const (Value.bool false)), type := 4, pos := "theorem.go:31", after := #[{ on := 20, ground := Ground.data }, { on := 29, ground := Ground.data }], guard := none }) (v := ?v30b) rfl (by kernel_rfl) (by kernel_rfl) (by kernel_rfl) (fun _ _ _ h => h) (Or.inl ⟨by rfl, ?hy30b⟩) (by exact S1) ?_
            case hy30b => (intro w hSw; (try dsimp only at hSw); go_simp; try (with_reducible rfl))
            try simp only [Act.put, List.setIfInBounds_toArray, List.set_cons_zero, List.set_cons_succ]
            refine wpAnyH_take (i := 31) (oi := { dst := some 116, op := Op.move (Operand.tmp 115), type := 4, pos := "theorem.go:31", after := #[{ on := 30, ground := Ground.data }, { on := 20, ground := Ground.chain }], guard := none }) (v := ?v31b) rfl (by kernel_rfl) (by kernel_rfl) (by kernel_rfl) (fun _ _ _ h => h) (Or.inl ⟨by rfl, ?hy31b⟩) (by exact S1) ?_
            case hy31b => (intro w hSw; (try dsimp only at hSw); go_simp; try (with_reducible rfl))
            try simp only [Act.put, List.setIfInBounds_toArray, List.set_cons_zero, List.set_cons_succ]
            refine wpAnyH_take (i := 32) (oi := { dst := some 117, op := Op.fieldAddr 33 (Operand.tmp 11) 0, type := 0, pos := "theorem.go:31", after := #[{ on := 31, ground := Ground.guard }], guard := some (31, true) }) (v := ?v32b) rfl (by kernel_rfl) (by kernel_rfl) (by kernel_rfl) (fun _ _ _ h => h) (Or.inl ⟨by rfl, ?hy32b⟩) (by exact S1) ?_
            case hy32b => (intro w hSw; (try dsimp only at hSw); go_simp; try (with_reducible rfl))
            try simp only [Act.put, List.setIfInBounds_toArray, List.set_cons_zero, List.set_cons_succ]
            refine wpAnyH_take (i := 33) (oi := { dst := some 118, op := Op.load 3 (Operand.tmp 117), type := 3, pos := "theorem.go:31", after := #[{ on := 32, ground := Ground.data }, { on := 31, ground := Ground.guard }], guard := some (31, true) }) (v := ?v33b) rfl (by kernel_rfl) (by kernel_rfl) (by kernel_rfl) (fun _ _ _ h => h) (Or.inl ⟨by rfl, ?hy33b⟩) (by exact S1) ?_
            case hy33b => (intro w hSw; (try dsimp only at hSw); go_simp; try (with_reducible rfl))
            try simp only [Act.put, List.setIfInBounds_toArray, List.set_cons_zero, List.set_cons_succ]
            refine wpAnyH_take (i := 34) (oi := { dst := some 119, op := Op.fieldAddr 33 (Operand.tmp 13) 0, type := 0, pos := "theorem.go:31", after := #[{ on := 31, ground := Ground.guard }], guard := some (31, true) }) (v := ?v34b) rfl (by kernel_rfl) (by kernel_rfl) (by kernel_rfl) (fun _ _ _ h => h) (Or.inl ⟨by rfl, ?hy34b⟩) (by exact S1) ?_
            case hy34b => (intro w hSw; (try dsimp only at hSw); go_simp; try (with_reducible rfl))
            try simp only [Act.put, List.setIfInBounds_toArray, List.set_cons_zero, List.set_cons_succ]
            refine wpAnyH_take (i := 35) (oi := { dst := some 120, op := Op.load 3 (Operand.tmp 119), type := 3, pos := "theorem.go:31", after := #[{ on := 34, ground := Ground.data }, { on := 31, ground := Ground.guard }], guard := some (31, true) }) (v := ?v35b) rfl (by kernel_rfl) (by kernel_rfl) (by kernel_rfl) (fun _ _ _ h => h) (Or.inl ⟨by rfl, ?hy35b⟩) (by exact S1) ?_
            case hy35b => (intro w hSw; (try dsimp only at hSw); go_simp; try (with_reducible rfl))
            try simp only [Act.put, List.setIfInBounds_toArray, List.set_cons_zero, List.set_cons_succ]
            refine wpAnyH_take (i := 36) (oi := { dst := some 121, op := Op.binOp BinOp.eql 3 (Operand.tmp 118) (Operand.tmp 120) 3, type := 4, pos := "theorem.go:31", after := #[{ on := 33, ground := Ground.data }, { on := 35, ground := Ground.data }, { on := 31, ground := Ground.guard }], guard := some (31, true) }) (v := ?v36b) rfl (by kernel_rfl) (by kernel_rfl) (by kernel_rfl) (fun _ _ _ h => h) (Or.inl ⟨by rfl, ?hy36b⟩) (by exact S1) ?_
            case hy36b => (intro w hSw; (try dsimp only at hSw); go_simp; try (with_reducible rfl))
            try simp only [Act.put, List.setIfInBounds_toArray, List.set_cons_zero, List.set_cons_succ]
            refine wpAnyH_take (i := 37) (oi := { dst := some 122, op := Op.indexAddr 22 (Operand.tmp 2) (Operand.const (Value.int IntKind.i64 0)), type := 0, pos := "theorem.go:31", after := #[{ on := 31, ground := Ground.guard }], guard := some (31, true) }) (v := ?v37b) rfl (by kernel_rfl) (by kernel_rfl) (by kernel_rfl) (fun _ _ _ h => h) (Or.inl ⟨by rfl, ?hy37b⟩) (by exact S1) ?_
            case hy37b => (intro w hSw; (try dsimp only at hSw); go_simp; try (with_reducible rfl))
            try simp only [Act.put, List.setIfInBounds_toArray, List.set_cons_zero, List.set_cons_succ]
            refine wpAnyH_take (i := 38) (oi := { dst := some 123, op := Op.load 4 (Operand.tmp 122), type := 4, pos := "theorem.go:31", after := #[{ on := 37, ground := Ground.data }, { on := 31, ground := Ground.guard }], guard := some (31, true) }) (v := ?v38b) rfl (by kernel_rfl) (by kernel_rfl) (by kernel_rfl) (fun _ _ _ h => h) (Or.inl ⟨by rfl, ?hy38b⟩) (by exact S1) ?_
            case hy38b => (intro w hSw; (try dsimp only at hSw); go_simp; try (with_reducible rfl))
            try simp only [Act.put, List.setIfInBounds_toArray, List.set_cons_zero, List.set_cons_succ]
            refine wpAnyH_take (i := 39) (oi := { dst := some 124, op := Op.indexAddr 22 (Operand.tmp 3) (Operand.const (Value.int IntKind.i64 0)), type := 0, pos := "theorem.go:31", after := #[{ on := 31, ground := Ground.guard }], guard := some (31, true) }) (v := ?v39b) rfl (by kernel_rfl) (by kernel_rfl) (by kernel_rfl) (fun _ _ _ h => h) (Or.inl ⟨by rfl, ?hy39b⟩) (by exact S1) ?_
            case hy39b => (intro w hSw; (try dsimp only at hSw); go_simp; try (with_reducible rfl))
            try simp only [Act.put, List.setIfInBounds_toArray, List.set_cons_zero, List.set_cons_succ]
            refine wpAnyH_take (i := 40) (oi := { dst := some 125, op := Op.load 4 (Operand.tmp 124), type := 4, pos := "theorem.go:31", after := #[{ on := 39, ground := Ground.data }, { on := 31, ground := Ground.guard }], guard := some (31, true) }) (v := ?v40b) rfl (by kernel_rfl) (by kernel_rfl) (by kernel_rfl) (fun _ _ _ h => h) (Or.inl ⟨by rfl, ?hy40b⟩) (by exact S1) ?_
            case hy40b => (intro w hSw; (try dsimp only at hSw); go_simp; try (with_reducible rfl))
            try simp only [Act.put, List.setIfInBounds_toArray, List.set_cons_zero, List.set_cons_succ]
            refine wpAnyH_take (i := 41) (oi := { dst := some 126, op := Op.binOp BinOp.eql 4 (Operand.tmp 123) (Operand.tmp 125) 4, type := 4, pos := "theorem.go:31", after := #[{ on := 38, ground := Ground.data }, { on := 40, ground := Ground.data }, { on := 31, ground := Ground.guard }], guard := some (31, true) }) (v := ?v41b) rfl (by kernel_rfl) (by kernel_rfl) (by kernel_rfl) (fun _ _ _ h => h) (Or.inl ⟨by rfl, ?hy41b⟩) (by exact S1) ?_
            case hy41b => (intro w hSw; (try dsimp only at hSw); go_simp; try (with_reducible rfl))
            try simp only [Act.put, List.setIfInBounds_toArray, List.set_cons_zero, List.set_cons_succ]
            refine wpAnyH_take (i := 42) (oi := { dst := some 127, op := Op.move (Operand.tmp 126), type := 4, pos := "theorem.go:31", after := #[{ on := 41, ground := Ground.data }, { on := 31, ground := Ground.chain }, { on := 31, ground := Ground.guard }], guard := some (31, true) }) (v := ?v42b) rfl (by kernel_rfl) (by kernel_rfl) (by kernel_rfl) (fun _ _ _ h => h) (Or.inl ⟨by rfl, ?hy42b⟩) (by exact S1) ?_
            case hy42b => (intro w hSw; (try dsimp only at hSw); go_simp; try (with_reducible rfl))
            try simp only [Act.put, List.setIfInBounds_toArray, List.set_cons_zero, List.set_cons_succ]
            refine wpAnyH_take (i := 43) (oi := { dst := some 128, op := Op.indexAddr 22 (Operand.tmp 2) (Operand.const (Value.int IntKind.i64 1)), type := 0, pos := "theorem.go:31", after := #[{ on := 42, ground := Ground.guard }], guard := some (42, true) }) (v := ?v43b) rfl (by kernel_rfl) (by kernel_rfl) (by kernel_rfl) (fun _ _ _ h => h) (Or.inl ⟨by rfl, ?hy43b⟩) (by exact S1) ?_
            case hy43b => (intro w hSw; (try dsimp only at hSw); go_simp; try (with_reducible rfl))
            try simp only [Act.put, List.setIfInBounds_toArray, List.set_cons_zero, List.set_cons_succ]
            refine wpAnyH_take (i := 44) (oi := { dst := some 129, op := Op.load 4 (Operand.tmp 128), type := 4, pos := "theorem.go:31", after := #[{ on := 43, ground := Ground.data }, { on := 42, ground := Ground.guard }], guard := some (42, true) }) (v := ?v44b) rfl (by kernel_rfl) (by kernel_rfl) (by kernel_rfl) (fun _ _ _ h => h) (Or.inl ⟨by rfl, ?hy44b⟩) (by exact S1) ?_
            case hy44b => (intro w hSw; (try dsimp only at hSw); go_simp; try (with_reducible rfl))
            try simp only [Act.put, List.setIfInBounds_toArray, List.set_cons_zero, List.set_cons_succ]
            refine wpAnyH_take (i := 45) (oi := { dst := some 130, op := Op.indexAddr 22 (Operand.tmp 3) (Operand.const (Value.int IntKind.i64 1)), type := 0, pos := "theorem.go:31", after := #[{ on := 42, ground := Ground.guard }], guard := some (42, true) }) (v := ?v45b) rfl (by kernel_rfl) (by kernel_rfl) (by kernel_rfl) (fun _ _ _ h => h) (Or.inl ⟨by rfl, ?hy45b⟩) (by exact S1) ?_
            case hy45b => (intro w hSw; (try dsimp only at hSw); go_simp; try (with_reducible rfl))
            try simp only [Act.put, List.setIfInBounds_toArray, List.set_cons_zero, List.set_cons_succ]
            refine wpAnyH_take (i := 46) (oi := { dst := some 131, op := Op.load 4 (Operand.tmp 130), type := 4, pos := "theorem.go:31", after := #[{ on := 45, ground := Ground.data }, { on := 42, ground := Ground.guard }], guard := some (42, true) }) (v := ?v46b) rfl (by kernel_rfl) (by kernel_rfl) (by kernel_rfl) (fun _ _ _ h => h) (Or.inl ⟨by rfl, ?hy46b⟩) (by exact S1) ?_
            case hy46b => (intro w hSw; (try dsimp only at hSw); go_simp; try (with_reducible rfl))
            try simp only [Act.put, List.setIfInBounds_toArray, List.set_cons_zero, List.set_cons_succ]
            refine wpAnyH_take (i := 47) (oi := { dst := some 132, op := Op.binOp BinOp.eql 4 (Operand.tmp 129) (Operand.tmp 131) 4, type := 4, pos := "theorem.go:31", after := #[{ on := 44, ground := Ground.data }, { on := 46, ground := Ground.data }, { on := 42, ground := Ground.guard }], guard := some (42, true) }) (v := ?v47b) rfl (by kernel_rfl) (by kernel_rfl) (by kernel_rfl) (fun _ _ _ h => h) (Or.inl ⟨by rfl, ?hy47b⟩) (by exact S1) ?_
            case hy47b => (intro w hSw; (try dsimp only at hSw); go_simp; try (with_reducible rfl))
            try simp only [Act.put, List.setIfInBounds_toArray, List.set_cons_zero, List.set_cons_succ]
            refine wpAnyH_take (i := 48) (oi := { dst := some 133, op := Op.pick (Operand.tmp 127) (Operand.tmp 132) (Operand.const (Value.bool false)), type := 4, pos := "theorem.go:31", after := #[{ on := 42, ground := Ground.data }, { on := 47, ground := Ground.data }, { on := 31, ground := Ground.guard }], guard := some (31, true) }) (v := ?v48b) rfl (by kernel_rfl) (by kernel_rfl) (by kernel_rfl) (fun _ _ _ h => h) (Or.inl ⟨by rfl, ?hy48b⟩) (by exact S1) ?_
            case hy48b => (intro w hSw; (try dsimp only at hSw); go_simp; try (with_reducible rfl))
            try simp only [Act.put, List.setIfInBounds_toArray, List.set_cons_zero, List.set_cons_succ]
            refine wpAnyH_take (i := 49) (oi := { dst := some 134, op := Op.binOp BinOp.eql 4 (Operand.tmp 121) (Operand.tmp 133) 4, type := 4, pos := "theorem.go:31", after := #[{ on := 36, ground := Ground.data }, { on := 48, ground := Ground.data }, { on := 31, ground := Ground.guard }], guard := some (31, true) }) (v := ?v49b) rfl (by kernel_rfl) (by kernel_rfl) (by kernel_rfl) (fun _ _ _ h => h) (Or.inl ⟨by rfl, ?hy49b⟩) (by exact S1) ?_
            case hy49b => (intro w hSw; (try dsimp only at hSw); go_simp; try (with_reducible rfl))
            try simp only [Act.put, List.setIfInBounds_toArray, List.set_cons_zero, List.set_cons_succ]
            refine wpAnyH_take (i := 50) (oi := { dst := some 135, op := Op.pick (Operand.tmp 116) (Operand.tmp 134) (Operand.const (Value.bool false)), type := 4, pos := "theorem.go:31", after := #[{ on := 31, ground := Ground.data }, { on := 49, ground := Ground.data }], guard := none }) (v := ?v50b) rfl (by kernel_rfl) (by kernel_rfl) (by kernel_rfl) (fun _ _ _ h => h) (Or.inl ⟨by rfl, ?hy50b⟩) (by exact S1) ?_
            case hy50b => (intro w hSw; (try dsimp only at hSw); go_simp; try (with_reducible rfl))
            try simp only [Act.put, List.setIfInBounds_toArray, List.set_cons_zero, List.set_cons_succ]
            refine wpAnyH_take (i := 51) (oi := { dst := some 136, op := Op.move (Operand.tmp 135), type := 4, pos := "theorem.go:31", after := #[{ on := 50, ground := Ground.data }, { on := 42, ground := Ground.chain }], guard := none }) (v := ?v51b) rfl (by kernel_rfl) (by kernel_rfl) (by kernel_rfl) (fun _ _ _ h => h) (Or.inl ⟨by rfl, ?hy51b⟩) (by exact S1) ?_
            case hy51b => (intro w hSw; (try dsimp only at hSw); go_simp; try (with_reducible rfl))
            try simp only [Act.put, List.setIfInBounds_toArray, List.set_cons_zero, List.set_cons_succ]
            refine wpAnyH_ready (rs := [52]) (by kernel_rfl) (by simp) ?_
            refine AllReadyH.cons (o := { dst := some 137, op := Op.call { callee := Callee.value (Operand.func 6), args := #[], argTypes := #[] }, type := 4, pos := "theorem.go:31", after := #[{ on := 51, ground := Ground.chain }, { on := 51, ground := Ground.guard }], guard := some (51, true) }) rfl (fun K hK => ?_) AllReadyH.nil
            go_simp
            refine (unhide KE9).mono ?_
            rintro e z9 ⟨rfl, yb⟩
            have S9 := unhide CC _ yb
            go_wp2_with fail
            refine hK.out _ _ S9 (fun _ => ?_)
            clear hK K
            try simp only [Act.put, List.setIfInBounds_toArray, List.set_cons_zero, List.set_cons_succ]
            refine wpAnyH_take (i := 53) (oi := { dst := some 138, op := Op.pick (Operand.tmp 136) (Operand.tmp 137) (Operand.const (Value.bool false)), type := 4, pos := "theorem.go:31", after := #[{ on := 51, ground := Ground.data }, { on := 52, ground := Ground.data }], guard := none }) (v := ?v53b) rfl (by kernel_rfl) (by kernel_rfl) (by kernel_rfl) (fun _ _ _ h => h) (Or.inl ⟨by rfl, ?hy53b⟩) (by exact S9) ?_
            case hy53b => (intro w hSw; (try dsimp only at hSw); go_simp; try (with_reducible rfl))
            try simp only [Act.put, List.setIfInBounds_toArray, List.set_cons_zero, List.set_cons_succ]
            refine wpAnyH_take (i := 54) (oi := { dst := some 4, op := Op.assign (Operand.tmp 138), type := 4, pos := "theorem.go:31", after := #[{ on := 53, ground := Ground.data }, { on := 52, ground := Ground.chain }, { on := 0, ground := Ground.phase }, { on := 1, ground := Ground.phase }, { on := 2, ground := Ground.phase }, { on := 3, ground := Ground.phase }, { on := 4, ground := Ground.phase }, { on := 5, ground := Ground.phase }, { on := 6, ground := Ground.phase }, { on := 7, ground := Ground.phase }, { on := 8, ground := Ground.phase }, { on := 9, ground := Ground.phase }, { on := 10, ground := Ground.phase }, { on := 11, ground := Ground.phase }, { on := 12, ground := Ground.phase }, { on := 13, ground := Ground.phase }, { on := 14, ground := Ground.phase }, { on := 15, ground := Ground.phase }, { on := 16, ground := Ground.phase }, { on := 17, ground := Ground.phase }, { on := 18, ground := Ground.phase }, { on := 19, ground := Ground.phase }, { on := 20, ground := Ground.phase }, { on := 21, ground := Ground.phase }, { on := 22, ground := Ground.phase }, { on := 23, ground := Ground.phase }, { on := 24, ground := Ground.phase }, { on := 25, ground := Ground.phase }, { on := 26, ground := Ground.phase }, { on := 27, ground := Ground.phase }, { on := 28, ground := Ground.phase }, { on := 29, ground := Ground.phase }, { on := 30, ground := Ground.phase }, { on := 31, ground := Ground.phase }, { on := 32, ground := Ground.phase }, { on := 33, ground := Ground.phase }, { on := 34, ground := Ground.phase }, { on := 35, ground := Ground.phase }, { on := 36, ground := Ground.phase }, { on := 37, ground := Ground.phase }, { on := 38, ground := Ground.phase }, { on := 39, ground := Ground.phase }, { on := 40, ground := Ground.phase }, { on := 41, ground := Ground.phase }, { on := 42, ground := Ground.phase }, { on := 43, ground := Ground.phase }, { on := 44, ground := Ground.phase }, { on := 45, ground := Ground.phase }, { on := 46, ground := Ground.phase }, { on := 47, ground := Ground.phase }, { on := 48, ground := Ground.phase }, { on := 49, ground := Ground.phase }, { on := 50, ground := Ground.phase }, { on := 51, ground := Ground.phase }, { on := 52, ground := Ground.phase }, { on := 53, ground := Ground.phase }], guard := none }) (v := ?v54b) rfl (by kernel_rfl) (by kernel_rfl) (by kernel_rfl) (fun _ _ _ h => h) (Or.inl ⟨by rfl, ?hy54b⟩) (by exact S9) ?_
            case hy54b => (intro w hSw; (try dsimp only at hSw); go_simp; try (with_reducible rfl))
            try simp only [Act.put, List.setIfInBounds_toArray, List.set_cons_zero, List.set_cons_succ]
            refine wpAnyH_done (by kernel_rfl) ?_ _
            refine NoPanic.normal ?_
            go_wp2_with fail
            go_ret
            exact ⟨rfl, unhide HBw _ (bw_tr (unhide B5) yb)⟩
          · have e0' : (p0 == q0) = true := e0
            have f0' : decide (p0 = q0) = true := f0
            clear e0 f0
            refine wp_region_noPanic ?_
            refine wp_region_held_drew (S := fun w' : World => w'.cell? ⟨pb, 0, none⟩ = some (.int .i64 p0) ∧ w'.cell? ⟨pb, 1, none⟩ = some (.int .i64 p1) ∧ w'.cell? ⟨pb, 2, none⟩ = some (.int .i64 p2) ∧ w'.cell? ⟨pb, 5, none⟩ = some (.int .i64 p5) ∧ w'.cell? ⟨qb, 0, none⟩ = some (.int .i64 q0) ∧ w'.cell? ⟨qb, 1, none⟩ = some (.int .i64 q1) ∧ w'.cell? ⟨qb, 2, none⟩ = some (.int .i64 q2) ∧ w'.cell? ⟨qb, 5, none⟩ = some (.int .i64 q5) ∧ w'.cell? ⟨w.heap.size, 0, none⟩ = some (.bool a0) ∧ w'.cell? ⟨w.heap.size, 1, none⟩ = some (.bool a1) ∧ w'.cell? ⟨w.heap.size, 2, none⟩ = some (.bool a2) ∧ w'.cell? ⟨w.heap.size + 1, 0, none⟩ = some (.bool b0) ∧ w'.cell? ⟨w.heap.size + 1, 1, none⟩ = some (.bool b1) ∧ w'.cell? ⟨w.heap.size + 1, 2, none⟩ = some (.bool b2)) (by kernel_rfl) S1 (fun hHeld => ?_)
            refine wpAnyH_take (i := 0) (oi := { dst := some 85, op := Op.fieldAddr 33 (Operand.tmp 11) 1, type := 0, pos := "theorem.go:31", after := #[], guard := none }) (v := ?v0c) rfl (by kernel_rfl) (by kernel_rfl) (by kernel_rfl) (fun _ _ _ h => h) (Or.inl ⟨by rfl, ?hy0c⟩) (by exact S1) ?_
            case hy0c => (intro w hSw; (try dsimp only at hSw); go_simp; try (with_reducible rfl))
            try simp only [Act.put, List.setIfInBounds_toArray, List.set_cons_zero, List.set_cons_succ]
            refine wpAnyH_take (i := 1) (oi := { dst := some 86, op := Op.load 3 (Operand.tmp 85), type := 3, pos := "theorem.go:31", after := #[{ on := 0, ground := Ground.data }], guard := none }) (v := ?v1c) rfl (by kernel_rfl) (by kernel_rfl) (by kernel_rfl) (fun _ _ _ h => h) (Or.inl ⟨by rfl, ?hy1c⟩) (by exact S1) ?_
            case hy1c => (intro w hSw; (try dsimp only at hSw); go_simp; try (with_reducible rfl))
            try simp only [Act.put, List.setIfInBounds_toArray, List.set_cons_zero, List.set_cons_succ]
            refine wpAnyH_take (i := 2) (oi := { dst := some 87, op := Op.fieldAddr 33 (Operand.tmp 13) 1, type := 0, pos := "theorem.go:31", after := #[], guard := none }) (v := ?v2c) rfl (by kernel_rfl) (by kernel_rfl) (by kernel_rfl) (fun _ _ _ h => h) (Or.inl ⟨by rfl, ?hy2c⟩) (by exact S1) ?_
            case hy2c => (intro w hSw; (try dsimp only at hSw); go_simp; try (with_reducible rfl))
            try simp only [Act.put, List.setIfInBounds_toArray, List.set_cons_zero, List.set_cons_succ]
            refine wpAnyH_take (i := 3) (oi := { dst := some 88, op := Op.load 3 (Operand.tmp 87), type := 3, pos := "theorem.go:31", after := #[{ on := 2, ground := Ground.data }], guard := none }) (v := ?v3c) rfl (by kernel_rfl) (by kernel_rfl) (by kernel_rfl) (fun _ _ _ h => h) (Or.inl ⟨by rfl, ?hy3c⟩) (by exact S1) ?_
            case hy3c => (intro w hSw; (try dsimp only at hSw); go_simp; try (with_reducible rfl))
            try simp only [Act.put, List.setIfInBounds_toArray, List.set_cons_zero, List.set_cons_succ]
            refine wpAnyH_take (i := 4) (oi := { dst := some 89, op := Op.binOp BinOp.eql 3 (Operand.tmp 86) (Operand.tmp 88) 3, type := 4, pos := "theorem.go:31", after := #[{ on := 1, ground := Ground.data }, { on := 3, ground := Ground.data }], guard := none }) (v := ?v4c) rfl (by kernel_rfl) (by kernel_rfl) (by kernel_rfl) (fun _ _ _ h => h) (Or.inl ⟨by rfl, ?hy4c⟩) (by exact S1) ?_
            case hy4c => (intro w hSw; (try dsimp only at hSw); go_simp; try (with_reducible rfl))
            try simp only [Act.put, List.setIfInBounds_toArray, List.set_cons_zero, List.set_cons_succ]
            refine wpAnyH_take (i := 5) (oi := { dst := some 90, op := Op.load 22 (Operand.tmp 2), type := 22, pos := "theorem.go:31", after := #[], guard := none }) (v := ?v5c) rfl (by kernel_rfl) (by kernel_rfl) (by kernel_rfl) (fun _ _ _ h => h) (Or.inl ⟨by rfl, ?hy5c⟩) (by exact S1) ?_
            case hy5c => (intro w hSw; (try dsimp only at hSw); go_simp; try (with_reducible rfl))
            try simp only [Act.put, List.setIfInBounds_toArray, List.set_cons_zero, List.set_cons_succ]
            refine wpAnyH_take (i := 6) (oi := { dst := some 91, op := Op.load 22 (Operand.tmp 3), type := 22, pos := "theorem.go:31", after := #[], guard := none }) (v := ?v6c) rfl (by kernel_rfl) (by kernel_rfl) (by kernel_rfl) (fun _ _ _ h => h) (Or.inl ⟨by rfl, ?hy6c⟩) (by exact S1) ?_
            case hy6c => (intro w hSw; (try dsimp only at hSw); go_simp; try (with_reducible rfl))
            try simp only [Act.put, List.setIfInBounds_toArray, List.set_cons_zero, List.set_cons_succ]
            refine wpAnyH_take (i := 7) (oi := { dst := some 92, op := Op.binOp BinOp.eql 22 (Operand.tmp 90) (Operand.tmp 91) 22, type := 4, pos := "theorem.go:31", after := #[{ on := 5, ground := Ground.data }, { on := 6, ground := Ground.data }], guard := none }) (v := ?v7c) rfl (by kernel_rfl) (by kernel_rfl) (by kernel_rfl) (fun _ _ _ h => h) (Or.inl ⟨by rfl, ?hy7c⟩) (by exact S1) ?_
            case hy7c => (intro w hSw; (try dsimp only at hSw); go_simp; try (with_reducible rfl))
            try simp only [Act.put, List.setIfInBounds_toArray, List.set_cons_zero, List.set_cons_succ]
            refine wpAnyH_take (i := 8) (oi := { dst := some 93, op := Op.binOp BinOp.eql 4 (Operand.tmp 89) (Operand.tmp 92) 4, type := 4, pos := "theorem.go:31", after := #[{ on := 4, ground := Ground.data }, { on := 7, ground := Ground.data }], guard := none }) (v := ?v8c) rfl (by kernel_rfl) (by kernel_rfl) (by kernel_rfl) (fun _ _ _ h => h) (Or.inl ⟨by rfl, ?hy8c⟩) (by exact S1) ?_
            case hy8c => (intro w hSw; (try dsimp only at hSw); go_simp; try (with_reducible rfl))
            try simp only [Act.put, List.setIfInBounds_toArray, List.set_cons_zero, List.set_cons_succ]
            refine wpAnyH_take (i := 9) (oi := { dst := some 94, op := Op.move (Operand.tmp 93), type := 4, pos := "theorem.go:31", after := #[{ on := 8, ground := Ground.data }], guard := none }) (v := ?v9c) rfl (by kernel_rfl) (by kernel_rfl) (by kernel_rfl) (fun _ _ _ h => h) (Or.inl ⟨by rfl, ?hy9c⟩) (by exact S1) ?_
            case hy9c => (intro w hSw; (try dsimp only at hSw); go_simp; try (with_reducible rfl))
            try simp only [Act.put, List.setIfInBounds_toArray, List.set_cons_zero, List.set_cons_succ]
            refine wpAnyH_take (i := 10) (oi := { dst := some 95, op := Op.fieldAddr 33 (Operand.tmp 11) 2, type := 0, pos := "theorem.go:31", after := #[{ on := 9, ground := Ground.guard }], guard := some (9, true) }) (v := ?v10c) rfl (by kernel_rfl) (by kernel_rfl) (by kernel_rfl) (fun _ _ _ h => h) (Or.inl ⟨by rfl, ?hy10c⟩) (by exact S1) ?_
            case hy10c => (intro w hSw; (try dsimp only at hSw); go_simp; try (with_reducible rfl))
            try simp only [Act.put, List.setIfInBounds_toArray, List.set_cons_zero, List.set_cons_succ]
            refine wpAnyH_take (i := 11) (oi := { dst := some 96, op := Op.load 3 (Operand.tmp 95), type := 3, pos := "theorem.go:31", after := #[{ on := 10, ground := Ground.data }, { on := 9, ground := Ground.guard }], guard := some (9, true) }) (v := ?v11c) rfl (by kernel_rfl) (by kernel_rfl) (by kernel_rfl) (fun _ _ _ h => h) (Or.inl ⟨by rfl, ?hy11c⟩) (by exact S1) ?_
            case hy11c => (intro w hSw; (try dsimp only at hSw); go_simp; try (with_reducible rfl))
            try simp only [Act.put, List.setIfInBounds_toArray, List.set_cons_zero, List.set_cons_succ]
            refine wpAnyH_take (i := 12) (oi := { dst := some 97, op := Op.fieldAddr 33 (Operand.tmp 13) 2, type := 0, pos := "theorem.go:31", after := #[{ on := 9, ground := Ground.guard }], guard := some (9, true) }) (v := ?v12c) rfl (by kernel_rfl) (by kernel_rfl) (by kernel_rfl) (fun _ _ _ h => h) (Or.inl ⟨by rfl, ?hy12c⟩) (by exact S1) ?_
            case hy12c => (intro w hSw; (try dsimp only at hSw); go_simp; try (with_reducible rfl))
            try simp only [Act.put, List.setIfInBounds_toArray, List.set_cons_zero, List.set_cons_succ]
            refine wpAnyH_take (i := 13) (oi := { dst := some 98, op := Op.load 3 (Operand.tmp 97), type := 3, pos := "theorem.go:31", after := #[{ on := 12, ground := Ground.data }, { on := 9, ground := Ground.guard }], guard := some (9, true) }) (v := ?v13c) rfl (by kernel_rfl) (by kernel_rfl) (by kernel_rfl) (fun _ _ _ h => h) (Or.inl ⟨by rfl, ?hy13c⟩) (by exact S1) ?_
            case hy13c => (intro w hSw; (try dsimp only at hSw); go_simp; try (with_reducible rfl))
            try simp only [Act.put, List.setIfInBounds_toArray, List.set_cons_zero, List.set_cons_succ]
            refine wpAnyH_take (i := 14) (oi := { dst := some 99, op := Op.binOp BinOp.eql 3 (Operand.tmp 96) (Operand.tmp 98) 3, type := 4, pos := "theorem.go:31", after := #[{ on := 11, ground := Ground.data }, { on := 13, ground := Ground.data }, { on := 9, ground := Ground.guard }], guard := some (9, true) }) (v := ?v14c) rfl (by kernel_rfl) (by kernel_rfl) (by kernel_rfl) (fun _ _ _ h => h) (Or.inl ⟨by rfl, ?hy14c⟩) (by exact S1) ?_
            case hy14c => (intro w hSw; (try dsimp only at hSw); go_simp; try (with_reducible rfl))
            try simp only [Act.put, List.setIfInBounds_toArray, List.set_cons_zero, List.set_cons_succ]
            refine wpAnyH_take (i := 15) (oi := { dst := some 100, op := Op.load 22 (Operand.tmp 2), type := 22, pos := "theorem.go:31", after := #[{ on := 9, ground := Ground.guard }], guard := some (9, true) }) (v := ?v15c) rfl (by kernel_rfl) (by kernel_rfl) (by kernel_rfl) (fun _ _ _ h => h) (Or.inl ⟨by rfl, ?hy15c⟩) (by exact S1) ?_
            case hy15c => (intro w hSw; (try dsimp only at hSw); go_simp; try (with_reducible rfl))
            try simp only [Act.put, List.setIfInBounds_toArray, List.set_cons_zero, List.set_cons_succ]
            refine wpAnyH_take (i := 16) (oi := { dst := some 101, op := Op.load 22 (Operand.tmp 3), type := 22, pos := "theorem.go:31", after := #[{ on := 9, ground := Ground.guard }], guard := some (9, true) }) (v := ?v16c) rfl (by kernel_rfl) (by kernel_rfl) (by kernel_rfl) (fun _ _ _ h => h) (Or.inl ⟨by rfl, ?hy16c⟩) (by exact S1) ?_
            case hy16c => (intro w hSw; (try dsimp only at hSw); go_simp; try (with_reducible rfl))
            try simp only [Act.put, List.setIfInBounds_toArray, List.set_cons_zero, List.set_cons_succ]
            refine wpAnyH_take (i := 17) (oi := { dst := some 102, op := Op.binOp BinOp.eql 22 (Operand.tmp 100) (Operand.tmp 101) 22, type := 4, pos := "theorem.go:31", after := #[{ on := 15, ground := Ground.data }, { on := 16, ground := Ground.data }, { on := 9, ground := Ground.guard }], guard := some (9, true) }) (v := ?v17c) rfl (by kernel_rfl) (by kernel_rfl) (by kernel_rfl) (fun _ _ _ h => h) (Or.inl ⟨by rfl, ?hy17c⟩) (by exact S1) ?_
            case hy17c => (intro w hSw; (try dsimp only at hSw); go_simp; try (with_reducible rfl))
            try simp only [Act.put, List.setIfInBounds_toArray, List.set_cons_zero, List.set_cons_succ]
            refine wpAnyH_take (i := 18) (oi := { dst := some 103, op := Op.binOp BinOp.eql 4 (Operand.tmp 99) (Operand.tmp 102) 4, type := 4, pos := "theorem.go:31", after := #[{ on := 14, ground := Ground.data }, { on := 17, ground := Ground.data }, { on := 9, ground := Ground.guard }], guard := some (9, true) }) (v := ?v18c) rfl (by kernel_rfl) (by kernel_rfl) (by kernel_rfl) (fun _ _ _ h => h) (Or.inl ⟨by rfl, ?hy18c⟩) (by exact S1) ?_
            case hy18c => (intro w hSw; (try dsimp only at hSw); go_simp; try (with_reducible rfl))
            try simp only [Act.put, List.setIfInBounds_toArray, List.set_cons_zero, List.set_cons_succ]
            refine wpAnyH_take (i := 19) (oi := { dst := some 104, op := Op.pick (Operand.tmp 94) (Operand.tmp 103) (Operand.const (Value.bool false)), type := 4, pos := "theorem.go:31", after := #[{ on := 9, ground := Ground.data }, { on := 18, ground := Ground.data }], guard := none }) (v := ?v19c) rfl (by kernel_rfl) (by kernel_rfl) (by kernel_rfl) (fun _ _ _ h => h) (Or.inl ⟨by rfl, ?hy19c⟩) (by exact S1) ?_
            case hy19c => (intro w hSw; (try dsimp only at hSw); go_simp; try (with_reducible rfl))
            try simp only [Act.put, List.setIfInBounds_toArray, List.set_cons_zero, List.set_cons_succ]
            refine wpAnyH_take (i := 20) (oi := { dst := some 105, op := Op.move (Operand.tmp 104), type := 4, pos := "theorem.go:31", after := #[{ on := 19, ground := Ground.data }, { on := 9, ground := Ground.chain }], guard := none }) (v := ?v20c) rfl (by kernel_rfl) (by kernel_rfl) (by kernel_rfl) (fun _ _ _ h => h) (Or.inl ⟨by rfl, ?hy20c⟩) (by exact S1) ?_
            case hy20c => (intro w hSw; (try dsimp only at hSw); go_simp; try (with_reducible rfl))
            try simp only [Act.put, List.setIfInBounds_toArray, List.set_cons_zero, List.set_cons_succ]
            refine wpAnyH_take (i := 21) (oi := { dst := some 106, op := Op.fieldAddr 33 (Operand.tmp 11) 5, type := 0, pos := "theorem.go:31", after := #[{ on := 20, ground := Ground.guard }], guard := some (20, true) }) (v := ?v21c) rfl (by kernel_rfl) (by kernel_rfl) (by kernel_rfl) (fun _ _ _ h => h) (Or.inl ⟨by rfl, ?hy21c⟩) (by exact S1) ?_
            case hy21c => (intro w hSw; (try dsimp only at hSw); go_simp; try (with_reducible rfl))
            try simp only [Act.put, List.setIfInBounds_toArray, List.set_cons_zero, List.set_cons_succ]
            refine wpAnyH_take (i := 22) (oi := { dst := some 107, op := Op.load 3 (Operand.tmp 106), type := 3, pos := "theorem.go:31", after := #[{ on := 21, ground := Ground.data }, { on := 20, ground := Ground.guard }], guard := some (20, true) }) (v := ?v22c) rfl (by kernel_rfl) (by kernel_rfl) (by kernel_rfl) (fun _ _ _ h => h) (Or.inl ⟨by rfl, ?hy22c⟩) (by exact S1) ?_
            case hy22c => (intro w hSw; (try dsimp only at hSw); go_simp; try (with_reducible rfl))
            try simp only [Act.put, List.setIfInBounds_toArray, List.set_cons_zero, List.set_cons_succ]
            refine wpAnyH_take (i := 23) (oi := { dst := some 108, op := Op.fieldAddr 33 (Operand.tmp 13) 5, type := 0, pos := "theorem.go:31", after := #[{ on := 20, ground := Ground.guard }], guard := some (20, true) }) (v := ?v23c) rfl (by kernel_rfl) (by kernel_rfl) (by kernel_rfl) (fun _ _ _ h => h) (Or.inl ⟨by rfl, ?hy23c⟩) (by exact S1) ?_
            case hy23c => (intro w hSw; (try dsimp only at hSw); go_simp; try (with_reducible rfl))
            try simp only [Act.put, List.setIfInBounds_toArray, List.set_cons_zero, List.set_cons_succ]
            refine wpAnyH_take (i := 24) (oi := { dst := some 109, op := Op.load 3 (Operand.tmp 108), type := 3, pos := "theorem.go:31", after := #[{ on := 23, ground := Ground.data }, { on := 20, ground := Ground.guard }], guard := some (20, true) }) (v := ?v24c) rfl (by kernel_rfl) (by kernel_rfl) (by kernel_rfl) (fun _ _ _ h => h) (Or.inl ⟨by rfl, ?hy24c⟩) (by exact S1) ?_
            case hy24c => (intro w hSw; (try dsimp only at hSw); go_simp; try (with_reducible rfl))
            try simp only [Act.put, List.setIfInBounds_toArray, List.set_cons_zero, List.set_cons_succ]
            refine wpAnyH_take (i := 25) (oi := { dst := some 110, op := Op.binOp BinOp.eql 3 (Operand.tmp 107) (Operand.tmp 109) 3, type := 4, pos := "theorem.go:31", after := #[{ on := 22, ground := Ground.data }, { on := 24, ground := Ground.data }, { on := 20, ground := Ground.guard }], guard := some (20, true) }) (v := ?v25c) rfl (by kernel_rfl) (by kernel_rfl) (by kernel_rfl) (fun _ _ _ h => h) (Or.inl ⟨by rfl, ?hy25c⟩) (by exact S1) ?_
            case hy25c => (intro w hSw; (try dsimp only at hSw); go_simp; try (with_reducible rfl))
            try simp only [Act.put, List.setIfInBounds_toArray, List.set_cons_zero, List.set_cons_succ]
            refine wpAnyH_take (i := 26) (oi := { dst := some 111, op := Op.load 22 (Operand.tmp 2), type := 22, pos := "theorem.go:31", after := #[{ on := 20, ground := Ground.guard }], guard := some (20, true) }) (v := ?v26c) rfl (by kernel_rfl) (by kernel_rfl) (by kernel_rfl) (fun _ _ _ h => h) (Or.inl ⟨by rfl, ?hy26c⟩) (by exact S1) ?_
            case hy26c => (intro w hSw; (try dsimp only at hSw); go_simp; try (with_reducible rfl))
            try simp only [Act.put, List.setIfInBounds_toArray, List.set_cons_zero, List.set_cons_succ]
            refine wpAnyH_take (i := 27) (oi := { dst := some 112, op := Op.load 22 (Operand.tmp 3), type := 22, pos := "theorem.go:31", after := #[{ on := 20, ground := Ground.guard }], guard := some (20, true) }) (v := ?v27c) rfl (by kernel_rfl) (by kernel_rfl) (by kernel_rfl) (fun _ _ _ h => h) (Or.inl ⟨by rfl, ?hy27c⟩) (by exact S1) ?_
            case hy27c => (intro w hSw; (try dsimp only at hSw); go_simp; try (with_reducible rfl))
            try simp only [Act.put, List.setIfInBounds_toArray, List.set_cons_zero, List.set_cons_succ]
            refine wpAnyH_take (i := 28) (oi := { dst := some 113, op := Op.binOp BinOp.eql 22 (Operand.tmp 111) (Operand.tmp 112) 22, type := 4, pos := "theorem.go:31", after := #[{ on := 26, ground := Ground.data }, { on := 27, ground := Ground.data }, { on := 20, ground := Ground.guard }], guard := some (20, true) }) (v := ?v28c) rfl (by kernel_rfl) (by kernel_rfl) (by kernel_rfl) (fun _ _ _ h => h) (Or.inl ⟨by rfl, ?hy28c⟩) (by exact S1) ?_
            case hy28c => (intro w hSw; (try dsimp only at hSw); go_simp; try (with_reducible rfl))
            try simp only [Act.put, List.setIfInBounds_toArray, List.set_cons_zero, List.set_cons_succ]
            refine wpAnyH_take (i := 29) (oi := { dst := some 114, op := Op.binOp BinOp.eql 4 (Operand.tmp 110) (Operand.tmp 113) 4, type := 4, pos := "theorem.go:31", after := #[{ on := 25, ground := Ground.data }, { on := 28, ground := Ground.data }, { on := 20, ground := Ground.guard }], guard := some (20, true) }) (v := ?v29c) rfl (by kernel_rfl) (by kernel_rfl) (by kernel_rfl) (fun _ _ _ h => h) (Or.inl ⟨by rfl, ?hy29c⟩) (by exact S1) ?_
            case hy29c => (intro w hSw; (try dsimp only at hSw); go_simp; try (with_reducible rfl))
            try simp only [Act.put, List.setIfInBounds_toArray, List.set_cons_zero, List.set_cons_succ]
            refine wpAnyH_take (i := 30) (oi := { dst := some 115, op := Op.pick (Operand.tmp 105) (Operand.tmp 114) (Operand.const (Value.bool false)), type := 4, pos := "theorem.go:31", after := #[{ on := 20, ground := Ground.data }, { on := 29, ground := Ground.data }], guard := none }) (v := ?v30c) rfl (by kernel_rfl) (by kernel_rfl) (by kernel_rfl) (fun _ _ _ h => h) (Or.inl ⟨by rfl, ?hy30c⟩) (by exact S1) ?_
            case hy30c => (intro w hSw; (try dsimp only at hSw); go_simp; try (with_reducible rfl))
            try simp only [Act.put, List.setIfInBounds_toArray, List.set_cons_zero, List.set_cons_succ]
            refine wpAnyH_take (i := 31) (oi := { dst := some 116, op := Op.move (Operand.tmp 115), type := 4, pos := "theorem.go:31", after := #[{ on := 30, ground := Ground.data }, { on := 20, ground := Ground.chain }], guard := none }) (v := ?v31c) rfl (by kernel_rfl) (by kernel_rfl) (by kernel_rfl) (fun _ _ _ h => h) (Or.inl ⟨by rfl, ?hy31c⟩) (by exact S1) ?_
            case hy31c => (intro w hSw; (try dsimp only at hSw); go_simp; try (with_reducible rfl))
            try simp only [Act.put, List.setIfInBounds_toArray, List.set_cons_zero, List.set_cons_succ]
            refine wpAnyH_take (i := 32) (oi := { dst := some 117, op := Op.fieldAddr 33 (Operand.tmp 11) 0, type := 0, pos := "theorem.go:31", after := #[{ on := 31, ground := Ground.guard }], guard := some (31, true) }) (v := ?v32c) rfl (by kernel_rfl) (by kernel_rfl) (by kernel_rfl) (fun _ _ _ h => h) (Or.inl ⟨by rfl, ?hy32c⟩) (by exact S1) ?_
            case hy32c => (intro w hSw; (try dsimp only at hSw); go_simp; try (with_reducible rfl))
            try simp only [Act.put, List.setIfInBounds_toArray, List.set_cons_zero, List.set_cons_succ]
            refine wpAnyH_take (i := 33) (oi := { dst := some 118, op := Op.load 3 (Operand.tmp 117), type := 3, pos := "theorem.go:31", after := #[{ on := 32, ground := Ground.data }, { on := 31, ground := Ground.guard }], guard := some (31, true) }) (v := ?v33c) rfl (by kernel_rfl) (by kernel_rfl) (by kernel_rfl) (fun _ _ _ h => h) (Or.inl ⟨by rfl, ?hy33c⟩) (by exact S1) ?_
            case hy33c => (intro w hSw; (try dsimp only at hSw); go_simp; try (with_reducible rfl))
            try simp only [Act.put, List.setIfInBounds_toArray, List.set_cons_zero, List.set_cons_succ]
            refine wpAnyH_take (i := 34) (oi := { dst := some 119, op := Op.fieldAddr 33 (Operand.tmp 13) 0, type := 0, pos := "theorem.go:31", after := #[{ on := 31, ground := Ground.guard }], guard := some (31, true) }) (v := ?v34c) rfl (by kernel_rfl) (by kernel_rfl) (by kernel_rfl) (fun _ _ _ h => h) (Or.inl ⟨by rfl, ?hy34c⟩) (by exact S1) ?_
            case hy34c => (intro w hSw; (try dsimp only at hSw); go_simp; try (with_reducible rfl))
            try simp only [Act.put, List.setIfInBounds_toArray, List.set_cons_zero, List.set_cons_succ]
            refine wpAnyH_take (i := 35) (oi := { dst := some 120, op := Op.load 3 (Operand.tmp 119), type := 3, pos := "theorem.go:31", after := #[{ on := 34, ground := Ground.data }, { on := 31, ground := Ground.guard }], guard := some (31, true) }) (v := ?v35c) rfl (by kernel_rfl) (by kernel_rfl) (by kernel_rfl) (fun _ _ _ h => h) (Or.inl ⟨by rfl, ?hy35c⟩) (by exact S1) ?_
            case hy35c => (intro w hSw; (try dsimp only at hSw); go_simp; try (with_reducible rfl))
            try simp only [Act.put, List.setIfInBounds_toArray, List.set_cons_zero, List.set_cons_succ]
            refine wpAnyH_take (i := 36) (oi := { dst := some 121, op := Op.binOp BinOp.eql 3 (Operand.tmp 118) (Operand.tmp 120) 3, type := 4, pos := "theorem.go:31", after := #[{ on := 33, ground := Ground.data }, { on := 35, ground := Ground.data }, { on := 31, ground := Ground.guard }], guard := some (31, true) }) (v := ?v36c) rfl (by kernel_rfl) (by kernel_rfl) (by kernel_rfl) (fun _ _ _ h => h) (Or.inl ⟨by rfl, ?hy36c⟩) (by exact S1) ?_
            case hy36c => (intro w hSw; (try dsimp only at hSw); go_simp; try (with_reducible rfl))
            try simp only [Act.put, List.setIfInBounds_toArray, List.set_cons_zero, List.set_cons_succ]
            refine wpAnyH_take (i := 37) (oi := { dst := some 122, op := Op.indexAddr 22 (Operand.tmp 2) (Operand.const (Value.int IntKind.i64 0)), type := 0, pos := "theorem.go:31", after := #[{ on := 31, ground := Ground.guard }], guard := some (31, true) }) (v := ?v37c) rfl (by kernel_rfl) (by kernel_rfl) (by kernel_rfl) (fun _ _ _ h => h) (Or.inl ⟨by rfl, ?hy37c⟩) (by exact S1) ?_
            case hy37c => (intro w hSw; (try dsimp only at hSw); go_simp; try (with_reducible rfl))
            try simp only [Act.put, List.setIfInBounds_toArray, List.set_cons_zero, List.set_cons_succ]
            refine wpAnyH_take (i := 38) (oi := { dst := some 123, op := Op.load 4 (Operand.tmp 122), type := 4, pos := "theorem.go:31", after := #[{ on := 37, ground := Ground.data }, { on := 31, ground := Ground.guard }], guard := some (31, true) }) (v := ?v38c) rfl (by kernel_rfl) (by kernel_rfl) (by kernel_rfl) (fun _ _ _ h => h) (Or.inl ⟨by rfl, ?hy38c⟩) (by exact S1) ?_
            case hy38c => (intro w hSw; (try dsimp only at hSw); go_simp; try (with_reducible rfl))
            try simp only [Act.put, List.setIfInBounds_toArray, List.set_cons_zero, List.set_cons_succ]
            refine wpAnyH_take (i := 39) (oi := { dst := some 124, op := Op.indexAddr 22 (Operand.tmp 3) (Operand.const (Value.int IntKind.i64 0)), type := 0, pos := "theorem.go:31", after := #[{ on := 31, ground := Ground.guard }], guard := some (31, true) }) (v := ?v39c) rfl (by kernel_rfl) (by kernel_rfl) (by kernel_rfl) (fun _ _ _ h => h) (Or.inl ⟨by rfl, ?hy39c⟩) (by exact S1) ?_
            case hy39c => (intro w hSw; (try dsimp only at hSw); go_simp; try (with_reducible rfl))
            try simp only [Act.put, List.setIfInBounds_toArray, List.set_cons_zero, List.set_cons_succ]
            refine wpAnyH_take (i := 40) (oi := { dst := some 125, op := Op.load 4 (Operand.tmp 124), type := 4, pos := "theorem.go:31", after := #[{ on := 39, ground := Ground.data }, { on := 31, ground := Ground.guard }], guard := some (31, true) }) (v := ?v40c) rfl (by kernel_rfl) (by kernel_rfl) (by kernel_rfl) (fun _ _ _ h => h) (Or.inl ⟨by rfl, ?hy40c⟩) (by exact S1) ?_
            case hy40c => (intro w hSw; (try dsimp only at hSw); go_simp; try (with_reducible rfl))
            try simp only [Act.put, List.setIfInBounds_toArray, List.set_cons_zero, List.set_cons_succ]
            refine wpAnyH_take (i := 41) (oi := { dst := some 126, op := Op.binOp BinOp.eql 4 (Operand.tmp 123) (Operand.tmp 125) 4, type := 4, pos := "theorem.go:31", after := #[{ on := 38, ground := Ground.data }, { on := 40, ground := Ground.data }, { on := 31, ground := Ground.guard }], guard := some (31, true) }) (v := ?v41c) rfl (by kernel_rfl) (by kernel_rfl) (by kernel_rfl) (fun _ _ _ h => h) (Or.inl ⟨by rfl, ?hy41c⟩) (by exact S1) ?_
            case hy41c => (intro w hSw; (try dsimp only at hSw); go_simp; try (with_reducible rfl))
            try simp only [Act.put, List.setIfInBounds_toArray, List.set_cons_zero, List.set_cons_succ]
            refine wpAnyH_take (i := 42) (oi := { dst := some 127, op := Op.move (Operand.tmp 126), type := 4, pos := "theorem.go:31", after := #[{ on := 41, ground := Ground.data }, { on := 31, ground := Ground.chain }, { on := 31, ground := Ground.guard }], guard := some (31, true) }) (v := ?v42c) rfl (by kernel_rfl) (by kernel_rfl) (by kernel_rfl) (fun _ _ _ h => h) (Or.inl ⟨by rfl, ?hy42c⟩) (by exact S1) ?_
            case hy42c => (intro w hSw; (try dsimp only at hSw); go_simp; try (with_reducible rfl))
            try simp only [Act.put, List.setIfInBounds_toArray, List.set_cons_zero, List.set_cons_succ]
            refine wpAnyH_take (i := 43) (oi := { dst := some 128, op := Op.indexAddr 22 (Operand.tmp 2) (Operand.const (Value.int IntKind.i64 1)), type := 0, pos := "theorem.go:31", after := #[{ on := 42, ground := Ground.guard }], guard := some (42, true) }) (v := ?v43c) rfl (by kernel_rfl) (by kernel_rfl) (by kernel_rfl) (fun _ _ _ h => h) (Or.inl ⟨by rfl, ?hy43c⟩) (by exact S1) ?_
            case hy43c => (intro w hSw; (try dsimp only at hSw); go_simp; try (with_reducible rfl))
            try simp only [Act.put, List.setIfInBounds_toArray, List.set_cons_zero, List.set_cons_succ]
            refine wpAnyH_take (i := 44) (oi := { dst := some 129, op := Op.load 4 (Operand.tmp 128), type := 4, pos := "theorem.go:31", after := #[{ on := 43, ground := Ground.data }, { on := 42, ground := Ground.guard }], guard := some (42, true) }) (v := ?v44c) rfl (by kernel_rfl) (by kernel_rfl) (by kernel_rfl) (fun _ _ _ h => h) (Or.inl ⟨by rfl, ?hy44c⟩) (by exact S1) ?_
            case hy44c => (intro w hSw; (try dsimp only at hSw); go_simp; try (with_reducible rfl))
            try simp only [Act.put, List.setIfInBounds_toArray, List.set_cons_zero, List.set_cons_succ]
            refine wpAnyH_take (i := 45) (oi := { dst := some 130, op := Op.indexAddr 22 (Operand.tmp 3) (Operand.const (Value.int IntKind.i64 1)), type := 0, pos := "theorem.go:31", after := #[{ on := 42, ground := Ground.guard }], guard := some (42, true) }) (v := ?v45c) rfl (by kernel_rfl) (by kernel_rfl) (by kernel_rfl) (fun _ _ _ h => h) (Or.inl ⟨by rfl, ?hy45c⟩) (by exact S1) ?_
            case hy45c => (intro w hSw; (try dsimp only at hSw); go_simp; try (with_reducible rfl))
            try simp only [Act.put, List.setIfInBounds_toArray, List.set_cons_zero, List.set_cons_succ]
            refine wpAnyH_take (i := 46) (oi := { dst := some 131, op := Op.load 4 (Operand.tmp 130), type := 4, pos := "theorem.go:31", after := #[{ on := 45, ground := Ground.data }, { on := 42, ground := Ground.guard }], guard := some (42, true) }) (v := ?v46c) rfl (by kernel_rfl) (by kernel_rfl) (by kernel_rfl) (fun _ _ _ h => h) (Or.inl ⟨by rfl, ?hy46c⟩) (by exact S1) ?_
            case hy46c => (intro w hSw; (try dsimp only at hSw); go_simp; try (with_reducible rfl))
            try simp only [Act.put, List.setIfInBounds_toArray, List.set_cons_zero, List.set_cons_succ]
            refine wpAnyH_take (i := 47) (oi := { dst := some 132, op := Op.binOp BinOp.eql 4 (Operand.tmp 129) (Operand.tmp 131) 4, type := 4, pos := "theorem.go:31", after := #[{ on := 44, ground := Ground.data }, { on := 46, ground := Ground.data }, { on := 42, ground := Ground.guard }], guard := some (42, true) }) (v := ?v47c) rfl (by kernel_rfl) (by kernel_rfl) (by kernel_rfl) (fun _ _ _ h => h) (Or.inl ⟨by rfl, ?hy47c⟩) (by exact S1) ?_
            case hy47c => (intro w hSw; (try dsimp only at hSw); go_simp; try (with_reducible rfl))
            try simp only [Act.put, List.setIfInBounds_toArray, List.set_cons_zero, List.set_cons_succ]
            refine wpAnyH_take (i := 48) (oi := { dst := some 133, op := Op.pick (Operand.tmp 127) (Operand.tmp 132) (Operand.const (Value.bool false)), type := 4, pos := "theorem.go:31", after := #[{ on := 42, ground := Ground.data }, { on := 47, ground := Ground.data }, { on := 31, ground := Ground.guard }], guard := some (31, true) }) (v := ?v48c) rfl (by kernel_rfl) (by kernel_rfl) (by kernel_rfl) (fun _ _ _ h => h) (Or.inl ⟨by rfl, ?hy48c⟩) (by exact S1) ?_
            case hy48c => (intro w hSw; (try dsimp only at hSw); go_simp; try (with_reducible rfl))
            try simp only [Act.put, List.setIfInBounds_toArray, List.set_cons_zero, List.set_cons_succ]
            refine wpAnyH_take (i := 49) (oi := { dst := some 134, op := Op.binOp BinOp.eql 4 (Operand.tmp 121) (Operand.tmp 133) 4, type := 4, pos := "theorem.go:31", after := #[{ on := 36, ground := Ground.data }, { on := 48, ground := Ground.data }, { on := 31, ground := Ground.guard }], guard := some (31, true) }) (v := ?v49c) rfl (by kernel_rfl) (by kernel_rfl) (by kernel_rfl) (fun _ _ _ h => h) (Or.inl ⟨by rfl, ?hy49c⟩) (by exact S1) ?_
            case hy49c => (intro w hSw; (try dsimp only at hSw); go_simp; try (with_reducible rfl))
            try simp only [Act.put, List.setIfInBounds_toArray, List.set_cons_zero, List.set_cons_succ]
            refine wpAnyH_take (i := 50) (oi := { dst := some 135, op := Op.pick (Operand.tmp 116) (Operand.tmp 134) (Operand.const (Value.bool false)), type := 4, pos := "theorem.go:31", after := #[{ on := 31, ground := Ground.data }, { on := 49, ground := Ground.data }], guard := none }) (v := ?v50c) rfl (by kernel_rfl) (by kernel_rfl) (by kernel_rfl) (fun _ _ _ h => h) (Or.inl ⟨by rfl, ?hy50c⟩) (by exact S1) ?_
            case hy50c => (intro w hSw; (try dsimp only at hSw); go_simp; try (with_reducible rfl))
            try simp only [Act.put, List.setIfInBounds_toArray, List.set_cons_zero, List.set_cons_succ]
            refine wpAnyH_take (i := 51) (oi := { dst := some 136, op := Op.move (Operand.tmp 135), type := 4, pos := "theorem.go:31", after := #[{ on := 50, ground := Ground.data }, { on := 42, ground := Ground.chain }], guard := none }) (v := ?v51c) rfl (by kernel_rfl) (by kernel_rfl) (by kernel_rfl) (fun _ _ _ h => h) (Or.inl ⟨by rfl, ?hy51c⟩) (by exact S1) ?_
            case hy51c => (intro w hSw; (try dsimp only at hSw); go_simp; try (with_reducible rfl))
            try simp only [Act.put, List.setIfInBounds_toArray, List.set_cons_zero, List.set_cons_succ]
            refine wpAnyH_ready (rs := [52]) (by kernel_rfl) (by simp) ?_
            refine AllReadyH.cons (o := { dst := some 137, op := Op.call { callee := Callee.value (Operand.func 6), args := #[], argTypes := #[] }, type := 4, pos := "theorem.go:31", after := #[{ on := 51, ground := Ground.chain }, { on := 51, ground := Ground.guard }], guard := some (51, true) }) rfl (fun K hK => ?_) AllReadyH.nil
            go_simp
            refine (unhide KE9).mono ?_
            rintro e z9 ⟨rfl, yb⟩
            have S9 := unhide CC _ yb
            go_wp2_with fail
            refine hK.out _ _ S9 (fun _ => ?_)
            clear hK K
            try simp only [Act.put, List.setIfInBounds_toArray, List.set_cons_zero, List.set_cons_succ]
            refine wpAnyH_take (i := 53) (oi := { dst := some 138, op := Op.pick (Operand.tmp 136) (Operand.tmp 137) (Operand.const (Value.bool false)), type := 4, pos := "theorem.go:31", after := #[{ on := 51, ground := Ground.data }, { on := 52, ground := Ground.data }], guard := none }) (v := ?v53c) rfl (by kernel_rfl) (by kernel_rfl) (by kernel_rfl) (fun _ _ _ h => h) (Or.inl ⟨by rfl, ?hy53c⟩) (by exact S9) ?_
            case hy53c => (intro w hSw; (try dsimp only at hSw); go_simp; try (with_reducible rfl))
            try simp only [Act.put, List.setIfInBounds_toArray, List.set_cons_zero, List.set_cons_succ]
            refine wpAnyH_take (i := 54) (oi := { dst := some 4, op := Op.assign (Operand.tmp 138), type := 4, pos := "theorem.go:31", after := #[{ on := 53, ground := Ground.data }, { on := 52, ground := Ground.chain }, { on := 0, ground := Ground.phase }, { on := 1, ground := Ground.phase }, { on := 2, ground := Ground.phase }, { on := 3, ground := Ground.phase }, { on := 4, ground := Ground.phase }, { on := 5, ground := Ground.phase }, { on := 6, ground := Ground.phase }, { on := 7, ground := Ground.phase }, { on := 8, ground := Ground.phase }, { on := 9, ground := Ground.phase }, { on := 10, ground := Ground.phase }, { on := 11, ground := Ground.phase }, { on := 12, ground := Ground.phase }, { on := 13, ground := Ground.phase }, { on := 14, ground := Ground.phase }, { on := 15, ground := Ground.phase }, { on := 16, ground := Ground.phase }, { on := 17, ground := Ground.phase }, { on := 18, ground := Ground.phase }, { on := 19, ground := Ground.phase }, { on := 20, ground := Ground.phase }, { on := 21, ground := Ground.phase }, { on := 22, ground := Ground.phase }, { on := 23, ground := Ground.phase }, { on := 24, ground := Ground.phase }, { on := 25, ground := Ground.phase }, { on := 26, ground := Ground.phase }, { on := 27, ground := Ground.phase }, { on := 28, ground := Ground.phase }, { on := 29, ground := Ground.phase }, { on := 30, ground := Ground.phase }, { on := 31, ground := Ground.phase }, { on := 32, ground := Ground.phase }, { on := 33, ground := Ground.phase }, { on := 34, ground := Ground.phase }, { on := 35, ground := Ground.phase }, { on := 36, ground := Ground.phase }, { on := 37, ground := Ground.phase }, { on := 38, ground := Ground.phase }, { on := 39, ground := Ground.phase }, { on := 40, ground := Ground.phase }, { on := 41, ground := Ground.phase }, { on := 42, ground := Ground.phase }, { on := 43, ground := Ground.phase }, { on := 44, ground := Ground.phase }, { on := 45, ground := Ground.phase }, { on := 46, ground := Ground.phase }, { on := 47, ground := Ground.phase }, { on := 48, ground := Ground.phase }, { on := 49, ground := Ground.phase }, { on := 50, ground := Ground.phase }, { on := 51, ground := Ground.phase }, { on := 52, ground := Ground.phase }, { on := 53, ground := Ground.phase }], guard := none }) (v := ?v54c) rfl (by kernel_rfl) (by kernel_rfl) (by kernel_rfl) (fun _ _ _ h => h) (Or.inl ⟨by rfl, ?hy54c⟩) (by exact S9) ?_
            case hy54c => (intro w hSw; (try dsimp only at hSw); go_simp; try (with_reducible rfl))
            try simp only [Act.put, List.setIfInBounds_toArray, List.set_cons_zero, List.set_cons_succ]
            refine wpAnyH_done (by kernel_rfl) ?_ _
            refine NoPanic.normal ?_
            go_wp2_with fail
            go_ret
            exact ⟨rfl, unhide HBw _ (bw_tr (unhide B5) yb)⟩
      · obtain ⟨rfl, rfl⟩ := himp rfl
        have e0' : (p0 == q0) = true := e0
        have f0' : decide (p0 = q0) = true := f0
        clear e0 f0 himp
        refine wp_region_noPanic ?_
        refine wp_region_held_drew (S := fun w' : World => w'.cell? ⟨pb, 0, none⟩ = some (.int .i64 p0) ∧ w'.cell? ⟨pb, 1, none⟩ = some (.int .i64 p1) ∧ w'.cell? ⟨pb, 2, none⟩ = some (.int .i64 p2) ∧ w'.cell? ⟨pb, 5, none⟩ = some (.int .i64 p5) ∧ w'.cell? ⟨qb, 0, none⟩ = some (.int .i64 q0) ∧ w'.cell? ⟨qb, 1, none⟩ = some (.int .i64 q1) ∧ w'.cell? ⟨qb, 2, none⟩ = some (.int .i64 q2) ∧ w'.cell? ⟨qb, 5, none⟩ = some (.int .i64 q5) ∧ w'.cell? ⟨w.heap.size, 0, none⟩ = some (.bool a0) ∧ w'.cell? ⟨w.heap.size, 1, none⟩ = some (.bool a1) ∧ w'.cell? ⟨w.heap.size, 2, none⟩ = some (.bool a2) ∧ w'.cell? ⟨w.heap.size + 1, 0, none⟩ = some (.bool b0) ∧ w'.cell? ⟨w.heap.size + 1, 1, none⟩ = some (.bool b1) ∧ w'.cell? ⟨w.heap.size + 1, 2, none⟩ = some (.bool b2)) (by kernel_rfl) S1 (fun hHeld => ?_)
        refine wpAnyH_take (i := 0) (oi := { dst := some 85, op := Op.fieldAddr 33 (Operand.tmp 11) 1, type := 0, pos := "theorem.go:31", after := #[], guard := none }) (v := ?v0d) rfl (by kernel_rfl) (by kernel_rfl) (by kernel_rfl) (fun _ _ _ h => h) (Or.inl ⟨by rfl, ?hy0d⟩) (by exact S1) ?_
        case hy0d => (intro w hSw; (try dsimp only at hSw); go_simp; try (with_reducible rfl))
        try simp only [Act.put, List.setIfInBounds_toArray, List.set_cons_zero, List.set_cons_succ]
        refine wpAnyH_take (i := 1) (oi := { dst := some 86, op := Op.load 3 (Operand.tmp 85), type := 3, pos := "theorem.go:31", after := #[{ on := 0, ground := Ground.data }], guard := none }) (v := ?v1d) rfl (by kernel_rfl) (by kernel_rfl) (by kernel_rfl) (fun _ _ _ h => h) (Or.inl ⟨by rfl, ?hy1d⟩) (by exact S1) ?_
        case hy1d => (intro w hSw; (try dsimp only at hSw); go_simp; try (with_reducible rfl))
        try simp only [Act.put, List.setIfInBounds_toArray, List.set_cons_zero, List.set_cons_succ]
        refine wpAnyH_take (i := 2) (oi := { dst := some 87, op := Op.fieldAddr 33 (Operand.tmp 13) 1, type := 0, pos := "theorem.go:31", after := #[], guard := none }) (v := ?v2d) rfl (by kernel_rfl) (by kernel_rfl) (by kernel_rfl) (fun _ _ _ h => h) (Or.inl ⟨by rfl, ?hy2d⟩) (by exact S1) ?_
        case hy2d => (intro w hSw; (try dsimp only at hSw); go_simp; try (with_reducible rfl))
        try simp only [Act.put, List.setIfInBounds_toArray, List.set_cons_zero, List.set_cons_succ]
        refine wpAnyH_take (i := 3) (oi := { dst := some 88, op := Op.load 3 (Operand.tmp 87), type := 3, pos := "theorem.go:31", after := #[{ on := 2, ground := Ground.data }], guard := none }) (v := ?v3d) rfl (by kernel_rfl) (by kernel_rfl) (by kernel_rfl) (fun _ _ _ h => h) (Or.inl ⟨by rfl, ?hy3d⟩) (by exact S1) ?_
        case hy3d => (intro w hSw; (try dsimp only at hSw); go_simp; try (with_reducible rfl))
        try simp only [Act.put, List.setIfInBounds_toArray, List.set_cons_zero, List.set_cons_succ]
        refine wpAnyH_take (i := 4) (oi := { dst := some 89, op := Op.binOp BinOp.eql 3 (Operand.tmp 86) (Operand.tmp 88) 3, type := 4, pos := "theorem.go:31", after := #[{ on := 1, ground := Ground.data }, { on := 3, ground := Ground.data }], guard := none }) (v := ?v4d) rfl (by kernel_rfl) (by kernel_rfl) (by kernel_rfl) (fun _ _ _ h => h) (Or.inl ⟨by rfl, ?hy4d⟩) (by exact S1) ?_
        case hy4d => (intro w hSw; (try dsimp only at hSw); go_simp; try (with_reducible rfl))
        try simp only [Act.put, List.setIfInBounds_toArray, List.set_cons_zero, List.set_cons_succ]
        refine wpAnyH_take (i := 5) (oi := { dst := some 90, op := Op.load 22 (Operand.tmp 2), type := 22, pos := "theorem.go:31", after := #[], guard := none }) (v := ?v5d) rfl (by kernel_rfl) (by kernel_rfl) (by kernel_rfl) (fun _ _ _ h => h) (Or.inl ⟨by rfl, ?hy5d⟩) (by exact S1) ?_
        case hy5d => (intro w hSw; (try dsimp only at hSw); go_simp; try (with_reducible rfl))
        try simp only [Act.put, List.setIfInBounds_toArray, List.set_cons_zero, List.set_cons_succ]
        refine wpAnyH_take (i := 6) (oi := { dst := some 91, op := Op.load 22 (Operand.tmp 3), type := 22, pos := "theorem.go:31", after := #[], guard := none }) (v := ?v6d) rfl (by kernel_rfl) (by kernel_rfl) (by kernel_rfl) (fun _ _ _ h => h) (Or.inl ⟨by rfl, ?hy6d⟩) (by exact S1) ?_
        case hy6d => (intro w hSw; (try dsimp only at hSw); go_simp; try (with_reducible rfl))
        try simp only [Act.put, List.setIfInBounds_toArray, List.set_cons_zero, List.set_cons_succ]
        refine wpAnyH_take (i := 7) (oi := { dst := some 92, op := Op.binOp BinOp.eql 22 (Operand.tmp 90) (Operand.tmp 91) 22, type := 4, pos := "theorem.go:31", after := #[{ on := 5, ground := Ground.data }, { on := 6, ground := Ground.data }], guard := none }) (v := ?v7d) rfl (by kernel_rfl) (by kernel_rfl) (by kernel_rfl) (fun _ _ _ h => h) (Or.inl ⟨by rfl, ?hy7d⟩) (by exact S1) ?_
        case hy7d => (intro w hSw; (try dsimp only at hSw); go_simp; try (with_reducible rfl))
        try simp only [Act.put, List.setIfInBounds_toArray, List.set_cons_zero, List.set_cons_succ]
        refine wpAnyH_take (i := 8) (oi := { dst := some 93, op := Op.binOp BinOp.eql 4 (Operand.tmp 89) (Operand.tmp 92) 4, type := 4, pos := "theorem.go:31", after := #[{ on := 4, ground := Ground.data }, { on := 7, ground := Ground.data }], guard := none }) (v := ?v8d) rfl (by kernel_rfl) (by kernel_rfl) (by kernel_rfl) (fun _ _ _ h => h) (Or.inl ⟨by rfl, ?hy8d⟩) (by exact S1) ?_
        case hy8d => (intro w hSw; (try dsimp only at hSw); go_simp; try (with_reducible rfl))
        try simp only [Act.put, List.setIfInBounds_toArray, List.set_cons_zero, List.set_cons_succ]
        refine wpAnyH_take (i := 9) (oi := { dst := some 94, op := Op.move (Operand.tmp 93), type := 4, pos := "theorem.go:31", after := #[{ on := 8, ground := Ground.data }], guard := none }) (v := ?v9d) rfl (by kernel_rfl) (by kernel_rfl) (by kernel_rfl) (fun _ _ _ h => h) (Or.inl ⟨by rfl, ?hy9d⟩) (by exact S1) ?_
        case hy9d => (intro w hSw; (try dsimp only at hSw); go_simp; try (with_reducible rfl))
        try simp only [Act.put, List.setIfInBounds_toArray, List.set_cons_zero, List.set_cons_succ]
        refine wpAnyH_take (i := 10) (oi := { dst := some 95, op := Op.fieldAddr 33 (Operand.tmp 11) 2, type := 0, pos := "theorem.go:31", after := #[{ on := 9, ground := Ground.guard }], guard := some (9, true) }) (v := ?v10d) rfl (by kernel_rfl) (by kernel_rfl) (by kernel_rfl) (fun _ _ _ h => h) (Or.inl ⟨by rfl, ?hy10d⟩) (by exact S1) ?_
        case hy10d => (intro w hSw; (try dsimp only at hSw); go_simp; try (with_reducible rfl))
        try simp only [Act.put, List.setIfInBounds_toArray, List.set_cons_zero, List.set_cons_succ]
        refine wpAnyH_take (i := 11) (oi := { dst := some 96, op := Op.load 3 (Operand.tmp 95), type := 3, pos := "theorem.go:31", after := #[{ on := 10, ground := Ground.data }, { on := 9, ground := Ground.guard }], guard := some (9, true) }) (v := ?v11d) rfl (by kernel_rfl) (by kernel_rfl) (by kernel_rfl) (fun _ _ _ h => h) (Or.inl ⟨by rfl, ?hy11d⟩) (by exact S1) ?_
        case hy11d => (intro w hSw; (try dsimp only at hSw); go_simp; try (with_reducible rfl))
        try simp only [Act.put, List.setIfInBounds_toArray, List.set_cons_zero, List.set_cons_succ]
        refine wpAnyH_take (i := 12) (oi := { dst := some 97, op := Op.fieldAddr 33 (Operand.tmp 13) 2, type := 0, pos := "theorem.go:31", after := #[{ on := 9, ground := Ground.guard }], guard := some (9, true) }) (v := ?v12d) rfl (by kernel_rfl) (by kernel_rfl) (by kernel_rfl) (fun _ _ _ h => h) (Or.inl ⟨by rfl, ?hy12d⟩) (by exact S1) ?_
        case hy12d => (intro w hSw; (try dsimp only at hSw); go_simp; try (with_reducible rfl))
        try simp only [Act.put, List.setIfInBounds_toArray, List.set_cons_zero, List.set_cons_succ]
        refine wpAnyH_take (i := 13) (oi := { dst := some 98, op := Op.load 3 (Operand.tmp 97), type := 3, pos := "theorem.go:31", after := #[{ on := 12, ground := Ground.data }, { on := 9, ground := Ground.guard }], guard := some (9, true) }) (v := ?v13d) rfl (by kernel_rfl) (by kernel_rfl) (by kernel_rfl) (fun _ _ _ h => h) (Or.inl ⟨by rfl, ?hy13d⟩) (by exact S1) ?_
        case hy13d => (intro w hSw; (try dsimp only at hSw); go_simp; try (with_reducible rfl))
        try simp only [Act.put, List.setIfInBounds_toArray, List.set_cons_zero, List.set_cons_succ]
        refine wpAnyH_take (i := 14) (oi := { dst := some 99, op := Op.binOp BinOp.eql 3 (Operand.tmp 96) (Operand.tmp 98) 3, type := 4, pos := "theorem.go:31", after := #[{ on := 11, ground := Ground.data }, { on := 13, ground := Ground.data }, { on := 9, ground := Ground.guard }], guard := some (9, true) }) (v := ?v14d) rfl (by kernel_rfl) (by kernel_rfl) (by kernel_rfl) (fun _ _ _ h => h) (Or.inl ⟨by rfl, ?hy14d⟩) (by exact S1) ?_
        case hy14d => (intro w hSw; (try dsimp only at hSw); go_simp; try (with_reducible rfl))
        try simp only [Act.put, List.setIfInBounds_toArray, List.set_cons_zero, List.set_cons_succ]
        refine wpAnyH_take (i := 15) (oi := { dst := some 100, op := Op.load 22 (Operand.tmp 2), type := 22, pos := "theorem.go:31", after := #[{ on := 9, ground := Ground.guard }], guard := some (9, true) }) (v := ?v15d) rfl (by kernel_rfl) (by kernel_rfl) (by kernel_rfl) (fun _ _ _ h => h) (Or.inl ⟨by rfl, ?hy15d⟩) (by exact S1) ?_
        case hy15d => (intro w hSw; (try dsimp only at hSw); go_simp; try (with_reducible rfl))
        try simp only [Act.put, List.setIfInBounds_toArray, List.set_cons_zero, List.set_cons_succ]
        refine wpAnyH_take (i := 16) (oi := { dst := some 101, op := Op.load 22 (Operand.tmp 3), type := 22, pos := "theorem.go:31", after := #[{ on := 9, ground := Ground.guard }], guard := some (9, true) }) (v := ?v16d) rfl (by kernel_rfl) (by kernel_rfl) (by kernel_rfl) (fun _ _ _ h => h) (Or.inl ⟨by rfl, ?hy16d⟩) (by exact S1) ?_
        case hy16d => (intro w hSw; (try dsimp only at hSw); go_simp; try (with_reducible rfl))
        try simp only [Act.put, List.setIfInBounds_toArray, List.set_cons_zero, List.set_cons_succ]
        refine wpAnyH_take (i := 17) (oi := { dst := some 102, op := Op.binOp BinOp.eql 22 (Operand.tmp 100) (Operand.tmp 101) 22, type := 4, pos := "theorem.go:31", after := #[{ on := 15, ground := Ground.data }, { on := 16, ground := Ground.data }, { on := 9, ground := Ground.guard }], guard := some (9, true) }) (v := ?v17d) rfl (by kernel_rfl) (by kernel_rfl) (by kernel_rfl) (fun _ _ _ h => h) (Or.inl ⟨by rfl, ?hy17d⟩) (by exact S1) ?_
        case hy17d => (intro w hSw; (try dsimp only at hSw); go_simp; try (with_reducible rfl))
        try simp only [Act.put, List.setIfInBounds_toArray, List.set_cons_zero, List.set_cons_succ]
        refine wpAnyH_take (i := 18) (oi := { dst := some 103, op := Op.binOp BinOp.eql 4 (Operand.tmp 99) (Operand.tmp 102) 4, type := 4, pos := "theorem.go:31", after := #[{ on := 14, ground := Ground.data }, { on := 17, ground := Ground.data }, { on := 9, ground := Ground.guard }], guard := some (9, true) }) (v := ?v18d) rfl (by kernel_rfl) (by kernel_rfl) (by kernel_rfl) (fun _ _ _ h => h) (Or.inl ⟨by rfl, ?hy18d⟩) (by exact S1) ?_
        case hy18d => (intro w hSw; (try dsimp only at hSw); go_simp; try (with_reducible rfl))
        try simp only [Act.put, List.setIfInBounds_toArray, List.set_cons_zero, List.set_cons_succ]
        refine wpAnyH_take (i := 19) (oi := { dst := some 104, op := Op.pick (Operand.tmp 94) (Operand.tmp 103) (Operand.const (Value.bool false)), type := 4, pos := "theorem.go:31", after := #[{ on := 9, ground := Ground.data }, { on := 18, ground := Ground.data }], guard := none }) (v := ?v19d) rfl (by kernel_rfl) (by kernel_rfl) (by kernel_rfl) (fun _ _ _ h => h) (Or.inl ⟨by rfl, ?hy19d⟩) (by exact S1) ?_
        case hy19d => (intro w hSw; (try dsimp only at hSw); go_simp; try (with_reducible rfl))
        try simp only [Act.put, List.setIfInBounds_toArray, List.set_cons_zero, List.set_cons_succ]
        refine wpAnyH_take (i := 20) (oi := { dst := some 105, op := Op.move (Operand.tmp 104), type := 4, pos := "theorem.go:31", after := #[{ on := 19, ground := Ground.data }, { on := 9, ground := Ground.chain }], guard := none }) (v := ?v20d) rfl (by kernel_rfl) (by kernel_rfl) (by kernel_rfl) (fun _ _ _ h => h) (Or.inl ⟨by rfl, ?hy20d⟩) (by exact S1) ?_
        case hy20d => (intro w hSw; (try dsimp only at hSw); go_simp; try (with_reducible rfl))
        try simp only [Act.put, List.setIfInBounds_toArray, List.set_cons_zero, List.set_cons_succ]
        refine wpAnyH_take (i := 21) (oi := { dst := some 106, op := Op.fieldAddr 33 (Operand.tmp 11) 5, type := 0, pos := "theorem.go:31", after := #[{ on := 20, ground := Ground.guard }], guard := some (20, true) }) (v := ?v21d) rfl (by kernel_rfl) (by kernel_rfl) (by kernel_rfl) (fun _ _ _ h => h) (Or.inl ⟨by rfl, ?hy21d⟩) (by exact S1) ?_
        case hy21d => (intro w hSw; (try dsimp only at hSw); go_simp; try (with_reducible rfl))
        try simp only [Act.put, List.setIfInBounds_toArray, List.set_cons_zero, List.set_cons_succ]
        refine wpAnyH_take (i := 22) (oi := { dst := some 107, op := Op.load 3 (Operand.tmp 106), type := 3, pos := "theorem.go:31", after := #[{ on := 21, ground := Ground.data }, { on := 20, ground := Ground.guard }], guard := some (20, true) }) (v := ?v22d) rfl (by kernel_rfl) (by kernel_rfl) (by kernel_rfl) (fun _ _ _ h => h) (Or.inl ⟨by rfl, ?hy22d⟩) (by exact S1) ?_
        case hy22d => (intro w hSw; (try dsimp only at hSw); go_simp; try (with_reducible rfl))
        try simp only [Act.put, List.setIfInBounds_toArray, List.set_cons_zero, List.set_cons_succ]
        refine wpAnyH_take (i := 23) (oi := { dst := some 108, op := Op.fieldAddr 33 (Operand.tmp 13) 5, type := 0, pos := "theorem.go:31", after := #[{ on := 20, ground := Ground.guard }], guard := some (20, true) }) (v := ?v23d) rfl (by kernel_rfl) (by kernel_rfl) (by kernel_rfl) (fun _ _ _ h => h) (Or.inl ⟨by rfl, ?hy23d⟩) (by exact S1) ?_
        case hy23d => (intro w hSw; (try dsimp only at hSw); go_simp; try (with_reducible rfl))
        try simp only [Act.put, List.setIfInBounds_toArray, List.set_cons_zero, List.set_cons_succ]
        refine wpAnyH_take (i := 24) (oi := { dst := some 109, op := Op.load 3 (Operand.tmp 108), type := 3, pos := "theorem.go:31", after := #[{ on := 23, ground := Ground.data }, { on := 20, ground := Ground.guard }], guard := some (20, true) }) (v := ?v24d) rfl (by kernel_rfl) (by kernel_rfl) (by kernel_rfl) (fun _ _ _ h => h) (Or.inl ⟨by rfl, ?hy24d⟩) (by exact S1) ?_
        case hy24d => (intro w hSw; (try dsimp only at hSw); go_simp; try (with_reducible rfl))
        try simp only [Act.put, List.setIfInBounds_toArray, List.set_cons_zero, List.set_cons_succ]
        refine wpAnyH_take (i := 25) (oi := { dst := some 110, op := Op.binOp BinOp.eql 3 (Operand.tmp 107) (Operand.tmp 109) 3, type := 4, pos := "theorem.go:31", after := #[{ on := 22, ground := Ground.data }, { on := 24, ground := Ground.data }, { on := 20, ground := Ground.guard }], guard := some (20, true) }) (v := ?v25d) rfl (by kernel_rfl) (by kernel_rfl) (by kernel_rfl) (fun _ _ _ h => h) (Or.inl ⟨by rfl, ?hy25d⟩) (by exact S1) ?_
        case hy25d => (intro w hSw; (try dsimp only at hSw); go_simp; try (with_reducible rfl))
        try simp only [Act.put, List.setIfInBounds_toArray, List.set_cons_zero, List.set_cons_succ]
        refine wpAnyH_take (i := 26) (oi := { dst := some 111, op := Op.load 22 (Operand.tmp 2), type := 22, pos := "theorem.go:31", after := #[{ on := 20, ground := Ground.guard }], guard := some (20, true) }) (v := ?v26d) rfl (by kernel_rfl) (by kernel_rfl) (by kernel_rfl) (fun _ _ _ h => h) (Or.inl ⟨by rfl, ?hy26d⟩) (by exact S1) ?_
        case hy26d => (intro w hSw; (try dsimp only at hSw); go_simp; try (with_reducible rfl))
        try simp only [Act.put, List.setIfInBounds_toArray, List.set_cons_zero, List.set_cons_succ]
        refine wpAnyH_take (i := 27) (oi := { dst := some 112, op := Op.load 22 (Operand.tmp 3), type := 22, pos := "theorem.go:31", after := #[{ on := 20, ground := Ground.guard }], guard := some (20, true) }) (v := ?v27d) rfl (by kernel_rfl) (by kernel_rfl) (by kernel_rfl) (fun _ _ _ h => h) (Or.inl ⟨by rfl, ?hy27d⟩) (by exact S1) ?_
        case hy27d => (intro w hSw; (try dsimp only at hSw); go_simp; try (with_reducible rfl))
        try simp only [Act.put, List.setIfInBounds_toArray, List.set_cons_zero, List.set_cons_succ]
        refine wpAnyH_take (i := 28) (oi := { dst := some 113, op := Op.binOp BinOp.eql 22 (Operand.tmp 111) (Operand.tmp 112) 22, type := 4, pos := "theorem.go:31", after := #[{ on := 26, ground := Ground.data }, { on := 27, ground := Ground.data }, { on := 20, ground := Ground.guard }], guard := some (20, true) }) (v := ?v28d) rfl (by kernel_rfl) (by kernel_rfl) (by kernel_rfl) (fun _ _ _ h => h) (Or.inl ⟨by rfl, ?hy28d⟩) (by exact S1) ?_
        case hy28d => (intro w hSw; (try dsimp only at hSw); go_simp; try (with_reducible rfl))
        try simp only [Act.put, List.setIfInBounds_toArray, List.set_cons_zero, List.set_cons_succ]
        refine wpAnyH_take (i := 29) (oi := { dst := some 114, op := Op.binOp BinOp.eql 4 (Operand.tmp 110) (Operand.tmp 113) 4, type := 4, pos := "theorem.go:31", after := #[{ on := 25, ground := Ground.data }, { on := 28, ground := Ground.data }, { on := 20, ground := Ground.guard }], guard := some (20, true) }) (v := ?v29d) rfl (by kernel_rfl) (by kernel_rfl) (by kernel_rfl) (fun _ _ _ h => h) (Or.inl ⟨by rfl, ?hy29d⟩) (by exact S1) ?_
        case hy29d => (intro w hSw; (try dsimp only at hSw); go_simp; try (with_reducible rfl))
        try simp only [Act.put, List.setIfInBounds_toArray, List.set_cons_zero, List.set_cons_succ]
        refine wpAnyH_take (i := 30) (oi := { dst := some 115, op := Op.pick (Operand.tmp 105) (Operand.tmp 114) (Operand.const (Value.bool false)), type := 4, pos := "theorem.go:31", after := #[{ on := 20, ground := Ground.data }, { on := 29, ground := Ground.data }], guard := none }) (v := ?v30d) rfl (by kernel_rfl) (by kernel_rfl) (by kernel_rfl) (fun _ _ _ h => h) (Or.inl ⟨by rfl, ?hy30d⟩) (by exact S1) ?_
        case hy30d => (intro w hSw; (try dsimp only at hSw); go_simp; try (with_reducible rfl))
        try simp only [Act.put, List.setIfInBounds_toArray, List.set_cons_zero, List.set_cons_succ]
        refine wpAnyH_take (i := 31) (oi := { dst := some 116, op := Op.move (Operand.tmp 115), type := 4, pos := "theorem.go:31", after := #[{ on := 30, ground := Ground.data }, { on := 20, ground := Ground.chain }], guard := none }) (v := ?v31d) rfl (by kernel_rfl) (by kernel_rfl) (by kernel_rfl) (fun _ _ _ h => h) (Or.inl ⟨by rfl, ?hy31d⟩) (by exact S1) ?_
        case hy31d => (intro w hSw; (try dsimp only at hSw); go_simp; try (with_reducible rfl))
        try simp only [Act.put, List.setIfInBounds_toArray, List.set_cons_zero, List.set_cons_succ]
        refine wpAnyH_take (i := 32) (oi := { dst := some 117, op := Op.fieldAddr 33 (Operand.tmp 11) 0, type := 0, pos := "theorem.go:31", after := #[{ on := 31, ground := Ground.guard }], guard := some (31, true) }) (v := ?v32d) rfl (by kernel_rfl) (by kernel_rfl) (by kernel_rfl) (fun _ _ _ h => h) (Or.inl ⟨by rfl, ?hy32d⟩) (by exact S1) ?_
        case hy32d => (intro w hSw; (try dsimp only at hSw); go_simp; try (with_reducible rfl))
        try simp only [Act.put, List.setIfInBounds_toArray, List.set_cons_zero, List.set_cons_succ]
        refine wpAnyH_take (i := 33) (oi := { dst := some 118, op := Op.load 3 (Operand.tmp 117), type := 3, pos := "theorem.go:31", after := #[{ on := 32, ground := Ground.data }, { on := 31, ground := Ground.guard }], guard := some (31, true) }) (v := ?v33d) rfl (by kernel_rfl) (by kernel_rfl) (by kernel_rfl) (fun _ _ _ h => h) (Or.inl ⟨by rfl, ?hy33d⟩) (by exact S1) ?_
        case hy33d => (intro w hSw; (try dsimp only at hSw); go_simp; try (with_reducible rfl))
        try simp only [Act.put, List.setIfInBounds_toArray, List.set_cons_zero, List.set_cons_succ]
        refine wpAnyH_take (i := 34) (oi := { dst := some 119, op := Op.fieldAddr 33 (Operand.tmp 13) 0, type := 0, pos := "theorem.go:31", after := #[{ on := 31, ground := Ground.guard }], guard := some (31, true) }) (v := ?v34d) rfl (by kernel_rfl) (by kernel_rfl) (by kernel_rfl) (fun _ _ _ h => h) (Or.inl ⟨by rfl, ?hy34d⟩) (by exact S1) ?_
        case hy34d => (intro w hSw; (try dsimp only at hSw); go_simp; try (with_reducible rfl))
        try simp only [Act.put, List.setIfInBounds_toArray, List.set_cons_zero, List.set_cons_succ]
        refine wpAnyH_take (i := 35) (oi := { dst := some 120, op := Op.load 3 (Operand.tmp 119), type := 3, pos := "theorem.go:31", after := #[{ on := 34, ground := Ground.data }, { on := 31, ground := Ground.guard }], guard := some (31, true) }) (v := ?v35d) rfl (by kernel_rfl) (by kernel_rfl) (by kernel_rfl) (fun _ _ _ h => h) (Or.inl ⟨by rfl, ?hy35d⟩) (by exact S1) ?_
        case hy35d => (intro w hSw; (try dsimp only at hSw); go_simp; try (with_reducible rfl))
        try simp only [Act.put, List.setIfInBounds_toArray, List.set_cons_zero, List.set_cons_succ]
        refine wpAnyH_take (i := 36) (oi := { dst := some 121, op := Op.binOp BinOp.eql 3 (Operand.tmp 118) (Operand.tmp 120) 3, type := 4, pos := "theorem.go:31", after := #[{ on := 33, ground := Ground.data }, { on := 35, ground := Ground.data }, { on := 31, ground := Ground.guard }], guard := some (31, true) }) (v := ?v36d) rfl (by kernel_rfl) (by kernel_rfl) (by kernel_rfl) (fun _ _ _ h => h) (Or.inl ⟨by rfl, ?hy36d⟩) (by exact S1) ?_
        case hy36d => (intro w hSw; (try dsimp only at hSw); go_simp; try (with_reducible rfl))
        try simp only [Act.put, List.setIfInBounds_toArray, List.set_cons_zero, List.set_cons_succ]
        refine wpAnyH_take (i := 37) (oi := { dst := some 122, op := Op.indexAddr 22 (Operand.tmp 2) (Operand.const (Value.int IntKind.i64 0)), type := 0, pos := "theorem.go:31", after := #[{ on := 31, ground := Ground.guard }], guard := some (31, true) }) (v := ?v37d) rfl (by kernel_rfl) (by kernel_rfl) (by kernel_rfl) (fun _ _ _ h => h) (Or.inl ⟨by rfl, ?hy37d⟩) (by exact S1) ?_
        case hy37d => (intro w hSw; (try dsimp only at hSw); go_simp; try (with_reducible rfl))
        try simp only [Act.put, List.setIfInBounds_toArray, List.set_cons_zero, List.set_cons_succ]
        refine wpAnyH_take (i := 38) (oi := { dst := some 123, op := Op.load 4 (Operand.tmp 122), type := 4, pos := "theorem.go:31", after := #[{ on := 37, ground := Ground.data }, { on := 31, ground := Ground.guard }], guard := some (31, true) }) (v := ?v38d) rfl (by kernel_rfl) (by kernel_rfl) (by kernel_rfl) (fun _ _ _ h => h) (Or.inl ⟨by rfl, ?hy38d⟩) (by exact S1) ?_
        case hy38d => (intro w hSw; (try dsimp only at hSw); go_simp; try (with_reducible rfl))
        try simp only [Act.put, List.setIfInBounds_toArray, List.set_cons_zero, List.set_cons_succ]
        refine wpAnyH_take (i := 39) (oi := { dst := some 124, op := Op.indexAddr 22 (Operand.tmp 3) (Operand.const (Value.int IntKind.i64 0)), type := 0, pos := "theorem.go:31", after := #[{ on := 31, ground := Ground.guard }], guard := some (31, true) }) (v := ?v39d) rfl (by kernel_rfl) (by kernel_rfl) (by kernel_rfl) (fun _ _ _ h => h) (Or.inl ⟨by rfl, ?hy39d⟩) (by exact S1) ?_
        case hy39d => (intro w hSw; (try dsimp only at hSw); go_simp; try (with_reducible rfl))
        try simp only [Act.put, List.setIfInBounds_toArray, List.set_cons_zero, List.set_cons_succ]
        refine wpAnyH_take (i := 40) (oi := { dst := some 125, op := Op.load 4 (Operand.tmp 124), type := 4, pos := "theorem.go:31", after := #[{ on := 39, ground := Ground.data }, { on := 31, ground := Ground.guard }], guard := some (31, true) }) (v := ?v40d) rfl (by kernel_rfl) (by kernel_rfl) (by kernel_rfl) (fun _ _ _ h => h) (Or.inl ⟨by rfl, ?hy40d⟩) (by exact S1) ?_
        case hy40d => (intro w hSw; (try dsimp only at hSw); go_simp; try (with_reducible rfl))
        try simp only [Act.put, List.setIfInBounds_toArray, List.set_cons_zero, List.set_cons_succ]
        refine wpAnyH_take (i := 41) (oi := { dst := some 126, op := Op.binOp BinOp.eql 4 (Operand.tmp 123) (Operand.tmp 125) 4, type := 4, pos := "theorem.go:31", after := #[{ on := 38, ground := Ground.data }, { on := 40, ground := Ground.data }, { on := 31, ground := Ground.guard }], guard := some (31, true) }) (v := ?v41d) rfl (by kernel_rfl) (by kernel_rfl) (by kernel_rfl) (fun _ _ _ h => h) (Or.inl ⟨by rfl, ?hy41d⟩) (by exact S1) ?_
        case hy41d => (intro w hSw; (try dsimp only at hSw); go_simp; try (with_reducible rfl))
        try simp only [Act.put, List.setIfInBounds_toArray, List.set_cons_zero, List.set_cons_succ]
        refine wpAnyH_take (i := 42) (oi := { dst := some 127, op := Op.move (Operand.tmp 126), type := 4, pos := "theorem.go:31", after := #[{ on := 41, ground := Ground.data }, { on := 31, ground := Ground.chain }, { on := 31, ground := Ground.guard }], guard := some (31, true) }) (v := ?v42d) rfl (by kernel_rfl) (by kernel_rfl) (by kernel_rfl) (fun _ _ _ h => h) (Or.inl ⟨by rfl, ?hy42d⟩) (by exact S1) ?_
        case hy42d => (intro w hSw; (try dsimp only at hSw); go_simp; try (with_reducible rfl))
        try simp only [Act.put, List.setIfInBounds_toArray, List.set_cons_zero, List.set_cons_succ]
        refine wpAnyH_take (i := 43) (oi := { dst := some 128, op := Op.indexAddr 22 (Operand.tmp 2) (Operand.const (Value.int IntKind.i64 1)), type := 0, pos := "theorem.go:31", after := #[{ on := 42, ground := Ground.guard }], guard := some (42, true) }) (v := ?v43d) rfl (by kernel_rfl) (by kernel_rfl) (by kernel_rfl) (fun _ _ _ h => h) (Or.inl ⟨by rfl, ?hy43d⟩) (by exact S1) ?_
        case hy43d => (intro w hSw; (try dsimp only at hSw); go_simp; try (with_reducible rfl))
        try simp only [Act.put, List.setIfInBounds_toArray, List.set_cons_zero, List.set_cons_succ]
        refine wpAnyH_take (i := 44) (oi := { dst := some 129, op := Op.load 4 (Operand.tmp 128), type := 4, pos := "theorem.go:31", after := #[{ on := 43, ground := Ground.data }, { on := 42, ground := Ground.guard }], guard := some (42, true) }) (v := ?v44d) rfl (by kernel_rfl) (by kernel_rfl) (by kernel_rfl) (fun _ _ _ h => h) (Or.inl ⟨by rfl, ?hy44d⟩) (by exact S1) ?_
        case hy44d => (intro w hSw; (try dsimp only at hSw); go_simp; try (with_reducible rfl))
        try simp only [Act.put, List.setIfInBounds_toArray, List.set_cons_zero, List.set_cons_succ]
        refine wpAnyH_take (i := 45) (oi := { dst := some 130, op := Op.indexAddr 22 (Operand.tmp 3) (Operand.const (Value.int IntKind.i64 1)), type := 0, pos := "theorem.go:31", after := #[{ on := 42, ground := Ground.guard }], guard := some (42, true) }) (v := ?v45d) rfl (by kernel_rfl) (by kernel_rfl) (by kernel_rfl) (fun _ _ _ h => h) (Or.inl ⟨by rfl, ?hy45d⟩) (by exact S1) ?_
        case hy45d => (intro w hSw; (try dsimp only at hSw); go_simp; try (with_reducible rfl))
        try simp only [Act.put, List.setIfInBounds_toArray, List.set_cons_zero, List.set_cons_succ]
        refine wpAnyH_take (i := 46) (oi := { dst := some 131, op := Op.load 4 (Operand.tmp 130), type := 4, pos := "theorem.go:31", after := #[{ on := 45, ground := Ground.data }, { on := 42, ground := Ground.guard }], guard := some (42, true) }) (v := ?v46d) rfl (by kernel_rfl) (by kernel_rfl) (by kernel_rfl) (fun _ _ _ h => h) (Or.inl ⟨by rfl, ?hy46d⟩) (by exact S1) ?_
        case hy46d => (intro w hSw; (try dsimp only at hSw); go_simp; try (with_reducible rfl))
        try simp only [Act.put, List.setIfInBounds_toArray, List.set_cons_zero, List.set_cons_succ]
        refine wpAnyH_take (i := 47) (oi := { dst := some 132, op := Op.binOp BinOp.eql 4 (Operand.tmp 129) (Operand.tmp 131) 4, type := 4, pos := "theorem.go:31", after := #[{ on := 44, ground := Ground.data }, { on := 46, ground := Ground.data }, { on := 42, ground := Ground.guard }], guard := some (42, true) }) (v := ?v47d) rfl (by kernel_rfl) (by kernel_rfl) (by kernel_rfl) (fun _ _ _ h => h) (Or.inl ⟨by rfl, ?hy47d⟩) (by exact S1) ?_
        case hy47d => (intro w hSw; (try dsimp only at hSw); go_simp; try (with_reducible rfl))
        try simp only [Act.put, List.setIfInBounds_toArray, List.set_cons_zero, List.set_cons_succ]
        refine wpAnyH_take (i := 48) (oi := { dst := some 133, op := Op.pick (Operand.tmp 127) (Operand.tmp 132) (Operand.const (Value.bool false)), type := 4, pos := "theorem.go:31", after := #[{ on := 42, ground := Ground.data }, { on := 47, ground := Ground.data }, { on := 31, ground := Ground.guard }], guard := some (31, true) }) (v := ?v48d) rfl (by kernel_rfl) (by kernel_rfl) (by kernel_rfl) (fun _ _ _ h => h) (Or.inl ⟨by rfl, ?hy48d⟩) (by exact S1) ?_
        case hy48d => (intro w hSw; (try dsimp only at hSw); go_simp; try (with_reducible rfl))
        try simp only [Act.put, List.setIfInBounds_toArray, List.set_cons_zero, List.set_cons_succ]
        refine wpAnyH_take (i := 49) (oi := { dst := some 134, op := Op.binOp BinOp.eql 4 (Operand.tmp 121) (Operand.tmp 133) 4, type := 4, pos := "theorem.go:31", after := #[{ on := 36, ground := Ground.data }, { on := 48, ground := Ground.data }, { on := 31, ground := Ground.guard }], guard := some (31, true) }) (v := ?v49d) rfl (by kernel_rfl) (by kernel_rfl) (by kernel_rfl) (fun _ _ _ h => h) (Or.inl ⟨by rfl, ?hy49d⟩) (by exact S1) ?_
        case hy49d => (intro w hSw; (try dsimp only at hSw); go_simp; try (with_reducible rfl))
        try simp only [Act.put, List.setIfInBounds_toArray, List.set_cons_zero, List.set_cons_succ]
        refine wpAnyH_take (i := 50) (oi := { dst := some 135, op := Op.pick (Operand.tmp 116) (Operand.tmp 134) (Operand.const (Value.bool false)), type := 4, pos := "theorem.go:31", after := #[{ on := 31, ground := Ground.data }, { on := 49, ground := Ground.data }], guard := none }) (v := ?v50d) rfl (by kernel_rfl) (by kernel_rfl) (by kernel_rfl) (fun _ _ _ h => h) (Or.inl ⟨by rfl, ?hy50d⟩) (by exact S1) ?_
        case hy50d => (intro w hSw; (try dsimp only at hSw); go_simp; try (with_reducible rfl))
        try simp only [Act.put, List.setIfInBounds_toArray, List.set_cons_zero, List.set_cons_succ]
        refine wpAnyH_take (i := 51) (oi := { dst := some 136, op := Op.move (Operand.tmp 135), type := 4, pos := "theorem.go:31", after := #[{ on := 50, ground := Ground.data }, { on := 42, ground := Ground.chain }], guard := none }) (v := ?v51d) rfl (by kernel_rfl) (by kernel_rfl) (by kernel_rfl) (fun _ _ _ h => h) (Or.inl ⟨by rfl, ?hy51d⟩) (by exact S1) ?_
        case hy51d => (intro w hSw; (try dsimp only at hSw); go_simp; try (with_reducible rfl))
        try simp only [Act.put, List.setIfInBounds_toArray, List.set_cons_zero, List.set_cons_succ]
        refine wpAnyH_ready (rs := [52]) (by kernel_rfl) (by simp) ?_
        refine AllReadyH.cons (o := { dst := some 137, op := Op.call { callee := Callee.value (Operand.func 6), args := #[], argTypes := #[] }, type := 4, pos := "theorem.go:31", after := #[{ on := 51, ground := Ground.chain }, { on := 51, ground := Ground.guard }], guard := some (51, true) }) rfl (fun K hK => ?_) AllReadyH.nil
        go_simp
        refine (unhide KE9).mono ?_
        rintro e z9 ⟨rfl, yb⟩
        have S9 := unhide CC _ yb
        go_wp2_with fail
        refine hK.out _ _ S9 (fun _ => ?_)
        clear hK K
        try simp only [Act.put, List.setIfInBounds_toArray, List.set_cons_zero, List.set_cons_succ]
        refine wpAnyH_take (i := 53) (oi := { dst := some 138, op := Op.pick (Operand.tmp 136) (Operand.tmp 137) (Operand.const (Value.bool false)), type := 4, pos := "theorem.go:31", after := #[{ on := 51, ground := Ground.data }, { on := 52, ground := Ground.data }], guard := none }) (v := ?v53d) rfl (by kernel_rfl) (by kernel_rfl) (by kernel_rfl) (fun _ _ _ h => h) (Or.inl ⟨by rfl, ?hy53d⟩) (by exact S9) ?_
        case hy53d => (intro w hSw; (try dsimp only at hSw); go_simp; try (with_reducible rfl))
        try simp only [Act.put, List.setIfInBounds_toArray, List.set_cons_zero, List.set_cons_succ]
        refine wpAnyH_take (i := 54) (oi := { dst := some 4, op := Op.assign (Operand.tmp 138), type := 4, pos := "theorem.go:31", after := #[{ on := 53, ground := Ground.data }, { on := 52, ground := Ground.chain }, { on := 0, ground := Ground.phase }, { on := 1, ground := Ground.phase }, { on := 2, ground := Ground.phase }, { on := 3, ground := Ground.phase }, { on := 4, ground := Ground.phase }, { on := 5, ground := Ground.phase }, { on := 6, ground := Ground.phase }, { on := 7, ground := Ground.phase }, { on := 8, ground := Ground.phase }, { on := 9, ground := Ground.phase }, { on := 10, ground := Ground.phase }, { on := 11, ground := Ground.phase }, { on := 12, ground := Ground.phase }, { on := 13, ground := Ground.phase }, { on := 14, ground := Ground.phase }, { on := 15, ground := Ground.phase }, { on := 16, ground := Ground.phase }, { on := 17, ground := Ground.phase }, { on := 18, ground := Ground.phase }, { on := 19, ground := Ground.phase }, { on := 20, ground := Ground.phase }, { on := 21, ground := Ground.phase }, { on := 22, ground := Ground.phase }, { on := 23, ground := Ground.phase }, { on := 24, ground := Ground.phase }, { on := 25, ground := Ground.phase }, { on := 26, ground := Ground.phase }, { on := 27, ground := Ground.phase }, { on := 28, ground := Ground.phase }, { on := 29, ground := Ground.phase }, { on := 30, ground := Ground.phase }, { on := 31, ground := Ground.phase }, { on := 32, ground := Ground.phase }, { on := 33, ground := Ground.phase }, { on := 34, ground := Ground.phase }, { on := 35, ground := Ground.phase }, { on := 36, ground := Ground.phase }, { on := 37, ground := Ground.phase }, { on := 38, ground := Ground.phase }, { on := 39, ground := Ground.phase }, { on := 40, ground := Ground.phase }, { on := 41, ground := Ground.phase }, { on := 42, ground := Ground.phase }, { on := 43, ground := Ground.phase }, { on := 44, ground := Ground.phase }, { on := 45, ground := Ground.phase }, { on := 46, ground := Ground.phase }, { on := 47, ground := Ground.phase }, { on := 48, ground := Ground.phase }, { on := 49, ground := Ground.phase }, { on := 50, ground := Ground.phase }, { on := 51, ground := Ground.phase }, { on := 52, ground := Ground.phase }, { on := 53, ground := Ground.phase }], guard := none }) (v := ?v54d) rfl (by kernel_rfl) (by kernel_rfl) (by kernel_rfl) (fun _ _ _ h => h) (Or.inl ⟨by rfl, ?hy54d⟩) (by exact S9) ?_
        case hy54d => (intro w hSw; (try dsimp only at hSw); go_simp; try (with_reducible rfl))
        try simp only [Act.put, List.setIfInBounds_toArray, List.set_cons_zero, List.set_cons_succ]
        refine wpAnyH_done (by kernel_rfl) ?_ _
        refine NoPanic.normal ?_
        go_wp2_with fail
        go_ret
        exact ⟨rfl, unhide HBw _ (bw_tr (unhide B5) yb)⟩
end Go.Proofs.YtcbafeneaoaglaaDoor.Tn
