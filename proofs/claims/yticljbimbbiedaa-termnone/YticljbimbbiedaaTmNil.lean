/- A store that is not there, or that no call made: the contracts of package term's calls. -/
import Derived.Test.YticljbimbbiedaaTmI
namespace Go.Proofs.Yticljbimbbiedaa
open Go.RowKit Go.Maps

/-- A pointer to no store. -/
def Noway (w : World) (p : Value) : Prop := ∀ W, Below w.heap.size w W → Calls Try.prog 30 #[p] W fun e w' => e = .returned (.bool true) ∧ w' = W
theorem Noway.bw {w w' : World} {p : Value} (h : Noway w p) (hb : Below w.heap.size w w') : Noway w' p := fun W hW => h W (bw_tr hb hW)
theorem noway_nil (w : World) : Noway w (.pointer none) := fun W _ => missing_nil W
theorem noway_zero (w : World) : Noway (w.alloc (.cells #[.slice none 0 0, .map none] 50)) (.pointer (some ⟨w.heap.size, 0, none⟩)) := fun W hb => by
  refine missing_zero w.heap.size W ?_
  rw [World.cell?_of_block (w := w.alloc (.cells #[.slice none 0 0, .map none] 50)) (hb.block _ (by simp))]
  unfold World.cell?; simp only [heap_alloc_new]; rfl
theorem Noway.self {w : World} {p : Value} (h : Noway w p) : Calls Try.prog 30 #[p] w fun e w' => e = .returned (.bool true) ∧ w' = w := h w (Below.refl _ _)

theorem make_none (p : Value) (k n x y : Int) (w : World) (h : Noway w p) :
    Calls Try.prog 19 #[p, .agg #[.int .u8 k, .int .i64 n, .int .i64 x, .int .i64 y]] w fun e w' => e = .returned (.tuple #[.int .i64 0, .int .i64 2]) ∧ Below w.heap.size w w' := by
  have K := h _ (bw_alloc w (.cells #[.int .u8 k, .int .i64 n, .int .i64 x, .int .i64 y] 47))
  have hB := bw_alloc w (.cells #[.int .u8 k, .int .i64 n, .int .i64 x, .int .i64 y] 47)
  clear h
  go_enter Try.func19, Try.ntmps19
  go_wp2_with fail
  refine K.mono ?_
  rintro e w1 ⟨rfl, rfl⟩
  go_wp2_with fail
  go_ret2
  exact ⟨rfl, hB⟩
theorem list_none (p v : Value) (w : World) (h : Noway w p) :
    Calls Try.prog 10 #[p, v] w fun e w' => e = .returned (.tuple #[.int .i64 0, .int .i64 2]) ∧ w' = w := by
  have K := h.self
  clear h
  go_enter Try.func10, Try.ntmps10
  go_wp2_with fail
  refine K.mono ?_
  rintro e w ⟨rfl, rfl⟩
  go_wp2_with fail
  go_ret2
  exact ⟨rfl, rfl⟩
theorem data_none (p v : Value) (w : World) (h : Noway w p) :
    Calls Try.prog 12 #[p, v] w fun e w' => e = .returned (.tuple #[.int .i64 0, .int .i64 2]) ∧ w' = w := by
  have K := h.self
  clear h
  go_enter Try.func12, Try.ntmps12
  go_wp2_with fail
  refine K.mono ?_
  rintro e w ⟨rfl, rfl⟩
  go_wp2_with fail
  go_ret2
  exact ⟨rfl, rfl⟩
theorem dag_none (p : Value) (x : Int) (w : World) (h : Noway w p) :
    Calls Try.prog 22 #[p, .int .i64 x] w fun e w' => e = .returned (.slice none 0 0) ∧ w' = w := by
  have K := has_none p x w h.self
  clear h
  go_enter Try.func22, Try.ntmps22
  go_wp2_with fail
  refine K.mono ?_
  rintro e w ⟨rfl, rfl⟩
  go_wp2_with fail
  go_ret
  exact ⟨rfl, rfl⟩
theorem get_nobody (p : Value) (x : Int) (w : World) (h : Noway w p) :
    Calls Try.prog 20 #[p, .int .i64 x] w fun e w' => e = .returned (.tuple #[.agg #[.int .u8 0, .int .i64 0, .int .i64 0, .int .i64 0], .bool false]) ∧ Below w.heap.size w w' :=
  get_none p x w (fun W hb => has_none p x W (h W hb))
theorem len_nobody (p : Value) (w : World) (h : Noway w p) :
    Calls Try.prog 21 #[p] w fun e w' => e = .returned (.int .i64 0) ∧ w' = w := len_none p w h.self

end Go.Proofs.Yticljbimbbiedaa
