/- The marks of held terms. -/
import Derived.Test.YtfpimmbjjcpobaaGreatDoorBkTB
import Derived.Deep.RegionHeld3
namespace Go.Proofs.YtfpimmbjjcpobaaGreatDoor
open Go.RowKit Go.Maps

def mkT (i : Nat) : Tm := ⟨0, 0, -1000 - (i : Int), 0⟩
theorem mkT_ok {i : Nat} (h : i ≤ 1000) : (mkT i).ok := by
  unfold mkT
  exact ⟨by simp, by simp, by simp, by simp, by simp; omega, by simp; omega, by simp, by simp⟩
theorem markT_any (i : Nat) (w : World) (hi : i ≤ 1000) : Calls Tryz.prog 131 #[.int .i64 (i : Int)] w fun e w' => e = .returned (.agg #[.int .u8 0, .int .i64 0, .int .i64 (-1000 - (i : Int)), .int .i64 0]) ∧ Below w.heap.size w w' := by
  have hb : (i : Int) ≤ 1000 := by omega
  clear hi
  go_enter Tryz.func131, Tryz.ntmps131
  go_wp2
  exact bodyPost_ret (v := .agg #[.int .u8 0, .int .i64 0, .int .i64 (-1000 - (i : Int)), .int .i64 0]) (by simp [results, Tryz.results131, go_sem]) rfl ⟨rfl, (Below.refl _ _).alloc (Nat.le_refl _) _⟩

/-- A term in a block of its own. -/
structure T4 (w W : World) (h : Nat) (m : Int) : Prop where
  c0 : W.cell? ⟨h, 0, none⟩ = some (.int .u8 0)
  c1 : W.cell? ⟨h, 1, none⟩ = some (.int .i64 0)
  c2 : W.cell? ⟨h, 2, none⟩ = some (.int .i64 m)
  c3 : W.cell? ⟨h, 3, none⟩ = some (.int .i64 0)
  bel : Below w.heap.size w W
theorem T4.new {w W W1 : World} {h : Nat} {m : Int} (k : T4 w W h m) (hb : Below W.heap.size W W1) : T4 w W1 h m :=
  ⟨by rw [World.cell?_of_block (w := W) (hb.block _ (lt_of_cell k.c0))]; exact k.c0, by rw [World.cell?_of_block (w := W) (hb.block _ (lt_of_cell k.c1))]; exact k.c1, by rw [World.cell?_of_block (w := W) (hb.block _ (lt_of_cell k.c2))]; exact k.c2, by rw [World.cell?_of_block (w := W) (hb.block _ (lt_of_cell k.c3))]; exact k.c3, bw_tr k.bel hb⟩

set_option maxRecDepth 100000 in
theorem isT_any (i : Nat) (w : World) (hi : i ≤ 1000) : Calls Tryz.prog 164 #[.agg #[.int .u8 0, .int .i64 0, .int .i64 (-1000 - (i : Int)), .int .i64 0], .int .i64 (i : Int)] w fun e w' => e = .returned (.bool true) ∧ Below w.heap.size w w' := by
  have K := fun W => markT_any i W hi
  have he : ∀ W, (Op.equal 69 (.agg #[.int .u8 0, .int .i64 0, .int .i64 (-1000 - (i : Int)), .int .i64 0]) (.agg #[.int .u8 0, .int .i64 0, .int .i64 (-1000 - (i : Int)), .int .i64 0])).run Tryz.prog W = .ok true W := fun W => by
    have := equal_tm W (mkT_ok hi) (mkT_ok hi)
    simpa [tmV, mkT] using this
  have hb : (i : Int) ≤ 1000 := by omega
  clear hi
  generalize -1000 - (i : Int) = m at *
  go_enter Tryz.func164, Tryz.ntmps164
  have Q0 : T4 w (w.alloc (.cells #[.int .u8 0, .int .i64 0, .int .i64 m, .int .i64 0] 69)).drew w.heap.size m := by
    have C0 := cells_new4 w (.int .u8 0) (.int .i64 0) (.int .i64 m) (.int .i64 0) 69
    exact ⟨C0 0 _ rfl, C0 1 _ rfl, C0 2 _ rfl, C0 3 _ rfl, ((Below.refl _ _).alloc (Nat.le_refl _) _).drew⟩
  have S0 := And.intro Q0.c0 (And.intro Q0.c1 (And.intro Q0.c2 Q0.c3))
  have HK := hide K
  clear K
  go_wp2_with fail
  go_region_held3 (fun w' : World => w'.cell? ⟨w.heap.size, 0, none⟩ = some (.int .u8 0) ∧ w'.cell? ⟨w.heap.size, 1, none⟩ = some (.int .i64 0) ∧ w'.cell? ⟨w.heap.size, 2, none⟩ = some (.int .i64 m) ∧ w'.cell? ⟨w.heap.size, 3, none⟩ = some (.int .i64 0)) (first | exact S0 | exact S1) (first
    | (go_at_call 131; refine (unhide HK _).mono ?_; rintro e z1 ⟨rfl, b1⟩; have Q1 := Q0.new b1; have S1 := And.intro Q1.c0 (And.intro Q1.c1 (And.intro Q1.c2 Q1.c3))))
  all_goals
    go_wp2_with fail
    go_ret
    exact ⟨rfl, Q1.bel⟩

end Go.Proofs.YtfpimmbjjcpobaaGreatDoor
