/- What is so of whoever does something at all: alive of layer 15. -/
import Derived.Test.YtgmlkofogeoocaaGreatDoorZ20
namespace Go.Proofs.YtgmlkofogeoocaaGreatDoor
open Go.RowKit Go.Maps
def lvCm : Cm := ⟨0, 0, 0, 0, 0, false, [], [], [], [], 0, 0, [], 0, 0⟩
def lvMl (k e : Int) : Ml := ⟨k, lvCm, 0, e, 0, 0, 0, 0, 0, [], 0, 0, 0, 0, 0, 0⟩
def lvMx : Mx := ⟨⟨.slice none 0 0, .slice none 0 0, .slice none 0 0, .slice none 0 0, .slice none 0 0⟩, [], .slice none 0 0, []⟩
theorem trd_nilM (w : World) : Trd w (.slice none 0 0) [] := ⟨by simp, by simp, Or.inl ⟨rfl, none, 0, rfl⟩⟩
theorem lvMl_r (w : World) (k e : Int) : MlR w (lvMl k e) lvMx :=
  ⟨⟨RI.nil _ _, Or.inl ⟨rfl, none, 0, rfl, fun _ => rfl⟩, by simp [lvMl, lvCm], RI.nil _ _, RI.nil _ _, trd_nilM _⟩, trd_nilM _⟩
theorem lvMl_sm (k e : Int) : SmM (lvMl k e) :=
  ⟨⟨by simp [lvMl, lvCm], by simp [lvMl, lvCm], by simp [lvMl, lvCm], by simp [lvMl, lvCm], by simp [lvMl, lvCm], by simp [lvMl, lvCm], by simp [lvMl, lvCm], by simp [lvMl, lvCm], by simp [lvMl, lvCm]⟩, by simp [lvMl], by simp [lvMl], by simp [lvMl]⟩
theorem lvMl_c (k e : Int) : (mlC (lvMl k e) lvMx).toArray = #[.int .u8 k, .int .i64 0, .int .i64 0, .int .i64 0, .int .i64 0, .int .i64 0, .bool false, .slice none 0 0, .slice none 0 0, .slice none 0 0, .slice none 0 0, .int .i64 0, .int .i64 0, .slice none 0 0, .int .i64 0, .int .i64 0, .int .i64 0, .int .i64 e, .int .i64 0, .int .i64 0, .int .i64 0, .int .i64 0, .int .i64 0, .slice none 0 0, .int .i64 0, .int .i64 0, .int .i64 0, .int .i64 0, .int .i64 0, .int .i64 0] := rfl
def okB (b : Bx) : Prop := 0 ≤ b.dev ∧ b.dev < 512 ∧ 0 ≤ b.dn ∧ b.dn ≤ 1099511627776
theorem may0 : mayP [] := fun j b h => by simp at h
end Go.Proofs.YtgmlkofogeoocaaGreatDoor
