/- Contracts of the methods of a Writer and a Reader that are not there, or that no call made: ErrNil, and nothing is done. -/
import Derived.Test.YtjoiecphjapbaaaRdD
namespace Go.Proofs.Ytjoiecphjapbaaa
open Go.RowKit

set_option maxHeartbeats 400000 in
theorem wByte_nil (p : Value) (n : Int) (w : World) (hm : Calls Try.prog 35 #[p] w fun e w' => e = .returned (.bool true) ∧ w' = w) :
    Calls Try.prog 30 #[p, .int .i64 n] w fun e w' => e = .returned (.int .i64 2) ∧ w' = w := by
  go_enter Try.func30, Try.ntmps30
  go_wp2_with (go_at_call 35; refine hm.mono ?_; rintro e w9 ⟨rfl, rfl⟩)
  go_ret
  exact ⟨rfl, rfl⟩

set_option maxHeartbeats 400000 in
theorem wNumber_nil (p : Value) (n : Int) (w : World) (hm : Calls Try.prog 35 #[p] w fun e w' => e = .returned (.bool true) ∧ w' = w) :
    Calls Try.prog 31 #[p, .int .i64 n] w fun e w' => e = .returned (.int .i64 2) ∧ w' = w := by
  go_enter Try.func31, Try.ntmps31
  go_wp2_with (go_at_call 35; refine hm.mono ?_; rintro e w9 ⟨rfl, rfl⟩)
  go_ret
  exact ⟨rfl, rfl⟩

set_option maxHeartbeats 400000 in
theorem wText_nil (p : Value) (s : ByteArray) (w : World) (hm : Calls Try.prog 35 #[p] w fun e w' => e = .returned (.bool true) ∧ w' = w) :
    Calls Try.prog 33 #[p, .string s] w fun e w' => e = .returned (.int .i64 2) ∧ w' = w := by
  go_enter Try.func33, Try.ntmps33
  go_wp2_with (go_at_call 35; refine hm.mono ?_; rintro e w9 ⟨rfl, rfl⟩)
  go_ret
  exact ⟨rfl, rfl⟩

set_option maxHeartbeats 400000 in
theorem wList_nil (p : Value) (n : Int) (w : World) (hm : Calls Try.prog 35 #[p] w fun e w' => e = .returned (.bool true) ∧ w' = w) :
    Calls Try.prog 34 #[p, .int .i64 n] w fun e w' => e = .returned (.int .i64 2) ∧ w' = w := by
  go_enter Try.func34, Try.ntmps34
  go_wp2_with (go_at_call 35; refine hm.mono ?_; rintro e w9 ⟨rfl, rfl⟩)
  go_ret
  exact ⟨rfl, rfl⟩

set_option maxHeartbeats 400000 in
theorem wFlag_nil (p : Value) (y : Bool) (w : World) (hm : Calls Try.prog 35 #[p] w fun e w' => e = .returned (.bool true) ∧ w' = w) :
    Calls Try.prog 32 #[p, .bool y] w fun e w' => e = .returned (.int .i64 2) ∧ w' = w := by
  cases y
  · have K := wByte_nil p 0 w hm
    go_enter Try.func32, Try.ntmps32
    go_wp2_with (go_at_call 30; refine K.mono ?_; rintro e w9 ⟨rfl, rfl⟩)
    go_ret
    exact ⟨rfl, rfl⟩
  · have K := wByte_nil p 1 w hm
    go_enter Try.func32, Try.ntmps32
    go_wp2_with (go_at_call 30; refine K.mono ?_; rintro e w9 ⟨rfl, rfl⟩)
    go_ret
    exact ⟨rfl, rfl⟩
set_option maxHeartbeats 400000 in
theorem wBytes_nil (p : Value) (w : World) (hm : Calls Try.prog 35 #[p] w fun e w' => e = .returned (.bool true) ∧ w' = w) :
    Calls Try.prog 14 #[p] w fun e w' => e = .returned (.string ⟨#[]⟩) ∧ w' = w := by
  go_enter Try.func14, Try.ntmps14
  go_wp2_with (go_at_call 35; refine hm.mono ?_; rintro e w9 ⟨rfl, rfl⟩)
  go_ret
  exact ⟨rfl, rfl⟩
set_option maxHeartbeats 400000 in
theorem at_nil (p : Value) (w : World) (hm : Calls Try.prog 41 #[p] w fun e w' => e = .returned (.bool true) ∧ w' = w) :
    Calls Try.prog 18 #[p] w fun e w' => e = .returned (.int .i64 0) ∧ w' = w := by
  go_enter Try.func18, Try.ntmps18
  go_wp2_with (go_at_call 41; refine hm.mono ?_; rintro e w9 ⟨rfl, rfl⟩)
  go_ret
  exact ⟨rfl, rfl⟩
set_option maxHeartbeats 400000 in
theorem end_nil (p : Value) (w : World) (hm : Calls Try.prog 41 #[p] w fun e w' => e = .returned (.bool true) ∧ w' = w) :
    Calls Try.prog 19 #[p] w fun e w' => e = .returned (.int .i64 2) ∧ w' = w := by
  go_enter Try.func19, Try.ntmps19
  go_wp2_with (go_at_call 41; refine hm.mono ?_; rintro e w9 ⟨rfl, rfl⟩)
  go_ret
  exact ⟨rfl, rfl⟩

set_option maxHeartbeats 400000 in
theorem rByte_nil_try (w : World) :
    Calls Try.prog 42 #[.pointer none, .func (.func 43) #[] #[]] w fun e w' => e = .returned (.tuple #[.int .i64 0, .int .i64 2]) ∧ Below w.heap.size w w' := by
  go_enter_defers Try.func42, Try.ntmps42
  go_wp2_with (go_at_call 41; refine (rmiss_nil _).mono ?_; rintro e w9 ⟨rfl, rfl⟩)
  refine ⟨.tuple #[.int .i64 0, .int .i64 2], by simp [results, Try.results42, go_sem], rfl, Fr.toBelow ?_⟩
  first
    | exact (((Fr.refl [] w).alloc _).alloc _)
    | exact (((Fr.refl [] w).alloc _).alloc _).setCell (Or.inl (by simp)) _
set_option maxHeartbeats 400000 in
theorem rByte_nil (w : World) :
    Calls Try.prog 20 #[.pointer none] w fun e w' => e = .returned (.tuple #[.int .i64 0, .int .i64 2]) ∧ Below w.heap.size w w' := by
  have K := (rByte_nil_try w)
  go_enter Try.func20, Try.ntmps20
  go_wp2_with (go_at_call 42; refine K.mono ?_; rintro e w1 ⟨rfl, hb1⟩)
  go_ret2
  exact ⟨rfl, hb1⟩

set_option maxHeartbeats 400000 in
theorem rNumber_nil_try (w : World) :
    Calls Try.prog 44 #[.pointer none, .func (.func 45) #[] #[]] w fun e w' => e = .returned (.tuple #[.int .i64 0, .int .i64 2]) ∧ Below w.heap.size w w' := by
  go_enter_defers Try.func44, Try.ntmps44
  go_wp2_with (go_at_call 41; refine (rmiss_nil _).mono ?_; rintro e w9 ⟨rfl, rfl⟩)
  refine ⟨.tuple #[.int .i64 0, .int .i64 2], by simp [results, Try.results44, go_sem], rfl, Fr.toBelow ?_⟩
  first
    | exact (((Fr.refl [] w).alloc _).alloc _)
    | exact (((Fr.refl [] w).alloc _).alloc _).setCell (Or.inl (by simp)) _
set_option maxHeartbeats 400000 in
theorem rNumber_nil (w : World) :
    Calls Try.prog 21 #[.pointer none] w fun e w' => e = .returned (.tuple #[.int .i64 0, .int .i64 2]) ∧ Below w.heap.size w w' := by
  have K := (rNumber_nil_try w)
  go_enter Try.func21, Try.ntmps21
  go_wp2_with (go_at_call 44; refine K.mono ?_; rintro e w1 ⟨rfl, hb1⟩)
  go_ret2
  exact ⟨rfl, hb1⟩

set_option maxHeartbeats 400000 in
theorem rFlag_nil_try (w : World) :
    Calls Try.prog 46 #[.pointer none, .func (.func 47) #[] #[]] w fun e w' => e = .returned (.tuple #[.bool false, .int .i64 2]) ∧ Below w.heap.size w w' := by
  go_enter_defers Try.func46, Try.ntmps46
  go_wp2_with (go_at_call 41; refine (rmiss_nil _).mono ?_; rintro e w9 ⟨rfl, rfl⟩)
  refine ⟨.tuple #[.bool false, .int .i64 2], by simp [results, Try.results46, go_sem], rfl, Fr.toBelow ?_⟩
  first
    | exact (((Fr.refl [] w).alloc _).alloc _)
    | exact (((Fr.refl [] w).alloc _).alloc _).setCell (Or.inl (by simp)) _
set_option maxHeartbeats 400000 in
theorem rFlag_nil (w : World) :
    Calls Try.prog 22 #[.pointer none] w fun e w' => e = .returned (.tuple #[.bool false, .int .i64 2]) ∧ Below w.heap.size w w' := by
  have K := (rFlag_nil_try w)
  go_enter Try.func22, Try.ntmps22
  go_wp2_with (go_at_call 46; refine K.mono ?_; rintro e w1 ⟨rfl, hb1⟩)
  go_ret2
  exact ⟨rfl, hb1⟩

set_option maxHeartbeats 400000 in
theorem rText_nil_try (w : World) :
    Calls Try.prog 48 #[.pointer none, .func (.func 49) #[] #[]] w fun e w' => e = .returned (.tuple #[.string ⟨#[]⟩, .int .i64 2]) ∧ Below w.heap.size w w' := by
  go_enter_defers Try.func48, Try.ntmps48
  go_wp2_with (go_at_call 41; refine (rmiss_nil _).mono ?_; rintro e w9 ⟨rfl, rfl⟩)
  refine ⟨.tuple #[.string ⟨#[]⟩, .int .i64 2], by simp [results, Try.results48, go_sem], rfl, Fr.toBelow ?_⟩
  first
    | exact (((Fr.refl [] w).alloc _).alloc _)
    | exact (((Fr.refl [] w).alloc _).alloc _).setCell (Or.inl (by simp)) _
set_option maxHeartbeats 400000 in
theorem rText_nil (w : World) :
    Calls Try.prog 23 #[.pointer none] w fun e w' => e = .returned (.tuple #[.string ⟨#[]⟩, .int .i64 2]) ∧ Below w.heap.size w w' := by
  have K := (rText_nil_try w)
  go_enter Try.func23, Try.ntmps23
  go_wp2_with (go_at_call 48; refine K.mono ?_; rintro e w1 ⟨rfl, hb1⟩)
  go_ret2
  exact ⟨rfl, hb1⟩

set_option maxHeartbeats 400000 in
theorem rList_nil_try (w : World) :
    Calls Try.prog 42 #[.pointer none, .func (.func 50) #[] #[]] w fun e w' => e = .returned (.tuple #[.int .i64 0, .int .i64 2]) ∧ Below w.heap.size w w' := by
  go_enter_defers Try.func42, Try.ntmps42
  go_wp2_with (go_at_call 41; refine (rmiss_nil _).mono ?_; rintro e w9 ⟨rfl, rfl⟩)
  refine ⟨.tuple #[.int .i64 0, .int .i64 2], by simp [results, Try.results42, go_sem], rfl, Fr.toBelow ?_⟩
  first
    | exact (((Fr.refl [] w).alloc _).alloc _)
    | exact (((Fr.refl [] w).alloc _).alloc _).setCell (Or.inl (by simp)) _
set_option maxHeartbeats 400000 in
theorem rList_nil (w : World) :
    Calls Try.prog 24 #[.pointer none] w fun e w' => e = .returned (.tuple #[.int .i64 0, .int .i64 2]) ∧ Below w.heap.size w w' := by
  have K := (rList_nil_try w)
  go_enter Try.func24, Try.ntmps24
  go_wp2_with (go_at_call 42; refine K.mono ?_; rintro e w1 ⟨rfl, hb1⟩)
  go_ret2
  exact ⟨rfl, hb1⟩

set_option maxHeartbeats 400000 in
theorem rByte_zero_try (b : Nat) (w : World) (hc : w.cell? ⟨b, 0, none⟩ = some (.bool false)) :
    Calls Try.prog 42 #[.pointer (some ⟨b, 0, none⟩), .func (.func 43) #[] #[]] w fun e w' => e = .returned (.tuple #[.int .i64 0, .int .i64 2]) ∧ Below w.heap.size w w' := by
  have a0 : ∀ o1 o2 : Obj, ((w.alloc o1).alloc o2).cell? ⟨b, 0, none⟩ = some (.bool false) := fun o1 o2 => by
    have hb : b < w.heap.size := World.block_lt_of_cell? w ⟨b, 0, none⟩ hc
    rw [World.cell?_of_block (w := w) ((((Fr.refl [] w).alloc o1).alloc o2).block b hb (by simp))]; exact hc
  go_enter_defers Try.func42, Try.ntmps42
  go_wp2_with (go_at_call 41; refine (rmiss_at _ _ _ (a0 _ _)).mono ?_; rintro e w9 ⟨rfl, rfl⟩)
  refine ⟨.tuple #[.int .i64 0, .int .i64 2], by simp [results, Try.results42, go_sem], rfl, Fr.toBelow ?_⟩
  first
    | exact (((Fr.refl [] w).alloc _).alloc _)
    | exact (((Fr.refl [] w).alloc _).alloc _).setCell (Or.inl (by simp)) _
set_option maxHeartbeats 400000 in
theorem rByte_zero (b : Nat) (w : World) (hc : w.cell? ⟨b, 0, none⟩ = some (.bool false)) :
    Calls Try.prog 20 #[.pointer (some ⟨b, 0, none⟩)] w fun e w' => e = .returned (.tuple #[.int .i64 0, .int .i64 2]) ∧ Below w.heap.size w w' := by
  have K := (rByte_zero_try b w hc)
  go_enter Try.func20, Try.ntmps20
  go_wp2_with (go_at_call 42; refine K.mono ?_; rintro e w1 ⟨rfl, hb1⟩)
  go_ret2
  exact ⟨rfl, hb1⟩

set_option maxHeartbeats 400000 in
theorem rNumber_zero_try (b : Nat) (w : World) (hc : w.cell? ⟨b, 0, none⟩ = some (.bool false)) :
    Calls Try.prog 44 #[.pointer (some ⟨b, 0, none⟩), .func (.func 45) #[] #[]] w fun e w' => e = .returned (.tuple #[.int .i64 0, .int .i64 2]) ∧ Below w.heap.size w w' := by
  have a0 : ∀ o1 o2 : Obj, ((w.alloc o1).alloc o2).cell? ⟨b, 0, none⟩ = some (.bool false) := fun o1 o2 => by
    have hb : b < w.heap.size := World.block_lt_of_cell? w ⟨b, 0, none⟩ hc
    rw [World.cell?_of_block (w := w) ((((Fr.refl [] w).alloc o1).alloc o2).block b hb (by simp))]; exact hc
  go_enter_defers Try.func44, Try.ntmps44
  go_wp2_with (go_at_call 41; refine (rmiss_at _ _ _ (a0 _ _)).mono ?_; rintro e w9 ⟨rfl, rfl⟩)
  refine ⟨.tuple #[.int .i64 0, .int .i64 2], by simp [results, Try.results44, go_sem], rfl, Fr.toBelow ?_⟩
  first
    | exact (((Fr.refl [] w).alloc _).alloc _)
    | exact (((Fr.refl [] w).alloc _).alloc _).setCell (Or.inl (by simp)) _
set_option maxHeartbeats 400000 in
theorem rNumber_zero (b : Nat) (w : World) (hc : w.cell? ⟨b, 0, none⟩ = some (.bool false)) :
    Calls Try.prog 21 #[.pointer (some ⟨b, 0, none⟩)] w fun e w' => e = .returned (.tuple #[.int .i64 0, .int .i64 2]) ∧ Below w.heap.size w w' := by
  have K := (rNumber_zero_try b w hc)
  go_enter Try.func21, Try.ntmps21
  go_wp2_with (go_at_call 44; refine K.mono ?_; rintro e w1 ⟨rfl, hb1⟩)
  go_ret2
  exact ⟨rfl, hb1⟩

set_option maxHeartbeats 400000 in
theorem rFlag_zero_try (b : Nat) (w : World) (hc : w.cell? ⟨b, 0, none⟩ = some (.bool false)) :
    Calls Try.prog 46 #[.pointer (some ⟨b, 0, none⟩), .func (.func 47) #[] #[]] w fun e w' => e = .returned (.tuple #[.bool false, .int .i64 2]) ∧ Below w.heap.size w w' := by
  have a0 : ∀ o1 o2 : Obj, ((w.alloc o1).alloc o2).cell? ⟨b, 0, none⟩ = some (.bool false) := fun o1 o2 => by
    have hb : b < w.heap.size := World.block_lt_of_cell? w ⟨b, 0, none⟩ hc
    rw [World.cell?_of_block (w := w) ((((Fr.refl [] w).alloc o1).alloc o2).block b hb (by simp))]; exact hc
  go_enter_defers Try.func46, Try.ntmps46
  go_wp2_with (go_at_call 41; refine (rmiss_at _ _ _ (a0 _ _)).mono ?_; rintro e w9 ⟨rfl, rfl⟩)
  refine ⟨.tuple #[.bool false, .int .i64 2], by simp [results, Try.results46, go_sem], rfl, Fr.toBelow ?_⟩
  first
    | exact (((Fr.refl [] w).alloc _).alloc _)
    | exact (((Fr.refl [] w).alloc _).alloc _).setCell (Or.inl (by simp)) _
set_option maxHeartbeats 400000 in
theorem rFlag_zero (b : Nat) (w : World) (hc : w.cell? ⟨b, 0, none⟩ = some (.bool false)) :
    Calls Try.prog 22 #[.pointer (some ⟨b, 0, none⟩)] w fun e w' => e = .returned (.tuple #[.bool false, .int .i64 2]) ∧ Below w.heap.size w w' := by
  have K := (rFlag_zero_try b w hc)
  go_enter Try.func22, Try.ntmps22
  go_wp2_with (go_at_call 46; refine K.mono ?_; rintro e w1 ⟨rfl, hb1⟩)
  go_ret2
  exact ⟨rfl, hb1⟩

set_option maxHeartbeats 400000 in
theorem rText_zero_try (b : Nat) (w : World) (hc : w.cell? ⟨b, 0, none⟩ = some (.bool false)) :
    Calls Try.prog 48 #[.pointer (some ⟨b, 0, none⟩), .func (.func 49) #[] #[]] w fun e w' => e = .returned (.tuple #[.string ⟨#[]⟩, .int .i64 2]) ∧ Below w.heap.size w w' := by
  have a0 : ∀ o1 o2 : Obj, ((w.alloc o1).alloc o2).cell? ⟨b, 0, none⟩ = some (.bool false) := fun o1 o2 => by
    have hb : b < w.heap.size := World.block_lt_of_cell? w ⟨b, 0, none⟩ hc
    rw [World.cell?_of_block (w := w) ((((Fr.refl [] w).alloc o1).alloc o2).block b hb (by simp))]; exact hc
  go_enter_defers Try.func48, Try.ntmps48
  go_wp2_with (go_at_call 41; refine (rmiss_at _ _ _ (a0 _ _)).mono ?_; rintro e w9 ⟨rfl, rfl⟩)
  refine ⟨.tuple #[.string ⟨#[]⟩, .int .i64 2], by simp [results, Try.results48, go_sem], rfl, Fr.toBelow ?_⟩
  first
    | exact (((Fr.refl [] w).alloc _).alloc _)
    | exact (((Fr.refl [] w).alloc _).alloc _).setCell (Or.inl (by simp)) _
set_option maxHeartbeats 400000 in
theorem rText_zero (b : Nat) (w : World) (hc : w.cell? ⟨b, 0, none⟩ = some (.bool false)) :
    Calls Try.prog 23 #[.pointer (some ⟨b, 0, none⟩)] w fun e w' => e = .returned (.tuple #[.string ⟨#[]⟩, .int .i64 2]) ∧ Below w.heap.size w w' := by
  have K := (rText_zero_try b w hc)
  go_enter Try.func23, Try.ntmps23
  go_wp2_with (go_at_call 48; refine K.mono ?_; rintro e w1 ⟨rfl, hb1⟩)
  go_ret2
  exact ⟨rfl, hb1⟩

set_option maxHeartbeats 400000 in
theorem rList_zero_try (b : Nat) (w : World) (hc : w.cell? ⟨b, 0, none⟩ = some (.bool false)) :
    Calls Try.prog 42 #[.pointer (some ⟨b, 0, none⟩), .func (.func 50) #[] #[]] w fun e w' => e = .returned (.tuple #[.int .i64 0, .int .i64 2]) ∧ Below w.heap.size w w' := by
  have a0 : ∀ o1 o2 : Obj, ((w.alloc o1).alloc o2).cell? ⟨b, 0, none⟩ = some (.bool false) := fun o1 o2 => by
    have hb : b < w.heap.size := World.block_lt_of_cell? w ⟨b, 0, none⟩ hc
    rw [World.cell?_of_block (w := w) ((((Fr.refl [] w).alloc o1).alloc o2).block b hb (by simp))]; exact hc
  go_enter_defers Try.func42, Try.ntmps42
  go_wp2_with (go_at_call 41; refine (rmiss_at _ _ _ (a0 _ _)).mono ?_; rintro e w9 ⟨rfl, rfl⟩)
  refine ⟨.tuple #[.int .i64 0, .int .i64 2], by simp [results, Try.results42, go_sem], rfl, Fr.toBelow ?_⟩
  first
    | exact (((Fr.refl [] w).alloc _).alloc _)
    | exact (((Fr.refl [] w).alloc _).alloc _).setCell (Or.inl (by simp)) _
set_option maxHeartbeats 400000 in
theorem rList_zero (b : Nat) (w : World) (hc : w.cell? ⟨b, 0, none⟩ = some (.bool false)) :
    Calls Try.prog 24 #[.pointer (some ⟨b, 0, none⟩)] w fun e w' => e = .returned (.tuple #[.int .i64 0, .int .i64 2]) ∧ Below w.heap.size w w' := by
  have K := (rList_zero_try b w hc)
  go_enter Try.func24, Try.ntmps24
  go_wp2_with (go_at_call 42; refine K.mono ?_; rintro e w1 ⟨rfl, hb1⟩)
  go_ret2
  exact ⟨rfl, hb1⟩

end Go.Proofs.Ytjoiecphjapbaaa
