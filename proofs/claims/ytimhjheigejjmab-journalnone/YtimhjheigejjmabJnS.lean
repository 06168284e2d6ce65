/- JournalNone: for every string, the law answers true: a journal that is not there, or that no call made, answers ErrNil; so does Open of a disk that is not there. No condition. -/
import Derived.Test.YtimhjheigejjmabJnR
import Derived.Test.YtimhjheigejjmabDkK
import Derived.Test.YtimhjheigejjmabDkFrame
namespace Go.Proofs.Ytimhjheigejjmab
open Go.ChangeShapes Go.WideShapes Go.ChangeAt Go.RowKit Go.Joins Go.Maps


theorem jready_of (v : Value) (W : World) (KM : Calls Try.prog 56 #[v] W fun e W' => e = .returned (.bool true) ∧ W' = W) : Calls Try.prog 61 #[v] W fun e W' => e = .returned (.int .i64 2) ∧ W' = W := by
  go_enter Try.func61, Try.ntmps61
  go_wp2_with (go_at_call 56; refine KM.mono ?_; rintro e w1 ⟨rfl, rfl⟩)
  go_ret
  exact ⟨rfl, rfl⟩
theorem jget_of (v : Value) (W : World) (KM : Calls Try.prog 56 #[v] W fun e W' => e = .returned (.bool true) ∧ W' = W) : Calls Try.prog 28 #[v] W fun e W' => e = .returned (.tuple #[.string ⟨#[]⟩, .int .i64 2]) ∧ W' = W := by
  have KR := jready_of v W KM
  go_enter Try.func28, Try.ntmps28
  go_wp2_with (go_at_call 61; refine KR.mono ?_; rintro e w1 ⟨rfl, rfl⟩)
  go_ret2
  exact ⟨rfl, rfl⟩
theorem jPut_of (v : Value) (s : ByteArray) (W : World) (KM : Calls Try.prog 56 #[v] W fun e W' => e = .returned (.bool true) ∧ W' = W) : Calls Try.prog 22 #[v, .string s] W fun e W' => e = .returned (.int .i64 2) ∧ W' = W := by
  go_enter Try.func22, Try.ntmps22
  go_wp2_with (go_at_call 56; refine KM.mono ?_; rintro e w1 ⟨rfl, rfl⟩)
  go_ret
  exact ⟨rfl, rfl⟩
theorem jSeq_of (v : Value) (W : World) (KM : Calls Try.prog 56 #[v] W fun e W' => e = .returned (.bool true) ∧ W' = W) : Calls Try.prog 29 #[v] W fun e W' => e = .returned (.int .i64 0) ∧ W' = W := by
  go_enter Try.func29, Try.ntmps29
  go_wp2_with (go_at_call 56; refine KM.mono ?_; rintro e w1 ⟨rfl, rfl⟩)
  go_ret
  exact ⟨rfl, rfl⟩
theorem jRoom_of (v : Value) (W : World) (KM : Calls Try.prog 56 #[v] W fun e W' => e = .returned (.bool true) ∧ W' = W) : Calls Try.prog 23 #[v] W fun e W' => e = .returned (.int .i64 0) ∧ W' = W := by
  go_enter Try.func23, Try.ntmps23
  go_wp2_with (go_at_call 56; refine KM.mono ?_; rintro e w1 ⟨rfl, rfl⟩)
  go_ret
  exact ⟨rfl, rfl⟩
theorem jOpen_of (v : Value) (W : World) (KM : Calls Try.prog 52 #[v] W fun e W' => e = .returned (.bool true) ∧ W' = W) : Calls Try.prog 21 #[v] W fun e W' => e = .returned (.tuple #[.pointer none, .int .i64 2]) ∧ W' = W := by
  have KR := read_of v W 0 KM
  go_enter Try.func21, Try.ntmps21
  go_wp2_with (go_at_call 15; refine KR.mono ?_; rintro e w1 ⟨rfl, rfl⟩)
  go_ret2
  exact ⟨rfl, rfl⟩
set_option maxRecDepth 100000 in
set_option maxHeartbeats 4000000 in
theorem JournalNone_walk (w : World) (s : ByteArray) (_hs : s.size ≤ 140737488355328) :
    Calls Try.prog 8 #[.string s] w fun e w' => e = .returned (.bool true) ∧ Below w.heap.size w w' := by
  go_enter Try.func8, Try.ntmps8
  go_wp2_with fail
  go_loopw [4] (fun iv wr => ∃ i : Nat, i ≤ 2 ∧ iv = .int .i64 (i : Int) ∧ Hid (Below w.heap.size w wr)) (fun iv _ => (2 - intOf iv).toNat)
  case atStart => exact ⟨0, by omega, rfl, Below.refl _ _⟩
  case round =>
    obtain ⟨i, hi, rfl, HR⟩ := hrel
    match i, hi with
    | 0, _ =>
      have KM := jmiss_nil wr
      have K1 := hide (jget_of _ wr KM)
      have K2 := hide (jPut_of _ s wr KM)
      have K3 := hide (jSeq_of _ wr KM)
      have K4 := hide (jRoom_of _ wr KM)
      clear KM
      go_wp2_with (first | (go_at_call 28; refine (unhide K1).mono ?_; rintro e w1 ⟨rfl, rfl⟩) | (go_at_call 22; refine (unhide K2).mono ?_; rintro e w1 ⟨rfl, rfl⟩) | (go_at_call 29; refine (unhide K3).mono ?_; rintro e w1 ⟨rfl, rfl⟩) | (go_at_call 23; refine (unhide K4).mono ?_; rintro e w1 ⟨rfl, rfl⟩))
      go_roundw
      case rel => exact ⟨1, by omega, by go_num, HR⟩
      case measure => simp [intOf]
    | 1, _ =>
      obtain ⟨X, hX⟩ : ∃ X, X = wr.alloc (.cells #[.pointer none, .int .i64 0, .string ⟨#[]⟩, .bool false] 67) := ⟨_, rfl⟩
      have KM := jmiss_zero X wr.heap.size (by rw [hX, Lib.cell_of_heap (heap_alloc_new _ _)]; rfl)
      have K1 := hide (jget_of _ X KM)
      have K2 := hide (jPut_of _ s X KM)
      have K3 := hide (jSeq_of _ X KM)
      have K4 := hide (jRoom_of _ X KM)
      have HR2 : Hid (Below w.heap.size w X) := bw_tr (unhide HR) (by rw [hX]; exact bw_alloc _ _)
      have HX := hide hX
      clear KM HR
      go_wp2_with fail
      rw [← unhide HX]
      clear hX
      go_wp2_with (first | (go_at_call 28; refine (unhide K1).mono ?_; rintro e w1 ⟨rfl, rfl⟩) | (go_at_call 22; refine (unhide K2).mono ?_; rintro e w1 ⟨rfl, rfl⟩) | (go_at_call 29; refine (unhide K3).mono ?_; rintro e w1 ⟨rfl, rfl⟩) | (go_at_call 23; refine (unhide K4).mono ?_; rintro e w1 ⟨rfl, rfl⟩))
      go_roundw
      case rel => exact ⟨2, by omega, by go_num, HR2⟩
      case measure => simp [intOf]
    | 2, _ =>
      have K1 := hide (jOpen_of _ wr (missing_nil wr))
      go_wp2_with fail
      refine (unhide K1).mono ?_
      rintro e w1 ⟨rfl, rfl⟩
      clear K1
      go_wp2_with fail
      generalize hX : w1.alloc _ = X
      have hc : X.cell? ⟨w1.heap.size, 7, none⟩ = some .nilFunc := by rw [← hX, Lib.cell_of_heap (heap_alloc_new _ _)]; rfl
      have HB : Hid (Below w.heap.size w X) := bw_tr (unhide HR) (by rw [← hX]; exact bw_alloc _ _)
      refine (jOpen_of _ X (missing_raw X w1.heap.size hc)).mono ?_
      rintro e w2 ⟨rfl, rfl⟩
      have KA := hide (j6alive_any w2)
      clear hX hc HR
      go_wp2_with (go_at_call 17; refine (unhide KA).mono ?_; rintro e w3 ⟨rfl, b3⟩)
      go_ret
      exact ⟨rfl, bw_tr (unhide HB) b3⟩
end Go.Proofs.Ytimhjheigejjmab
