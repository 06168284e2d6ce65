/- The walk of StoreNone. -/
import Derived.Test.YtckddmdgmjekdaaGreatBaP
import Derived.Test.YtckddmdgmjekdaaGreatJnS
namespace Go.Proofs.YtckddmdgmjekdaaGreat
open Go.RowKit Go.Maps

theorem sget_of (v : Value) (k : ByteArray) (W : World) (KM : Calls Tryz.prog 40 #[v] W fun e W' => e = .returned (.bool true) ∧ W' = W) : Calls Tryz.prog 24 #[v, .string k] W fun e W' => e = .returned (.tuple #[.string ⟨#[]⟩, .bool false]) ∧ W' = W := by
  go_enter Tryz.func24, Tryz.ntmps24
  go_wp2_with (go_at_call 40; refine KM.mono ?_; rintro e w1 ⟨rfl, rfl⟩)
  go_ret2
  exact ⟨rfl, rfl⟩
theorem snames_of (v : Value) (W : World) (KM : Calls Tryz.prog 40 #[v] W fun e W' => e = .returned (.bool true) ∧ W' = W) : Calls Tryz.prog 26 #[v] W fun e W' => e = .returned (.slice none 0 0) ∧ W' = W := by
  go_enter Tryz.func26, Tryz.ntmps26
  go_wp2_with (go_at_call 40; refine KM.mono ?_; rintro e w1 ⟨rfl, rfl⟩)
  go_ret
  exact ⟨rfl, rfl⟩
theorem sseq_of (v : Value) (W : World) (KM : Calls Tryz.prog 40 #[v] W fun e W' => e = .returned (.bool true) ∧ W' = W) : Calls Tryz.prog 23 #[v] W fun e W' => e = .returned (.int .i64 0) ∧ W' = W := by
  go_enter Tryz.func23, Tryz.ntmps23
  go_wp2_with (go_at_call 40; refine KM.mono ?_; rintro e w1 ⟨rfl, rfl⟩)
  go_ret
  exact ⟨rfl, rfl⟩
theorem schange_of (v l : Value) (W : World) (KM : Calls Tryz.prog 40 #[v] W fun e W' => e = .returned (.bool true) ∧ W' = W) : Calls Tryz.prog 17 #[v, l] W fun e W' => e = .returned (.int .i64 2) ∧ W' = W := by
  go_enter Tryz.func17, Tryz.ntmps17
  go_wp2_with (go_at_call 40; refine KM.mono ?_; rintro e w1 ⟨rfl, rfl⟩)
  go_ret
  exact ⟨rfl, rfl⟩
theorem sopen_of (v : Value) (W : World) (KM : Calls Tryz.prog 45 #[v] W fun e W' => e = .returned (.bool true) ∧ W' = W) : Calls Tryz.prog 16 #[v] W fun e W' => e = .returned (.tuple #[.pointer none, .int .i64 2]) ∧ W' = W := by
  have KR := jOpen_of v W KM
  go_enter Tryz.func16, Tryz.ntmps16
  go_wp2_with (go_at_call 38; refine KR.mono ?_; rintro e w1 ⟨rfl, rfl⟩)
  go_ret2
  exact ⟨rfl, rfl⟩
set_option maxRecDepth 100000 in
set_option maxHeartbeats 4000000 in
theorem StoreNone_walk (w : World) (a : Option Addr) (cap : Nat) (l : List PP) (_hl : PrsAt w a l) (s : ByteArray) (_hs : s.size ≤ 140737488355328) :
    Calls Tryz.prog 6 #[.slice a l.length cap, .string s] w fun e w' => e = .returned (.bool true) ∧ Below w.heap.size w w' := by
  generalize l.length = L
  go_enter Tryz.func6, Tryz.ntmps6
  go_wp2_with fail
  go_loopw [6] (fun iv wr => ∃ i : Nat, i ≤ 2 ∧ iv = .int .i64 (i : Int) ∧ Hid (Below w.heap.size w wr)) (fun iv _ => (2 - intOf iv).toNat)
  case atStart => exact ⟨0, by omega, rfl, Below.refl _ _⟩
  case round =>
    obtain ⟨i, hi, rfl, HR⟩ := hrel
    match i, hi with
    | 0, _ =>
      have KM := smiss_nil wr
      have K1 := hide (sget_of _ s wr KM)
      have K2 := hide (schange_of _ (.slice a L cap) wr KM)
      have K3 := hide (sseq_of _ wr KM)
      have K4 := hide (snames_of _ wr KM)
      clear KM
      go_wp2_with (first | (go_at_call 24; refine (unhide K1).mono ?_; rintro e w1 ⟨rfl, rfl⟩) | (go_at_call 17; refine (unhide K2).mono ?_; rintro e w1 ⟨rfl, rfl⟩) | (go_at_call 23; refine (unhide K3).mono ?_; rintro e w1 ⟨rfl, rfl⟩) | (go_at_call 26; refine (unhide K4).mono ?_; rintro e w1 ⟨rfl, rfl⟩))
      go_roundw
      case rel => exact ⟨1, by omega, by go_num, HR⟩
      case measure => simp [intOf]
    | 1, _ =>
      obtain ⟨X, hX⟩ : ∃ X, X = wr.alloc (.cells #[.pointer none, .map none, .bool false] 54) := ⟨_, rfl⟩
      have KM := smiss_zero X wr.heap.size (by rw [hX, Lib.cell_of_heap (heap_alloc_new _ _)]; rfl)
      have K1 := hide (sget_of _ s X KM)
      have K2 := hide (schange_of _ (.slice a L cap) X KM)
      have K3 := hide (sseq_of _ X KM)
      have K4 := hide (snames_of _ X KM)
      have HR2 : Hid (Below w.heap.size w X) := bw_tr (unhide HR) (by rw [hX]; exact bw_alloc _ _)
      have HX := hide hX
      clear KM HR
      go_wp2_with fail
      rw [← unhide HX]
      clear hX
      go_wp2_with (first | (go_at_call 24; refine (unhide K1).mono ?_; rintro e w1 ⟨rfl, rfl⟩) | (go_at_call 17; refine (unhide K2).mono ?_; rintro e w1 ⟨rfl, rfl⟩) | (go_at_call 23; refine (unhide K3).mono ?_; rintro e w1 ⟨rfl, rfl⟩) | (go_at_call 26; refine (unhide K4).mono ?_; rintro e w1 ⟨rfl, rfl⟩))
      go_roundw
      case rel => exact ⟨2, by omega, by go_num, HR2⟩
      case measure => simp [intOf]
    | 2, _ =>
      have K1 := hide (sopen_of _ wr (missing_nil wr))
      have KA := hide (alive7_any wr)
      go_wp2_with (first | (go_at_call 16; refine (unhide K1).mono ?_; rintro e w1 ⟨rfl, rfl⟩) | (go_at_call 14; refine (unhide KA).mono ?_; rintro e w3 ⟨rfl, b3⟩))
      go_ret
      exact ⟨rfl, bw_tr (unhide HR) b3⟩
end Go.Proofs.YtckddmdgmjekdaaGreat
