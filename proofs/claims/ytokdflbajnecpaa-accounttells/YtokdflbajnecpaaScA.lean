/- Package hold: is a store there, has it a term; terms made where there is room. -/
import Derived.Test.YtokdflbajnecpaaNTmBuild
import Derived.Test.YtokdflbajnecpaaNTmG
namespace Go.Proofs.Ytokdflbajnecpaa.Tn
open Go.RowKit Go.Maps

theorem bwA' (w : World) (o : Obj) : Below w.heap.size w (w.alloc o) := (Below.refl _ _).alloc (Nat.le_refl _) _
theorem make_ok {b : Nat} {sv : Value} {mb : Nat} {L : List Tm} {w : World} (h : St w b sv mb L) (k n x y : Int) (ht : Tm.ok ⟨k, n, x, y⟩) (hm : may L.length ⟨k, n, x, y⟩ = true) (hl : L.length < 1048576) :
    Calls Try.prog 27 #[.pointer (some ⟨b, 0, none⟩), .agg #[.int .u8 k, .int .i64 n, .int .i64 x, .int .i64 y]] w fun e w' => e = .returned (.tuple #[.int .i64 (mkN L ⟨k, n, x, y⟩ : Nat), .int .i64 0]) ∧ ∃ sv', SStep w w' b sv sv' mb (mkL L ⟨k, n, x, y⟩) := by
  refine (make_any b sv mb L ⟨k, n, x, y⟩ w h ht).mono ?_
  rintro e w' ⟨rfl, s⟩
  rw [(mk_ok hm hl).1]
  exact ⟨rfl, s⟩
theorem mkN_thr {L : List Tm} {t : Tm} (hm : may L.length t = true) (hl : L.length < 1048576) : thr (mkL L t).length (mkN L t : Nat) = true ∧ (mkN L t : Int) ≤ 1048577 := by
  obtain ⟨_, h2, h3⟩ := mk_ok hm hl
  have := num_get h3
  have := num_le (mkL L t) t
  have := mkL_len L t
  rw [h2]
  exact ⟨thr_iff.2 (by omega), by omega⟩
set_option maxRecDepth 100000 in
set_option maxHeartbeats 2000000 in
theorem list_empty {b : Nat} {sv : Value} {mb : Nat} {L : List Tm} {w : World} (h : St w b sv mb L) :
    Calls Try.prog 63 #[.pointer (some ⟨b, 0, none⟩), .slice none 0 0] w fun e w' => e = .returned (.tuple #[.int .i64 0, .int .i64 0]) ∧ w' = w := by
  have K := hide (missing_any b sv mb L w h)
  clear h
  go_enter Try.func63, Try.ntmps63
  go_wp2_with fail
  refine (unhide K).mono ?_
  rintro e w ⟨rfl, rfl⟩
  clear K
  go_wp2
  refine wp_loop_rounds 1 ?_
  rw [rounds_succ]
  go_wp2
  go_ret2
  exact ⟨rfl, rfl⟩
set_option maxRecDepth 100000 in
theorem hmissing_any {b : Nat} {sv : Value} {mb : Nat} {L : List Tm} {w : World} (h : St w b sv mb L) :
    Calls Try.prog 31 #[.pointer (some ⟨b, 0, none⟩)] w fun e w' => e = .returned (.bool false) ∧ w' = w := by
  have K := hide (list_empty h)
  clear h
  go_enter Try.func31, Try.ntmps31
  go_wp2_with fail
  refine (unhide K).mono ?_
  rintro e w ⟨rfl, rfl⟩
  clear K
  go_wp2
  go_ret
  exact ⟨rfl, rfl⟩
set_option maxRecDepth 100000 in
theorem list_nostore (w : World) :
    Calls Try.prog 63 #[.pointer none, .slice none 0 0] w fun e w' => e = .returned (.tuple #[.int .i64 0, .int .i64 2]) ∧ w' = w := by
  have K := hide (missing_nil w)
  go_enter Try.func63, Try.ntmps63
  go_wp2_with fail
  refine (unhide K).mono ?_
  rintro e w ⟨rfl, rfl⟩
  clear K
  go_wp2
  go_ret2
  exact ⟨rfl, rfl⟩
set_option maxRecDepth 100000 in
theorem hmissing_nil (w : World) :
    Calls Try.prog 31 #[.pointer none] w fun e w' => e = .returned (.bool true) ∧ w' = w := by
  have K := hide (list_nostore w)
  go_enter Try.func31, Try.ntmps31
  go_wp2_with fail
  refine (unhide K).mono ?_
  rintro e w ⟨rfl, rfl⟩
  clear K
  go_wp2
  go_ret
  exact ⟨rfl, rfl⟩
set_option maxRecDepth 100000 in
theorem hhas_any {b : Nat} {sv : Value} {mb : Nat} {L : List Tm} {w : World} (h : St w b sv mb L) (x : Int) :
    Calls Try.prog 39 #[.pointer (some ⟨b, 0, none⟩), .int .i64 x] w fun e w' => e = .returned (.bool (thr L.length x)) ∧ Below w.heap.size w w' := by
  have K := hide (get_any b sv mb L x w h)
  clear h
  generalize thr L.length x = r at *
  generalize getT L x = t at *
  go_enter Try.func39, Try.ntmps39
  go_wp2_with fail
  refine (unhide K).mono ?_
  rintro e w1 ⟨rfl, y⟩
  clear K
  go_wp2
  go_ret
  exact ⟨rfl, y.alloc y.size _⟩
end Go.Proofs.Ytokdflbajnecpaa.Tn
