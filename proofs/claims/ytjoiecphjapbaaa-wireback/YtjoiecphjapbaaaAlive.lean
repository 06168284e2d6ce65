/- The contract of alive: it answers true, and of what was there nothing turns. -/
import Derived.Test.YtjoiecphjapbaaaRdD
namespace Go.Proofs.Ytjoiecphjapbaaa
open Go.RowKit

theorem WR.fresh (w : World) : WR (w.alloc (.cells #[.bool true, .slice none 0 0] 54)) w.heap.size (.slice none 0 0) [] :=
  ⟨heap_alloc_new w _, World.ownsRow_nil _ _ _ _⟩
theorem RD.fresh (w : World) (s : ByteArray) : RD (w.alloc (.cells #[.bool true, .string s, .int .i64 0] 56)) w.heap.size s 0 := heap_alloc_new w _
theorem WR.lt {w : World} {b : Nat} {sv : Value} {bs : List UInt8} (h : WR w b sv bs) : b < w.heap.size ∧ ∀ k, sv.ownBlock = some k → k < w.heap.size :=
  ⟨lt_of_blk h.blk, fun k hk => by obtain ⟨c, hc⟩ := own_row h.own hk; exact lt_of_blk hc⟩

theorem alive_num : numO (tnum (⟨#[129, 1, 4, 97, 98]⟩ : ByteArray).data.toList 0) = some (.int .i64 (-65), 2) := by
  have e : tnum (⟨#[129, 1, 4, 97, 98]⟩ : ByteArray).data.toList 0 = some (-65, 2) := by decide +kernel
  rw [e]; rfl
theorem alive_text : textO (ttext (⟨#[129, 1, 4, 97, 98]⟩ : ByteArray).data.toList 2) = some (.string ⟨#[97, 98]⟩, 5) := by
  have e : ttext (⟨#[129, 1, 4, 97, 98]⟩ : ByteArray).data.toList 2 = some ([97, 98], 5) := by decide +kernel
  rw [e]; rfl
theorem alive_bytes : [] ++ enc (-65) ++ (enc ((⟨#[97, 98]⟩ : ByteArray).size : Nat) ++ (⟨#[97, 98]⟩ : ByteArray).data.toList) = [129, 1, 4, 97, 98] := by decide +kernel

set_option maxHeartbeats 1000000 in
theorem alive_any (w : World) : Calls Try.prog 15 #[] w fun e w' => e = .returned (.bool true) ∧ Below w.heap.size w w' := by
  have hw1 := WR.fresh w
  have hF1 : Fr [] w (w.alloc (.cells #[.bool true, .slice none 0 0] 54)) := (Fr.refl _ _).alloc _
  go_enter Try.func15, Try.ntmps15
  go_wp2_with (go_at_call 11; refine (newWriter_any _).mono ?_; rintro e w1 ⟨rfl, rfl⟩)
  refine (wNumber_any _ _ _ _ _ (by omega) (by omega) hw1 (by simp)).mono ?_
  rintro e w2 ⟨rfl, sv2, hst2⟩
  go_wp2_with fail
  refine (wText_ok _ _ _ _ _ (by decide) hst2.wr (by decide)).mono ?_
  rintro e w3 ⟨rfl, sv3, hst3⟩
  rw [alive_bytes] at hst3
  go_wp2_with (go_at_call 16; refine (newReader_any _ _).mono ?_; rintro e w4 ⟨rfl, rfl⟩)
  have K1 := rNumber_any w3.heap.size 0 _ _ (RD.fresh w3 ⟨#[129, 1, 4, 97, 98]⟩) (by decide)
  rw [alive_num] at K1
  refine K1.mono ?_
  rintro e w5 ⟨hf5, rfl, hr5⟩
  clear K1
  have K2 := rText_any w3.heap.size 2 _ _ hr5 (by decide)
  rw [alive_text] at K2
  go_wp2_with (go_at_call 23; refine K2.mono ?_; rintro e w6 ⟨hf6, rfl, hr6⟩)
  have hF6 : Fr [w3.heap.size] w3 w6 := ((Fr.refl _ _).alloc _).tr (hf5.tr hf6)
  have hw6 := hst3.wr.keep hF6 (by have := hst3.wr.lt.1; simp; omega) (fun k hk => by have := hst3.wr.lt.2 k hk; simp; omega)
  have K3 : Calls Try.prog 14 #[.pointer (some ⟨w.heap.size, 0, none⟩)] w6 fun e w' => e = .returned (.string ⟨#[129, 1, 4, 97, 98]⟩) ∧ w' = w6 := wBytes_any _ _ _ _ hw6
  refine K3.mono ?_
  rintro e w7 ⟨rfl, rfl⟩
  clear K2 K3
  go_wp2_with fail
  refine (end_done _ _ _ _ hr6 (by decide)).mono ?_
  rintro e w8 ⟨rfl, n8, rfl⟩
  go_wp2_with (go_at_call 16; refine (newReader_any _ _).mono ?_; rintro e w4 ⟨rfl, rfl⟩)
  refine (end_more _ _ _ _ (RD.fresh _ ⟨#[120]⟩) (by decide)).mono ?_
  rintro e w10 ⟨rfl, n10, rfl⟩
  go_wp2
  go_ret
  refine ⟨rfl, Fr.toBelow ?_⟩
  have hx := lt_of_blk hst2.wr.blk
  have hF : Fr [] w w7 := ((hF1.trans (T := [w.heap.size]) (hst2.trans hst3).fr (fun _ _ c => by cases c) (fun x hx c => by simp [Value.ownBlock] at c; simp [c])).trans (T := []) hF6 (fun x hx c => by simp at c; omega) (fun x hx c => by simp at c; have := hst3.fr.size; have := hst2.fr.size; simp at this; omega))
  exact ((hF.drewN _).alloc _).drewN _
end Go.Proofs.Ytjoiecphjapbaaa
