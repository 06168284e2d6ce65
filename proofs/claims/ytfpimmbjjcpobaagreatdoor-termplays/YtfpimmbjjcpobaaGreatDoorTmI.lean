/- The contract of lives, the end of every law of layer 3. -/
import Derived.Test.YtfpimmbjjcpobaaGreatDoorTmH
namespace Go.Proofs.YtfpimmbjjcpobaaGreatDoor
open Go.RowKit Go.Maps

def l1 : List Tm := [⟨1, 7, 0, 0⟩]
def l2 : List Tm := [⟨1, 7, 0, 0⟩, ⟨2, 3, 0, 0⟩]
def l3 : List Tm := [⟨1, 7, 0, 0⟩, ⟨2, 3, 0, 0⟩, ⟨3, 0, 1, 2⟩]
theorem lives_facts : mkN [] ⟨1, 7, 0, 0⟩ = 1 ∧ mkE [] ⟨1, 7, 0, 0⟩ = 0 ∧ mkL [] ⟨1, 7, 0, 0⟩ = l1 ∧ dt l1 [3] = (l2, 2, 0) ∧ ls l2 [1, 2] = (l3, 3, 0) ∧ dag l3 3 = l3 := by decide +kernel

theorem nis_one (w : World) (x : Int) (t : TypeId) (h : -9223372036854775808 ≤ x ∧ x ≤ 9223372036854775807) : NIs (w.alloc (.cells #[.int .i64 x] t)) (.slice (some ⟨w.heap.size, 0, none⟩) 1 1) [x] := by
  refine ⟨_, 1, rfl, by simp, by simpa using h, Or.inr ⟨w.heap.size, 0, rfl, fun i z hi => ?_⟩⟩
  match i, hi with
  | 0, hi => simp at hi; subst hi; unfold World.cell?; simp only [heap_alloc_new]; rfl
  | i + 1, hi => simp at hi
theorem nis_two (w : World) (x y : Int) (t : TypeId) (h : -9223372036854775808 ≤ x ∧ x ≤ 9223372036854775807) (h' : -9223372036854775808 ≤ y ∧ y ≤ 9223372036854775807) : NIs (w.alloc (.cells #[.int .i64 x, .int .i64 y] t)) (.slice (some ⟨w.heap.size, 0, none⟩) 2 2) [x, y] := by
  refine ⟨_, 2, rfl, by simp, ?_, Or.inr ⟨w.heap.size, 0, rfl, fun i z hi => ?_⟩⟩
  · intro z hz
    rcases List.mem_cons.1 hz with rfl | hz
    · exact h
    · simp at hz; subst hz; exact h'
  · match i, hi with
    | 0, hi => simp at hi; subst hi; unfold World.cell?; simp only [heap_alloc_new]; rfl
    | 1, hi => simp at hi; subst hi; unfold World.cell?; simp only [heap_alloc_new]; rfl
    | i + 2, hi => simp at hi
theorem sep_new {w : World} {b : Nat} {sv : Value} {mb : Nat} {L : List Tm} (h : St w b sv mb L) (n c : Nat) : ∀ k, (Value.slice (some ⟨w.heap.size, 0, none⟩) n c).ownBlock = some k → k ∉ foot b sv mb := by
  intro k hk hc
  have := h.lt k hc
  simp [Value.ownBlock] at hk
  omega
theorem bw_alloc (w : World) (o : Obj) : Below w.heap.size w (w.alloc o) := (Below.refl _ _).alloc (Nat.le_refl _) _
theorem lives_dag (w : World) : Tms (w.alloc (.cells #[.int .u8 1, .int .i64 7, .int .i64 0, .int .i64 0, .int .u8 2, .int .i64 3, .int .i64 0, .int .i64 0, .int .u8 3, .int .i64 0, .int .i64 1, .int .i64 2] 69)) (.slice (some ⟨w.heap.size, 0, none⟩) 3 3) l3 := by
  refine ⟨_, 3, rfl, by simp [l3], Or.inr ⟨w.heap.size, 0, rfl, fun i t hi => ?_⟩⟩
  unfold TAt World.cell?
  simp only [heap_alloc_new]
  match i, hi with
  | 0, hi | 1, hi | 2, hi => simp [l3] at hi; subst hi; exact ⟨rfl, rfl, rfl, rfl⟩
  | i + 3, hi => simp [l3] at hi

set_option maxRecDepth 100000 in
set_option maxHeartbeats 4000000 in
theorem lives_any (w : World) :
    Calls Tryz.prog 13 #[] w fun e w' => e = .returned (.bool true) ∧ Below w.heap.size w w' := by
  obtain ⟨f1, f2, f3, f4, f5, f6⟩ := lives_facts
  have K1 : ∀ b sv mb w, St w b sv mb [] → Calls Tryz.prog 16 #[.pointer (some ⟨b, 0, none⟩), .agg #[.int .u8 1, .int .i64 7, .int .i64 0, .int .i64 0]] w fun e w' => e = .returned (.tuple #[.int .i64 1, .int .i64 0]) ∧ ∃ sv', SStep w w' b sv sv' mb l1 := by
    intro b sv mb w h
    have := make_any b sv mb [] ⟨1, 7, 0, 0⟩ w h ⟨by decide, by decide, by decide, by decide, by decide, by decide, by decide, by decide⟩
    rw [f1, f2, f3] at this
    exact this
  have K2 : ∀ b sv mb w, St w b sv mb l1 → Calls Tryz.prog 124 #[.pointer (some ⟨b, 0, none⟩), .slice (some ⟨w.heap.size, 0, none⟩) 1 1] (w.alloc (.cells #[.int .i64 3] 2)) fun e w' => e = .returned (.tuple #[.int .i64 2, .int .i64 0]) ∧ ∃ sv', SStep w w' b sv sv' mb l2 := by
    intro b sv mb w h
    have := data_any b sv mb l1 _ [3] _ (h.bw (bw_alloc w _)) (nis_one w 3 2 (by decide)) (sep_new h 1 1) (by decide)
    rw [f4] at this
    refine this.mono ?_
    rintro e w' ⟨rfl, sv', hs⟩
    exact ⟨rfl, sv', hs.before (bw_alloc w _)⟩
  have K3 : ∀ b sv mb w, St w b sv mb l2 → Calls Tryz.prog 125 #[.pointer (some ⟨b, 0, none⟩), .slice (some ⟨w.heap.size, 0, none⟩) 2 2] (w.alloc (.cells #[.int .i64 1, .int .i64 2] 3)) fun e w' => e = .returned (.tuple #[.int .i64 3, .int .i64 0]) ∧ ∃ sv', SStep w w' b sv sv' mb l3 := by
    intro b sv mb w h
    have := list_any b sv mb l2 _ [1, 2] _ (h.bw (bw_alloc w _)) (nis_two w 1 2 3 (by decide) (by decide)) (sep_new h 2 2)
    rw [f5] at this
    refine this.mono ?_
    rintro e w' ⟨rfl, sv', hs⟩
    exact ⟨rfl, sv', hs.before (bw_alloc w _)⟩
  have K4 : ∀ b sv mb w, St w b sv mb l3 → Calls Tryz.prog 8 #[.pointer (some ⟨b, 0, none⟩), .int .i64 3] w fun e w' => ∃ v, e = .returned v ∧ TmRow w.heap.size w' v l3 ∧ Below w.heap.size w w' := by
    intro b sv mb w h
    have := dag_any b sv mb l3 3 w h
    rw [f6] at this
    exact this
  have HK := hide (And.intro K1 (And.intro K2 (And.intro K3 K4)))
  clear K1 K2 K3 K4 f1 f2 f3 f4 f5 f6
  go_enter Tryz.func13, Tryz.ntmps13
  go_wp2_with fail
  refine (new_any w).mono ?_
  rintro e w1 ⟨b, mb, rfl, h1, hft, hb1⟩
  go_wp2_with fail
  refine ((unhide HK).1 b _ mb w1 h1).mono ?_
  rintro e w2 ⟨rfl, sv2, s2⟩
  go_wp2_with fail
  refine ((unhide HK).2.1 b sv2 mb w2 s2.st).mono ?_
  rintro e w3 ⟨rfl, sv3, s3⟩
  go_wp2_with fail
  refine ((unhide HK).2.2.1 b sv3 mb w3 s3.st).mono ?_
  rintro e w4 ⟨rfl, sv4, s4⟩
  go_wp2_with fail
  refine ((unhide HK).2.2.2 b sv4 mb w4 s4.st).mono ?_
  rintro e w5 ⟨v5, rfl, r5, hb5⟩
  go_wp2_with fail
  refine (same_any _ _ l3 l3 _ ((r5.tms (by decide)).bw (bw_alloc w5 _)) (lives_dag w5)).mono ?_
  rintro e w6 ⟨rfl, hb6⟩
  have hb : Below w.heap.size w w4 := Fr.toBase hb1 ((s2.trans s3).trans s4).fr hft
  have hbb := bw_tr (bw_tr (bw_tr hb hb5) (bw_alloc w5 _)) hb6
  clear s2 s3 s4 hb5 hb6 hb r5 h1 hft hb1 HK
  have hd : decide (l3 = l3) = true := decide_eq_true rfl
  rw [hd]
  go_wp2_with fail
  go_ret
  exact ⟨rfl, hbb⟩

end Go.Proofs.YtfpimmbjjcpobaaGreatDoor
