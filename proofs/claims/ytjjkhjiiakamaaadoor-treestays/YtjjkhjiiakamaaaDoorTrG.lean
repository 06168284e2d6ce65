/- The contract of resolution: it calls itself. -/
import Derived.Test.YtjjkhjiiakamaaaDoorTrG1
namespace Go.Proofs.YtjjkhjiiakamaaaDoor
open Go.RowKit Go.Maps

set_option maxRecDepth 100000 in
set_option maxHeartbeats 4000000 in
theorem resolution_at {T : List Nd} (hw : Wd T) (hs : Sm T) : ∀ (x : Nat), x < 2 * nlv T - 1 → ∀ {w : World} {v : Value}, Trd w v T → Tab w →
    Calls Tryd.prog 41 #[.agg #[v], .int .i64 (x : Int)] w fun e w' => ∃ r, e = .returned r ∧ Ints w.heap.size w' r (rsl T x) ∧ Below w.heap.size w w' := by
  obtain ⟨g1, g2, g3, g4, g5⟩ := hw.facts
  refine node_ind g1 (fun x hx ho => ?_) (fun x hx ho i1 i2 => ?_)
  · cases hp : pos (ndAt T x)
    · intro w v h hT
      rw [rsl_leaf hp ho]
      obtain ⟨w0, hw0⟩ : ∃ w0, w0 = bxw w v := ⟨_, rfl⟩
      have b0 : Below w.heap.size w w0 := by rw [hw0]; exact bwA _ _
      have KB := blank_any (h.bw b0) (show x < T.length by omega)
      rw [hp] at KB
      have KL : ∀ W, Below w.heap.size w W → _ := fun W hW => left_any (x : Int) W (by omega) (hT.bw hW)
      have hlf : lfB (x : Nat) = false := by rw [(span_of g1 hx).2.2.2.2.2]; simp; omega
      rw [hlf] at KL
      have HW : Hid (w0 = w.alloc (.cells #[v] 24)) := hw0
      clear h hT hw0
      clear g1 g2 g3 g4 g5
      go_enter Tryd.func41, Tryd.ntmps41
      go_wp2_with fail
      rw [← unhide HW]
      refine KB.mono ?_
      rintro e w1 ⟨rfl, b1⟩
      have b2 := bw_tr b0 b1
      have KL2 := KL _ b2
      clear KL KB
      go_wp2_with fail
      refine KL2.mono ?_
      rintro e w1 ⟨rfl, rfl⟩
      go_wp2
      go_ret
      exact ⟨_, rfl, ints_nil _ _, b2⟩
    · intro w v h hT; exact resolution_pos hw hs x hx hp h
  · cases hp : pos (ndAt T x)
    · intro w v h hT
      rw [rsl_par g1 hx hp ho]
      obtain ⟨a1, a2, a3, a4, a5, a6, a7, a8, _⟩ := (span_of g1 hx).2.1 ho
      have hl1 := rsl_72 hw hs (show lN x < T.length by omega)
      have hl2 := rsl_72 hw hs (show rN x < T.length by omega)
      obtain ⟨w0, hw0⟩ : ∃ w0, w0 = bxw w v := ⟨_, rfl⟩
      have b0 : Below w.heap.size w w0 := by rw [hw0]; exact bwA _ _
      have KB := blank_any (h.bw b0) (show x < T.length by omega)
      rw [hp] at KB
      have KL : ∀ W, Below w.heap.size w W → _ := fun W hW => left_any (x : Int) W (by omega) (hT.bw hW)
      have KR : ∀ W, Below w.heap.size w W → _ := fun W hW => right_any (x : Int) W (by omega) (hT.bw hW)
      rw [a1, a3] at KL
      rw [a2, a4] at KR
      have HB : Hid (∀ W, Below w0.heap.size w0 W → W.cell? ⟨w.heap.size, 0, none⟩ = some v ∧ Below w.heap.size w W) := fun W hW => by subst hw0; exact ⟨bx_cell hW, bx_bel hW⟩
      have HC : Hid (∀ W, Below w.heap.size w W → Trd W v T ∧ Tab W) := fun W hW => ⟨h.bw hW, hT.bw hW⟩
      have HW : Hid (w0 = w.alloc (.cells #[v] 24)) := hw0
      clear h hT hw0
      clear g1 g2 g3 g4 g5
      have I1 : Hid (∀ W, Below w0.heap.size w0 W → Calls Tryd.prog 41 #[.agg #[v], .int .i64 (lN x : Nat)] W fun e w' => ∃ r, e = .returned r ∧ Ints W.heap.size w' r (rsl T (lN x)) ∧ Below W.heap.size W w') := fun W hW => i1 (unhide HC _ (unhide HB _ hW).2).1 (unhide HC _ (unhide HB _ hW).2).2
      have I2 : Hid (∀ W, Below w0.heap.size w0 W → Calls Tryd.prog 41 #[.agg #[v], .int .i64 (rN x : Nat)] W fun e w' => ∃ r, e = .returned r ∧ Ints W.heap.size w' r (rsl T (rN x)) ∧ Below W.heap.size W w') := fun W hW => i2 (unhide HC _ (unhide HB _ hW).2).1 (unhide HC _ (unhide HB _ hW).2).2
      generalize rsl T (lN x) = L1 at *
      generalize rsl T (rN x) = L2 at *
      generalize ((lN x : Nat) : Int) = y1 at *
      generalize ((rN x : Nat) : Int) = y2 at *
      clear i1 i2 a1 a2 a3 a4 a5 a6 a7 a8 HC hw hs
      go_enter Tryd.func41, Tryd.ntmps41
      go_wp2_with fail
      rw [← unhide HW]
      refine KB.mono ?_
      rintro e w1 ⟨rfl, b1⟩
      obtain ⟨c1, hbw⟩ := unhide HB _ b1
      have KL2 := KL _ hbw
      have KR2 := KR _ hbw
      clear KL KB KR
      go_wp2_with fail
      refine KL2.mono ?_
      rintro e w1 ⟨rfl, rfl⟩
      go_wp2_with fail
      refine KR2.mono ?_
      rintro e w1 ⟨rfl, rfl⟩
      clear KL2 KR2
      have HL12 : L1.length + L2.length ≤ 100000 := by omega
      clear hl1 hl2
      have bd : Below w0.heap.size w0 w1.drew := b1.drew
      have J1 := unhide I1 _ bd
      have S0 := (unhide HB _ bd).1
      have hs0 := b0.size
      go_wp2_with fail
      go_region_held3 (fun w' : World => w'.cell? ⟨w.heap.size, 0, none⟩ = some v) (first | with_reducible exact S0 | with_reducible exact S1 | with_reducible exact S2 | with_reducible exact S3) (first
        | (go_at_call_of 41 (Value.int IntKind.i64 y2); refine J2.mono ?_; rintro e z2 ⟨r2, rfl, R2', b3⟩; have b4 := bw_tr b2 b3; have S2 := (unhide HB _ b4).1; have R1 := R1'.bw b3; have R2 := R2'.nums; have hl12 := HL12; have hsz2 := b4.size)
        | (go_at_call_of 41 (Value.int IntKind.i64 y1); refine J1.mono ?_; rintro e z1 ⟨r1, rfl, R1'', b1'⟩; have b2 := bw_tr bd b1'; have R1' := R1''.mono bd.size; have S1 := (unhide HB _ b2).1; have J2 := unhide I2 _ b2)
        | (refine step_join rfl (.tmp 50) (.tmp 53) rfl w0.heap.size r1 r2 L1 L2 (by simp [Act.eval]) R1 (by simp [Act.eval]) R2 hl12 hsz2 ?_; intro r3 z3 R3 hg3 _; have b5 := (b4.grown hg3 (by exact b4.size) (fun k hk => (World.ownsRow.lt R1 k hk).1)); have S3 := (unhide HB _ b5).1))
      all_goals
        go_wp2_with fail
        go_ret
        exact ⟨_, rfl, R3.mono hs0, bw_tr b0 b5⟩
    · intro w v h hT; exact resolution_pos hw hs x hx hp h
end Go.Proofs.YtjjkhjiiakamaaaDoor
