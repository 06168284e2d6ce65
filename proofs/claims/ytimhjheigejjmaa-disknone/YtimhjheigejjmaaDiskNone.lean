/- DiskNone: for every op, the law answers true: a disk that is not there, or that no call made, answers ErrNil, and does nothing. No condition. -/
import Derived.Test.YtimhjheigejjmaaDkEnvB
import Derived.Test.YtimhjheigejjmaaDkK
namespace Go.Proofs.Ytimhjheigejjmaa
open Go.ChangeShapes Go.WideShapes Go.ChangeAt Go.RowKit Go.Joins Go.Maps

theorem OpAt.keep {w w' : World} {b o : Nat} {x : OpR} (h : OpAt w b o x) (hb : w'.heap[b]? = w.heap[b]?) : OpAt w' b o x := by
  unfold OpAt World.cell? at *
  simp only [hb]
  exact h
set_option maxRecDepth 100000 in
set_option maxHeartbeats 8000000 in
theorem DiskNone_walk (w : World) (x : OpR) (hx : x.ok) :
    Calls Try.prog 7 #[.agg #[.int .i64 x.kd, .int .i64 x.at_, .int .u8 x.b, .int .i64 x.more, .int .i64 x.bits]] w fun e w' => e = .returned (.bool true) ∧ Below w.heap.size w w' := by
  obtain ⟨hx1, hx2, hx3, hx4, hx5, hx6, hx7, hx8⟩ := hx
  obtain ⟨xk, xa, xb, xm, xi⟩ := x
  simp only at *
  have hbx : OpAt (w.alloc (.cells #[.int .i64 xk, .int .i64 xa, .int .u8 xb, .int .i64 xm, .int .i64 xi] 34)) w.heap.size 0 ⟨xk, xa, xb, xm, xi⟩ := by
    unfold OpAt World.cell?; simp only [heap_alloc_new]; exact ⟨rfl, rfl, rfl, rfl, rfl⟩
  have HX := hide (And.intro hbx (And.intro (bw_alloc w (.cells #[.int .i64 xk, .int .i64 xa, .int .u8 xb, .int .i64 xm, .int .i64 xi] 34)) (by simp : w.heap.size < (w.alloc (.cells #[.int .i64 xk, .int .i64 xa, .int .u8 xb, .int .i64 xm, .int .i64 xi] 34)).heap.size)))
  have HF : Hid (∀ W : World, Calls Try.prog 25 #[.int .u8 xb, .int .i64 xm] W fun e w' => e = .returned (.string (fil xb (fln xm))) ∧ Below W.heap.size W w') := fun W => filled_any xb xm hx3 hx4 W
  clear hbx hx1 hx2 hx3 hx4 hx5 hx6 hx7 hx8
  generalize fil xb (fln xm) = sf at *
  go_enter Try.func7, Try.ntmps7
  go_wp2_with fail
  go_loopw [4] (fun iv wr => ∃ i : Nat, i ≤ 2 ∧ iv = .int .i64 (i : Int) ∧ Hid (OpAt wr w.heap.size 0 ⟨xk, xa, xb, xm, xi⟩ ∧ Below w.heap.size w wr ∧ w.heap.size < wr.heap.size)) (fun iv _ => (2 - intOf iv).toNat)
  case atStart => exact ⟨0, by omega, rfl, unhide HX⟩
  case round =>
    obtain ⟨i, hi, rfl, HR⟩ := hrel
    clear HX
    match i, hi with
    | 0, _ =>
      have hWX : Below wr.heap.size wr wr := Below.refl _ _
      have KM : Hid (∀ W : World, Below (wr).heap.size wr W → Calls Try.prog 33 #[(.pointer none)] W fun e w' => e = .returned (.bool true) ∧ w' = W) := fun W _ => missing_nil W
      have KR := read_of (.pointer none) wr xa (unhide KM _ (Below.refl _ _))
      have HC : Hid (∀ W : World, Below (wr).heap.size wr W → (W.cell? ⟨w.heap.size, 1, none⟩ = some (.int .i64 xa) ∧ W.cell? ⟨w.heap.size, 2, none⟩ = some (.int .u8 xb) ∧ W.cell? ⟨w.heap.size, 3, none⟩ = some (.int .i64 xm) ∧ W.cell? ⟨w.heap.size, 4, none⟩ = some (.int .i64 xi)) ∧ OpAt W w.heap.size 0 ⟨xk, xa, xb, xm, xi⟩ ∧ Below w.heap.size w W ∧ w.heap.size < W.heap.size) := fun W hW => by
        have hb := bw_tr hWX hW
        have ho := (unhide HR).1.keep (hb.block _ (unhide HR).2.2)
        have ho' := ho
        obtain ⟨_, g1, g2, g3, g4⟩ := ho'
        simp only [Nat.zero_add] at g1 g2 g3 g4
        exact ⟨⟨g1, g2, g3, g4⟩, ho, bw_tr (unhide HR).2.1 hb, Nat.lt_of_lt_of_le (unhide HR).2.2 hb.size⟩
      obtain ⟨⟨o1, o2, o3, o4⟩, _⟩ := unhide HC _ (Below.refl _ _)
      obtain ⟨⟨p1, p2, p3, p4⟩, _⟩ := unhide HC _ (bw_drew _)
      have bz : Below (wr).heap.size wr (wr).drew := bw_drew _
      have KU := fun W hW => up_of (.pointer none) W (unhide KM W hW)
      have KL := fun W hW => len_of (.pointer none) W (unhide KM W hW)
      have KN := fun W hW => count_of (.pointer none) W (unhide KM W hW)
      have KY := fun W hW => unsynced_of (.pointer none) W (unhide KM W hW)
      have KB := fun W hW => start_of (.pointer none) W (unhide KM W hW)
      have KX := fun W hW => crash_of (.pointer none) W xi (unhide KM W hW)
      have KC := fun W hW => cut_of (.pointer none) W xa xi (unhide KM W hW)
      have KS := fun W hW => sync_of (.pointer none) W (unhide KM W hW)
      have KW := fun W (hW : Below (wr).heap.size wr W) => write_of none W xa sf (fun V hV => unhide KM V (bw_tr hW hV))
      have HKK := hide (And.intro KU (And.intro KL (And.intro KN (And.intro KY (And.intro KB (And.intro KX (And.intro KC (And.intro KS KW))))))))
      clear KU KL KN KY KB KX KC KS KW HR hWX
      go_wp2_with fail
      refine KR.mono ?_
      rintro e w1 ⟨rfl, rfl⟩
      clear KR
      go_wp2_with fail
      go_region_held3 (fun w' : World => w'.cell? ⟨w.heap.size, 1, none⟩ = some (.int .i64 xa) ∧ w'.cell? ⟨w.heap.size, 2, none⟩ = some (.int .u8 xb) ∧ w'.cell? ⟨w.heap.size, 3, none⟩ = some (.int .i64 xm) ∧ w'.cell? ⟨w.heap.size, 4, none⟩ = some (.int .i64 xi)) (first | with_reducible exact ⟨o1, o2, o3, o4⟩ | with_reducible exact ⟨p1, p2, p3, p4⟩ | with_reducible exact ⟨r1, r2, r3, r4⟩ | with_reducible exact ⟨s1, s2, s3, s4⟩) (first
        | (go_at_call 16; with_reducible refine ((unhide HKK).2.2.2.1 _ bB).mono ?_; rintro e y ⟨rfl, rfl⟩)
        | (go_at_call 15; with_reducible refine ((unhide HKK).2.2.1 _ bB).mono ?_; rintro e y ⟨rfl, rfl⟩)
        | (go_at_call 17; with_reducible refine ((unhide HKK).2.1 _ bB).mono ?_; rintro e y ⟨rfl, rfl⟩)
        | (go_at_call 14; with_reducible refine ((unhide HKK).1 _ bB).mono ?_; rintro e y ⟨rfl, rfl⟩)
        | (go_at_call 22; with_reducible refine ((unhide HKK).2.2.2.2.1 _ bB).mono ?_; rintro e y ⟨rfl, rfl⟩)
        | (go_at_call 21; with_reducible refine ((unhide HKK).2.2.2.2.2.1 _ bB).mono ?_; rintro e y ⟨rfl, rfl⟩)
        | (go_at_call 24; with_reducible refine ((unhide HKK).2.2.2.2.2.2.1 _ bB).mono ?_; rintro e y ⟨rfl, rfl⟩)
        | (go_at_call 19; with_reducible refine ((unhide HKK).2.2.2.2.2.2.2.1 _ bB).mono ?_; rintro e y ⟨rfl, rfl⟩)
        | (go_at_call 18; with_reducible refine ((unhide HKK).2.2.2.2.2.2.2.2 _ bA).mono ?_; rintro e wB ⟨rfl, b2⟩; have bB := bw_tr bA b2; clear b2; obtain ⟨⟨s1, s2, s3, s4⟩, _⟩ := unhide HC _ bB)
        | (go_at_call 25; with_reducible refine (unhide HF _).mono ?_; rintro e wA ⟨rfl, b1⟩; have bA := bw_tr bz b1; clear b1; obtain ⟨⟨r1, r2, r3, r4⟩, _⟩ := unhide HC _ bA))
      all_goals
        have HR2 := hide (unhide HC _ bB).2
        clear HKK KM HC
        go_wp2_with fail
        go_roundw
        case rel => exact ⟨1, by omega, by go_num, HR2⟩
        case measure => simp [intOf]
    | 1, _ =>
      have hWX : Below wr.heap.size wr (wr.alloc (.cells #[.int .i64 0, .bool false, .int .i64 0, .int .i64 0, .map none, .map none, .slice none 0 0, .nilFunc] 57)) := bw_alloc _ _
      have KM : Hid (∀ W : World, Below ((wr.alloc (.cells #[.int .i64 0, .bool false, .int .i64 0, .int .i64 0, .map none, .map none, .slice none 0 0, .nilFunc] 57))).heap.size (wr.alloc (.cells #[.int .i64 0, .bool false, .int .i64 0, .int .i64 0, .map none, .map none, .slice none 0 0, .nilFunc] 57)) W → Calls Try.prog 33 #[(.pointer (some ⟨wr.heap.size, 0, none⟩))] W fun e w' => e = .returned (.bool true) ∧ w' = W) := fun W hW => by
        have hB : W.heap[wr.heap.size]? = _ := (hW.block wr.heap.size (by simp)).trans (heap_alloc_new _ _)
        exact missing_raw W wr.heap.size (by simp [World.cell?, hB])
      have KR := read_of (.pointer (some ⟨wr.heap.size, 0, none⟩)) (wr.alloc (.cells #[.int .i64 0, .bool false, .int .i64 0, .int .i64 0, .map none, .map none, .slice none 0 0, .nilFunc] 57)) xa (unhide KM _ (Below.refl _ _))
      have HC : Hid (∀ W : World, Below ((wr.alloc (.cells #[.int .i64 0, .bool false, .int .i64 0, .int .i64 0, .map none, .map none, .slice none 0 0, .nilFunc] 57))).heap.size (wr.alloc (.cells #[.int .i64 0, .bool false, .int .i64 0, .int .i64 0, .map none, .map none, .slice none 0 0, .nilFunc] 57)) W → (W.cell? ⟨w.heap.size, 1, none⟩ = some (.int .i64 xa) ∧ W.cell? ⟨w.heap.size, 2, none⟩ = some (.int .u8 xb) ∧ W.cell? ⟨w.heap.size, 3, none⟩ = some (.int .i64 xm) ∧ W.cell? ⟨w.heap.size, 4, none⟩ = some (.int .i64 xi)) ∧ OpAt W w.heap.size 0 ⟨xk, xa, xb, xm, xi⟩ ∧ Below w.heap.size w W ∧ w.heap.size < W.heap.size) := fun W hW => by
        have hb := bw_tr hWX hW
        have ho := (unhide HR).1.keep (hb.block _ (unhide HR).2.2)
        have ho' := ho
        obtain ⟨_, g1, g2, g3, g4⟩ := ho'
        simp only [Nat.zero_add] at g1 g2 g3 g4
        exact ⟨⟨g1, g2, g3, g4⟩, ho, bw_tr (unhide HR).2.1 hb, Nat.lt_of_lt_of_le (unhide HR).2.2 hb.size⟩
      obtain ⟨⟨o1, o2, o3, o4⟩, _⟩ := unhide HC _ (Below.refl _ _)
      obtain ⟨⟨p1, p2, p3, p4⟩, _⟩ := unhide HC _ (bw_drew _)
      have bz : Below ((wr.alloc (.cells #[.int .i64 0, .bool false, .int .i64 0, .int .i64 0, .map none, .map none, .slice none 0 0, .nilFunc] 57))).heap.size (wr.alloc (.cells #[.int .i64 0, .bool false, .int .i64 0, .int .i64 0, .map none, .map none, .slice none 0 0, .nilFunc] 57)) ((wr.alloc (.cells #[.int .i64 0, .bool false, .int .i64 0, .int .i64 0, .map none, .map none, .slice none 0 0, .nilFunc] 57))).drew := bw_drew _
      have KU := fun W hW => up_of (.pointer (some ⟨wr.heap.size, 0, none⟩)) W (unhide KM W hW)
      have KL := fun W hW => len_of (.pointer (some ⟨wr.heap.size, 0, none⟩)) W (unhide KM W hW)
      have KN := fun W hW => count_of (.pointer (some ⟨wr.heap.size, 0, none⟩)) W (unhide KM W hW)
      have KY := fun W hW => unsynced_of (.pointer (some ⟨wr.heap.size, 0, none⟩)) W (unhide KM W hW)
      have KB := fun W hW => start_of (.pointer (some ⟨wr.heap.size, 0, none⟩)) W (unhide KM W hW)
      have KX := fun W hW => crash_of (.pointer (some ⟨wr.heap.size, 0, none⟩)) W xi (unhide KM W hW)
      have KC := fun W hW => cut_of (.pointer (some ⟨wr.heap.size, 0, none⟩)) W xa xi (unhide KM W hW)
      have KS := fun W hW => sync_of (.pointer (some ⟨wr.heap.size, 0, none⟩)) W (unhide KM W hW)
      have KW := fun W (hW : Below ((wr.alloc (.cells #[.int .i64 0, .bool false, .int .i64 0, .int .i64 0, .map none, .map none, .slice none 0 0, .nilFunc] 57))).heap.size (wr.alloc (.cells #[.int .i64 0, .bool false, .int .i64 0, .int .i64 0, .map none, .map none, .slice none 0 0, .nilFunc] 57)) W) => write_of (some ⟨wr.heap.size, 0, none⟩) W xa sf (fun V hV => unhide KM V (bw_tr hW hV))
      have HKK := hide (And.intro KU (And.intro KL (And.intro KN (And.intro KY (And.intro KB (And.intro KX (And.intro KC (And.intro KS KW))))))))
      clear KU KL KN KY KB KX KC KS KW HR hWX
      go_wp2_with fail
      refine KR.mono ?_
      rintro e w1 ⟨rfl, rfl⟩
      clear KR
      go_wp2_with fail
      go_region_held3 (fun w' : World => w'.cell? ⟨w.heap.size, 1, none⟩ = some (.int .i64 xa) ∧ w'.cell? ⟨w.heap.size, 2, none⟩ = some (.int .u8 xb) ∧ w'.cell? ⟨w.heap.size, 3, none⟩ = some (.int .i64 xm) ∧ w'.cell? ⟨w.heap.size, 4, none⟩ = some (.int .i64 xi)) (first | with_reducible exact ⟨o1, o2, o3, o4⟩ | with_reducible exact ⟨p1, p2, p3, p4⟩ | with_reducible exact ⟨r1, r2, r3, r4⟩ | with_reducible exact ⟨s1, s2, s3, s4⟩) (first
        | (go_at_call 16; with_reducible refine ((unhide HKK).2.2.2.1 _ bB).mono ?_; rintro e y ⟨rfl, rfl⟩)
        | (go_at_call 15; with_reducible refine ((unhide HKK).2.2.1 _ bB).mono ?_; rintro e y ⟨rfl, rfl⟩)
        | (go_at_call 17; with_reducible refine ((unhide HKK).2.1 _ bB).mono ?_; rintro e y ⟨rfl, rfl⟩)
        | (go_at_call 14; with_reducible refine ((unhide HKK).1 _ bB).mono ?_; rintro e y ⟨rfl, rfl⟩)
        | (go_at_call 22; with_reducible refine ((unhide HKK).2.2.2.2.1 _ bB).mono ?_; rintro e y ⟨rfl, rfl⟩)
        | (go_at_call 21; with_reducible refine ((unhide HKK).2.2.2.2.2.1 _ bB).mono ?_; rintro e y ⟨rfl, rfl⟩)
        | (go_at_call 24; with_reducible refine ((unhide HKK).2.2.2.2.2.2.1 _ bB).mono ?_; rintro e y ⟨rfl, rfl⟩)
        | (go_at_call 19; with_reducible refine ((unhide HKK).2.2.2.2.2.2.2.1 _ bB).mono ?_; rintro e y ⟨rfl, rfl⟩)
        | (go_at_call 18; with_reducible refine ((unhide HKK).2.2.2.2.2.2.2.2 _ bA).mono ?_; rintro e wB ⟨rfl, b2⟩; have bB := bw_tr bA b2; clear b2; obtain ⟨⟨s1, s2, s3, s4⟩, _⟩ := unhide HC _ bB)
        | (go_at_call 25; with_reducible refine (unhide HF _).mono ?_; rintro e wA ⟨rfl, b1⟩; have bA := bw_tr bz b1; clear b1; obtain ⟨⟨r1, r2, r3, r4⟩, _⟩ := unhide HC _ bA))
      all_goals
        have HR2 := hide (unhide HC _ bB).2
        clear HKK KM HC
        go_wp2_with fail
        go_roundw
        case rel => exact ⟨2, by omega, by go_num, HR2⟩
        case measure => simp [intOf]
    | 2, _ =>
      go_wp2_with fail
      refine (alive5_any _).mono ?_
      rintro e w9 ⟨rfl, hb9⟩
      have hb := bw_tr (unhide HR).2.1 hb9
      go_wp2_with fail
      go_ret
      exact ⟨rfl, hb⟩
    | i + 3, h => exact absurd h (by omega)

set_option maxRecDepth 100000 in
theorem DiskNone_lifted (os : Os) (started : os.Started) (H : Type) (enc : TypeId × Value → H) :
    ReturnsInHanded {} Try.checked os 7 .any (Rows.diskNoneSpec.pre6 enc Try.prog Try.f7 Rows.diskNoneRow.domain false) (Rows.diskNoneSpec.post enc Try.prog Try.f7 false true false false) := by
  refine returnsInHanded_of_change_sized (C := Try.checked) own started (by kernel_rfl) Try.func7
    (ChangeSpec.witness6 (enc := enc) (C := Try.checked) false ⟨#[], #[.agg #[.int .i64 0, .int .i64 0, .int .u8 0, .int .i64 0, .int .i64 0]], []⟩ 8 (by kernel_rfl) (by kernel_rfl) (by kernel_rfl) (by kernel_rfl)) ?_
  intro W base args ds gs before hval0 hW hcnd hsz0 _
  have hval : ∀ (j : Nat) t v, Try.f7.params[j]? = some t → args[j]? = some v → Value.okWide Try.prog W .any base t v := hval0
  have hsz : (DataW.weightsEach Try.prog (Try.f7.params.toList ++ Rows.diskNoneSpec.plain.varTypes Try.prog) (ds ++ gs)).all (· ≤ reachBytes) = true := hsz0
  have hW' := hW
  obtain ⟨p, q, hA0, hV, rfl, hfz, hnd⟩ := hW
  have hA : DataW.TrodAll enc Try.prog W 0 (fun _ => true) true Try.f7.params.toList args.toList ds p := hA0
  rw [Try.params7] at hA hval hsz
  obtain ⟨v0, vs0, d0, ds0, p0, q0, hargs, rfl, rfl, h0, r0⟩ := trodAll_cons hA
  obtain ⟨rfl, rfl, rfl⟩ := trodAll_nil r0
  obtain rfl : args = #[v0] := by cases args; simp_all
  obtain ⟨rfl, rfl⟩ := trodVars_none hV
  have k0 := h0
  have lt0 : ∀ x ∈ p0, x.block < W.heap.size := by obtain ⟨m, hm⟩ := k0; exact DataW.trod_lt m _ _ _ hm
  obtain ⟨c0, c1, c2, c3, c4, y0, y1, y2, y3, y4, m, rfl, hy0, hy1, hy2, hy3, hy4⟩ := open_agg5 Try.underlying34 (by kernel_rfl) cellsOp5 (hval 0 34 v0 rfl rfl) h0
  obtain ⟨x0, e0, _, z0⟩ := DataW.trod_int Try.underlying3 hy0
  obtain ⟨x1, e1, _, z1⟩ := DataW.trod_int Try.underlying3 hy1
  obtain ⟨x2, e2, _, z2⟩ := DataW.trod_int Try.underlying5 hy2
  obtain ⟨x3, e3, _, z3⟩ := DataW.trod_int Try.underlying3 hy3
  obtain ⟨x4, e4, _, z4⟩ := DataW.trod_int Try.underlying2 hy4
  simp at e0 e1 e2 e3 e4
  subst e0 e1 e2 e3 e4
  clear hA0 hval0
  refine (DiskNone_walk W ⟨x0, x1, x2, x3, x4⟩ ⟨(bounds64 z1).1, (bounds64 z1).2, (bounds8 z2).1, (bounds8 z2).2, (bounds64 z3).1, (bounds64 z3).2, (bounds64 z4).1, (bounds64 z4).2⟩).mono fun e W' ⟨he, bel⟩ => ?_
  subst he
  exact ⟨_, rfl, _, _, _, [], _, [], hW', trodAll_mk1 (shut_bool Try.underlying4 _), (trodAll_cons_mk (Below.trod laidOut (by kernel_rfl) (of_decide_eq_true (by kernel_rfl)) k0 bel lt0) trodAll_mk0), rfl, bel.frame _, fun h => by cases h⟩

theorem DiskNone_over : Rows.diskNoneRow.holds Try.pinned (OpenSpec.ofChange Rows.diskNoneSpec) :=
  OpenClaim.holds_of_wide 7 Try.f7 rfl rfl rfl rfl rfl rfl rfl ⟨rfl, rfl, rfl, rfl, rfl⟩ rfl rfl rfl rfl rfl (by kernel_rfl) Try.func7 (by kernel_rfl)
    (of_decide_eq_true (by kernel_rfl)) (by unfold Func.isWrapper; first | (rw [if_pos (by decide +kernel)]; kernel_rfl) | (rw [if_neg (by decide +kernel)]; exact ⟨rfl, rfl⟩))
    (fun os started H enc _ => DiskNone_lifted os started H enc)

theorem DiskNone_holds : Rows.DiskNoneSaid := DiskNone_over
#print axioms DiskNone_holds

end Go.Proofs.Ytimhjheigejjmaa
