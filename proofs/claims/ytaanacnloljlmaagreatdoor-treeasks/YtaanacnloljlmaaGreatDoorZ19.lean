/- Texts joined: TeJ TeK TeL TeM TeN. -/
import Derived.Test.YtaanacnloljlmaaGreatDoorZ16
import Derived.Test.YtaanacnloljlmaaGreatDoorZ05
import Derived.Test.YtaanacnloljlmaaGreatDoorIxRefD
import Derived.Test.YtaanacnloljlmaaGreatDoorZ10
/- The contract of the document's resolution. -/
namespace Go.Proofs.YtaanacnloljlmaaGreatDoor
open Go.RowKit Go.Maps

set_option maxRecDepth 100000 in
set_option maxHeartbeats 4000000 in
theorem rres_pos {T : List Nd} (hw : Wd T) (hs : Sm T) (x : Nat) (hx : x < 2 * nlv T - 1) (hp : pos (ndAt T x) = true) {w : World} {v : Value} (h : Trd w v T) :
    Calls Tryz.prog 157 #[.agg #[v], .int .i64 (x : Int)] w fun e w' => ∃ r, e = .returned r ∧ Ints w.heap.size w' r (rsl T x) ∧ Below w.heap.size w w' := by
  obtain ⟨g1, g2, g3, g4, g5⟩ := hw.facts
  obtain ⟨i0, hi, hz0, hz1, hz2⟩ := info_parts Tryz.infoInt
  rw [rsl_pos hp]
  have hxT : x < T.length := by omega
  obtain ⟨a, c, rfl⟩ := h.slice
  obtain ⟨-, h2⟩ := h.at
  obtain ⟨b, o, rfl, h3⟩ := h2 (by omega)
  obtain ⟨u, k1, k2⟩ := h3 _ (bwA w (.cells #[.slice (some ⟨b, o, none⟩) T.length c] 24)) x hxT
  obtain ⟨au, cu, rfl⟩ := nums_slice k2
  obtain ⟨c0, c1, c2, c3⟩ := k1
  obtain ⟨s1, s2⟩ := hs x hxT
  obtain ⟨p, hpp⟩ : ∃ p, (ndAt T x).pub = p := ⟨_, rfl⟩
  obtain ⟨m, hm⟩ : ∃ p, (ndAt T x).mem = p := ⟨_, rfl⟩
  obtain ⟨e, he⟩ : ∃ p, (ndAt T x).ep = p := ⟨_, rfl⟩
  obtain ⟨l, hl⟩ : ∃ p, (ndAt T x).un = p := ⟨_, rfl⟩
  rw [hpp] at c0
  rw [hm] at c1
  rw [he] at c2
  rw [hl] at c3 s1 s2 k2
  obtain ⟨M, hM⟩ : ∃ M, M = l.length := ⟨_, rfl⟩
  obtain ⟨W, hWd⟩ : ∃ W, W = (w.alloc (.cells #[.slice (some ⟨b, o, none⟩) T.length c] 24)).alloc (.cells #[.int .i64 p, .int .i64 m, .int .i64 e, .slice au M cu] 88) := ⟨_, rfl⟩
  rw [← hM] at c3 s1
  have hbW : Below w.heap.size w W := by rw [hWd]; exact (bwA _ _).alloc (by simp) _
  have HB : Hid (∀ W', Below W.heap.size W W' → (W'.cell? ⟨w.heap.size, 0, none⟩ = some (.slice (some ⟨b, o, none⟩) T.length c) ∧ W'.cell? ⟨w.heap.size + 1, 0, none⟩ = some (.int .i64 p) ∧ W'.cell? ⟨w.heap.size + 1, 3, none⟩ = some (.slice au M cu)) ∧ Below w.heap.size w W') := fun W' hb => by
    have e0 : W'.heap[w.heap.size]? = some (.cells #[.slice (some ⟨b, o, none⟩) T.length c] 24 (0, 0)) := by
      rw [hb.block _ (by rw [hWd]; simp; omega), hWd, Below.heap_alloc _ _ _ (by simp)]; exact heap_alloc_new _ _
    have e1 : W'.heap[w.heap.size + 1]? = some (.cells #[.int .i64 p, .int .i64 m, .int .i64 e, .slice au M cu] 88 (0, 0)) := by
      rw [hb.block _ (by rw [hWd]; simp), hWd]
      have := heap_alloc_new (w.alloc (.cells #[.slice (some ⟨b, o, none⟩) T.length c] 24)) (.cells #[.int .i64 p, .int .i64 m, .int .i64 e, .slice au M cu] 88)
      simpa using this
    exact ⟨⟨by simp [World.cell?, e0], by simp [World.cell?, e1], by simp [World.cell?, e1]⟩, bw_tr hbW hb⟩
  have k2' := k2.bw (w' := W) (by rw [hWd]; exact bwA _ _)
  have HW : Hid (W = (w.alloc (.cells #[.slice (some ⟨b, o, none⟩) T.length c] 24)).alloc (.cells #[.int .i64 p, .int .i64 m, .int .i64 e, .slice au M cu] 88)) := hWd
  have hx1 : (x : Int) < (T.length : Int) := by omega
  have hx2 : (0 : Int) ≤ (x : Int) := by omega
  have hx3 : (x : Int) ≤ 15 := by omega
  have g3' : (T.length : Int) ≤ 15 := by omega
  have kp0 : p ≠ 0 := by unfold pos at hp; rw [hpp] at hp; simpa using hp
  have kp1 : (p == 0) = false := by simpa using kp0
  have kp2 : decide (p = 0) = false := by simpa using kp0
  have kp3 : (p != 0) = true := by simpa using kp0
  have HL : Hid (∀ i z, l[i]? = some z → 0 ≤ z ∧ z ≤ 7 ∧ ∃ g o', au = some ⟨g, o', none⟩ ∧ ∀ W', Below W.heap.size W W' → W'.cell? ⟨g, o' + i, none⟩ = some (.int .i64 z)) := fun i z hz => by
    have hm := s2 z (List.mem_of_getElem? hz)
    refine ⟨hm.1, hm.2, ?_⟩
    obtain ⟨g, o', cap, e, hc⟩ := k2'.open (by have := (List.getElem?_eq_some_iff.1 hz).1; omega)
    cases e
    refine ⟨g, o', rfl, fun W' hW => ?_⟩
    have hcc := hc i z hz
    rw [hW.cell (p := ⟨g, o' + i, none⟩) (lt_of_cell (a := ⟨g, o' + i, none⟩) hcc)]; exact hcc
  have HM := hide hM
  have HS : Hid (w.heap.size ≤ W.heap.size) := hbW.size
  rw [hl]
  have bW0 : Below W.heap.size W W := Below.refl _ _
  clear h h2 h3 k2 k2' hpp hm he hl hM hw g1 g2 g3 g4 g5 hx hxT hWd hbW s2 hs hp kp0
  generalize T.length = N at *
  go_enter Tryz.func157, Tryz.ntmps157
  go_upto_region 2 with fail
  rw [← unhide HW]
  clear c0 c1 c2 c3 HW
  obtain ⟨⟨d0, d1, d2⟩, -⟩ := unhide HB _ bW0
  have bA : Below W.heap.size W (W.alloc (.cells #[.int .i64 (x : Int)] 3)) := bW0.alloc (Nat.le_refl _) _
  obtain ⟨⟨-, -, d3⟩, -⟩ := unhide HB _ bA
  go_wp2_with fail
  go_loopw [6, 7] (fun lv iv wr => ∃ i : Nat, iv = .int .i64 (i : Int) ∧ i ≤ M ∧ Ints W.heap.size wr lv ((x : Int) :: (l.take i).map (2 * ·)) ∧ Below W.heap.size W wr) (fun _ iv _ => (M - (intOf iv)).toNat)
  case atStart => exact ⟨0, rfl, by omega, one_own W (x : Int), bA⟩
  case round =>
    clear d0 d1 d2 d3 bA bW0
    obtain ⟨i, rfl, hin, hown, hbel⟩ := hrel
    obtain ⟨⟨d0, d1, d2⟩, hbw⟩ := unhide HB _ hbel
    by_cases hlt : i < M
    · obtain ⟨z, hz⟩ : ∃ z, l[i]? = some z := ⟨_, List.getElem?_eq_getElem (by have := unhide HM; omega)⟩
      obtain ⟨z0, z7, g, o', rfl, hc⟩ := unhide HL i z hz
      have c2 := hc _ hbel
      have q1 : (i : Int) < (M : Int) := by omega
      have q0 : (0 : Int) ≤ (i : Int) := by omega
      have hsn : Hid ((x : Int) :: (l.take (i + 1)).map (2 * ·) = ((x : Int) :: (l.take i).map (2 * ·)) ++ [2 * z]) := by
        unfold Hid; rw [List.take_add_one, hz]; simp
      have hlen : ((x : Int) :: (l.take i).map (2 * ·)).length ≤ 9 := by simp; omega
      generalize (x : Int) :: (l.take i).map (2 * ·) = cur at *
      have hsz := hbel.size
      clear hz hc d0 d1
      go_wp2_with (at_builtin; refine wpList_append_own _ rfl (.tmp 29) (.tmp 36) 31 rfl W.heap.size 3 i0 (.int .i64 0) 1 8 Tryz.underlying31 hi hz0 hz1 hz2 rfl (by decide) _ cur.length _ rfl (World.ownsRow.alloc hown _) ⟨wr.heap.size, 0, none⟩ 1 1 [_] rfl rfl (cell_one_new _ _ _) ?c2 ?c3 ?c4 ?c5 ?nx)
      case c2 => intro u hu; simp at hu; subst hu; rfl
      case c3 => unfold maxLen; omega
      case c4 => omega
      case c5 => simp; omega
      case nx =>
        intro v' w3 hown' hgrow _
        obtain ⟨R1, R2⟩ := ints_snoc (2 * z) hbel hown hown' hgrow
        clear hown' hgrow
        go_wp2_with fail
        go_roundw
        case rel => exact ⟨i + 1, by go_num, by omega, by rw [unhide hsn]; exact R1, R2⟩
        case measure => simp [intOf]; omega
    · have hie : i = M := by omega
      have e : l.take i = l := List.take_of_length_le (by have := unhide HM; omega)
      rw [e] at hown
      subst hie
      go_wp2_with fail
      go_ret
      exact ⟨_, rfl, hown.mono (unhide HS), hbw⟩
set_option maxRecDepth 100000 in
set_option maxHeartbeats 4000000 in
theorem rres_leaf {T : List Nd} (hw : Wd T) (hs : Sm T) (x : Nat) (hx : x < 2 * nlv T - 1) (ho : x % 2 = 0) (hp : pos (ndAt T x) = false) {w : World} {v : Value} (h : Trd w v T) :
    Calls Tryz.prog 157 #[.agg #[v], .int .i64 (x : Int)] w fun e w' => ∃ r, e = .returned r ∧ Ints w.heap.size w' r (rsl T x) ∧ Below w.heap.size w w' := by
  obtain ⟨g1, g2, g3, g4, g5⟩ := hw.facts
  rw [rsl_leaf hp ho]
  have hxT : x < T.length := by omega
  obtain ⟨a, c, rfl⟩ := h.slice
  obtain ⟨-, h2⟩ := h.at
  obtain ⟨b, o, rfl, h3⟩ := h2 (by omega)
  obtain ⟨u, k1, k2⟩ := h3 _ (bwA w (.cells #[.slice (some ⟨b, o, none⟩) T.length c] 24)) x hxT
  obtain ⟨au, cu, rfl⟩ := nums_slice k2
  obtain ⟨c0, c1, c2, c3⟩ := k1
  obtain ⟨s1, s2⟩ := hs x hxT
  obtain ⟨p, hpp⟩ : ∃ p, (ndAt T x).pub = p := ⟨_, rfl⟩
  obtain ⟨m, hm⟩ : ∃ p, (ndAt T x).mem = p := ⟨_, rfl⟩
  obtain ⟨e, he⟩ : ∃ p, (ndAt T x).ep = p := ⟨_, rfl⟩
  obtain ⟨l, hl⟩ : ∃ p, (ndAt T x).un = p := ⟨_, rfl⟩
  rw [hpp] at c0
  rw [hm] at c1
  rw [he] at c2
  rw [hl] at c3 s1 s2 k2
  obtain ⟨M, hM⟩ : ∃ M, M = l.length := ⟨_, rfl⟩
  obtain ⟨W, hWd⟩ : ∃ W, W = (w.alloc (.cells #[.slice (some ⟨b, o, none⟩) T.length c] 24)).alloc (.cells #[.int .i64 p, .int .i64 m, .int .i64 e, .slice au M cu] 88) := ⟨_, rfl⟩
  rw [← hM] at c3 s1
  have hbW : Below w.heap.size w W := by rw [hWd]; exact (bwA _ _).alloc (by simp) _
  have HB : Hid (∀ W', Below W.heap.size W W' → (W'.cell? ⟨w.heap.size, 0, none⟩ = some (.slice (some ⟨b, o, none⟩) T.length c) ∧ W'.cell? ⟨w.heap.size + 1, 0, none⟩ = some (.int .i64 p) ∧ W'.cell? ⟨w.heap.size + 1, 3, none⟩ = some (.slice au M cu)) ∧ Below w.heap.size w W') := fun W' hb => by
    have e0 : W'.heap[w.heap.size]? = some (.cells #[.slice (some ⟨b, o, none⟩) T.length c] 24 (0, 0)) := by
      rw [hb.block _ (by rw [hWd]; simp; omega), hWd, Below.heap_alloc _ _ _ (by simp)]; exact heap_alloc_new _ _
    have e1 : W'.heap[w.heap.size + 1]? = some (.cells #[.int .i64 p, .int .i64 m, .int .i64 e, .slice au M cu] 88 (0, 0)) := by
      rw [hb.block _ (by rw [hWd]; simp), hWd]
      have := heap_alloc_new (w.alloc (.cells #[.slice (some ⟨b, o, none⟩) T.length c] 24)) (.cells #[.int .i64 p, .int .i64 m, .int .i64 e, .slice au M cu] 88)
      simpa using this
    exact ⟨⟨by simp [World.cell?, e0], by simp [World.cell?, e1], by simp [World.cell?, e1]⟩, bw_tr hbW hb⟩
  have k2' := k2.bw (w' := W) (by rw [hWd]; exact bwA _ _)
  have HW : Hid (W = (w.alloc (.cells #[.slice (some ⟨b, o, none⟩) T.length c] 24)).alloc (.cells #[.int .i64 p, .int .i64 m, .int .i64 e, .slice au M cu] 88)) := hWd
  have hx1 : (x : Int) < (T.length : Int) := by omega
  have hx2 : (0 : Int) ≤ (x : Int) := by omega
  have hx3 : (x : Int) ≤ 15 := by omega
  have g3' : (T.length : Int) ≤ 15 := by omega
  have kp0 : p = 0 := by unfold pos at hp; rw [hpp] at hp; simpa using hp
  subst kp0
  have HB0 := hide (unhide HB W (Below.refl _ _))
  have hx4 : IntKind.i64.wrap (Int.tmod (x : Int) 2) = 0 := by rw [Int.tmod_eq_emod_of_nonneg (by omega), show (x : Int) % 2 = 0 by omega]; rfl
  have hx5 : (x : Int) % 2 = 0 := by omega
  clear h h2 h3 k2 k2' hpp hm he hl hM hw g1 g2 g3 g4 g5 hx hxT hWd hbW s2 hs hp HB ho
  generalize T.length = N at *
  go_enter Tryz.func157, Tryz.ntmps157
  go_upto_region 2 with fail
  rw [← unhide HW]
  clear c0 c1 c2 c3 HW
  obtain ⟨⟨d0, d1, d2⟩, hbw⟩ := unhide HB0
  go_wp2
  go_ret
  exact ⟨_, rfl, ints_nil _ _, hbw⟩
set_option maxRecDepth 100000 in
set_option maxHeartbeats 4000000 in
theorem rres_at {T : List Nd} (hw : Wd T) (hs : Sm T) : ∀ (x : Nat), x < 2 * nlv T - 1 → ∀ {w : World} {v : Value}, Trd w v T →
    Calls Tryz.prog 157 #[.agg #[v], .int .i64 (x : Int)] w fun e w' => ∃ r, e = .returned r ∧ Ints w.heap.size w' r (rsl T x) ∧ Below w.heap.size w w' := by
  obtain ⟨g1, g2, g3, g4, g5⟩ := hw.facts
  refine node_ind g1 (fun x hx ho => ?_) (fun x hx ho i1 i2 => ?_)
  · intro w v h
    cases hp : pos (ndAt T x)
    · exact rres_leaf hw hs x hx ho hp h
    · exact rres_pos hw hs x hx hp h
  intro w v h
  cases hp : pos (ndAt T x)
  rotate_left
  · exact rres_pos hw hs x hx hp h
  rw [rsl_par g1 hx hp ho]
  have hxT : x < T.length := by omega
  obtain ⟨a1, a2, a3, a4, a5, a6, a7, a8, _⟩ := (span_of g1 hx).2.1 ho
  have hl1 := rsl_72 hw hs (show lN x < T.length by omega)
  have hl2 := rsl_72 hw hs (show rN x < T.length by omega)
  have HC : Hid (∀ W, Below w.heap.size w W → Trd W v T) := fun W hW => h.bw hW
  obtain ⟨a, c, rfl⟩ := h.slice
  obtain ⟨-, h2⟩ := h.at
  obtain ⟨b, o, rfl, h3⟩ := h2 (by omega)
  obtain ⟨u, k1, k2⟩ := h3 _ (bwA w (.cells #[.slice (some ⟨b, o, none⟩) T.length c] 24)) x hxT
  obtain ⟨au, cu, rfl⟩ := nums_slice k2
  obtain ⟨c0, c1, c2, c3⟩ := k1
  obtain ⟨s1, s2⟩ := hs x hxT
  obtain ⟨p, hpp⟩ : ∃ p, (ndAt T x).pub = p := ⟨_, rfl⟩
  obtain ⟨m, hm⟩ : ∃ p, (ndAt T x).mem = p := ⟨_, rfl⟩
  obtain ⟨e, he⟩ : ∃ p, (ndAt T x).ep = p := ⟨_, rfl⟩
  obtain ⟨l, hl⟩ : ∃ p, (ndAt T x).un = p := ⟨_, rfl⟩
  rw [hpp] at c0
  rw [hm] at c1
  rw [he] at c2
  rw [hl] at c3 s1 s2 k2
  obtain ⟨M, hM⟩ : ∃ M, M = l.length := ⟨_, rfl⟩
  obtain ⟨W, hWd⟩ : ∃ W, W = (w.alloc (.cells #[.slice (some ⟨b, o, none⟩) T.length c] 24)).alloc (.cells #[.int .i64 p, .int .i64 m, .int .i64 e, .slice au M cu] 88) := ⟨_, rfl⟩
  rw [← hM] at c3 s1
  have hbW : Below w.heap.size w W := by rw [hWd]; exact (bwA _ _).alloc (by simp) _
  have HB : Hid (∀ W', Below W.heap.size W W' → (W'.cell? ⟨w.heap.size, 0, none⟩ = some (.slice (some ⟨b, o, none⟩) T.length c) ∧ W'.cell? ⟨w.heap.size + 1, 0, none⟩ = some (.int .i64 p) ∧ W'.cell? ⟨w.heap.size + 1, 3, none⟩ = some (.slice au M cu)) ∧ Below w.heap.size w W') := fun W' hb => by
    have e0 : W'.heap[w.heap.size]? = some (.cells #[.slice (some ⟨b, o, none⟩) T.length c] 24 (0, 0)) := by
      rw [hb.block _ (by rw [hWd]; simp; omega), hWd, Below.heap_alloc _ _ _ (by simp)]; exact heap_alloc_new _ _
    have e1 : W'.heap[w.heap.size + 1]? = some (.cells #[.int .i64 p, .int .i64 m, .int .i64 e, .slice au M cu] 88 (0, 0)) := by
      rw [hb.block _ (by rw [hWd]; simp), hWd]
      have := heap_alloc_new (w.alloc (.cells #[.slice (some ⟨b, o, none⟩) T.length c] 24)) (.cells #[.int .i64 p, .int .i64 m, .int .i64 e, .slice au M cu] 88)
      simpa using this
    exact ⟨⟨by simp [World.cell?, e0], by simp [World.cell?, e1], by simp [World.cell?, e1]⟩, bw_tr hbW hb⟩
  have k2' := k2.bw (w' := W) (by rw [hWd]; exact bwA _ _)
  have HW : Hid (W = (w.alloc (.cells #[.slice (some ⟨b, o, none⟩) T.length c] 24)).alloc (.cells #[.int .i64 p, .int .i64 m, .int .i64 e, .slice au M cu] 88)) := hWd
  have hx1 : (x : Int) < (T.length : Int) := by omega
  have hx2 : (0 : Int) ≤ (x : Int) := by omega
  have hx3 : (x : Int) ≤ 15 := by omega
  have g3' : (T.length : Int) ≤ 15 := by omega
  have kp0 : p = 0 := by unfold pos at hp; rw [hpp] at hp; simpa using hp
  subst kp0
  have KL : Hid (∀ W, _) := fun W => rleft_any (x : Int) W (by omega)
  have KR : Hid (∀ W, _) := fun W => rright_any (x : Int) W (by omega)
  rw [a1, a3] at KL
  rw [a2, a4] at KR
  have hx4 : IntKind.i64.wrap (Int.tmod (x : Int) 2) = 1 := by rw [Int.tmod_eq_emod_of_nonneg (by omega), show (x : Int) % 2 = 1 by omega]; rfl
  have hx5 : (x : Int) % 2 = 1 := by omega
  have I1 : Hid (∀ W', Below W.heap.size W W' → Calls Tryz.prog 157 #[.agg #[.slice (some ⟨b, o, none⟩) T.length c], .int .i64 (lN x : Nat)] W' fun e w' => ∃ r, e = .returned r ∧ Ints W'.heap.size w' r (rsl T (lN x)) ∧ Below W'.heap.size W' w') := fun W' hW => i1 (unhide HC _ (unhide HB _ hW).2)
  have I2 : Hid (∀ W', Below W.heap.size W W' → Calls Tryz.prog 157 #[.agg #[.slice (some ⟨b, o, none⟩) T.length c], .int .i64 (rN x : Nat)] W' fun e w' => ∃ r, e = .returned r ∧ Ints W'.heap.size w' r (rsl T (rN x)) ∧ Below W'.heap.size W' w') := fun W' hW => i2 (unhide HC _ (unhide HB _ hW).2)
  have HS : Hid (w.heap.size ≤ W.heap.size ∧ Below w.heap.size w W) := ⟨hbW.size, hbW⟩
  have HL12 : (rsl T (lN x)).length + (rsl T (rN x)).length ≤ 100000 := by omega
  generalize rsl T (lN x) = L1 at *
  generalize rsl T (rN x) = L2 at *
  generalize ((lN x : Nat) : Int) = y1 at *
  generalize ((rN x : Nat) : Int) = y2 at *
  clear i1 i2 a1 a2 a3 a4 a5 a6 a7 a8 HC h h2 h3 k2 k2' hpp hm he hl hM hw g1 g2 g3 g4 g5 hx hxT hWd hbW s2 hs hp ho hl1 hl2
  generalize T.length = N at *
  have b0 : Below W.heap.size W W := Below.refl _ _
  have bd : Below W.heap.size W W.drew := b0.drew
  go_enter Tryz.func157, Tryz.ntmps157
  go_upto_region 2 with fail
  rw [← unhide HW]
  clear c0 c1 c2 c3 HW
  obtain ⟨⟨d0, d1, d2⟩, -⟩ := unhide HB _ b0
  go_wp2_with fail
  refine (unhide KL _).mono ?_
  rintro e w1 ⟨rfl, rfl⟩
  go_wp2_with fail
  refine (unhide KR _).mono ?_
  rintro e w1 ⟨rfl, rfl⟩
  clear KL KR d1 d2 hx4 hx5
  have J1 := unhide I1 _ bd
  have S0 := (unhide HB _ b0).1.1
  have S0d := (unhide HB _ bd).1.1
  go_wp2_with fail
  first
  | go_region_held3 (fun w' : World => w'.cell? ⟨w.heap.size, 0, none⟩ = some (.slice (some ⟨b, o, none⟩) N c)) (first | with_reducible exact S0 | with_reducible exact S0d | with_reducible exact S1 | with_reducible exact S2 | with_reducible exact S3) (first
      | (go_at_call_of 157 (Value.int IntKind.i64 y2); refine J2.mono ?_; rintro e z2 ⟨r2, rfl, R2', b3⟩; have b4 := bw_tr b2 b3; have S2 := (unhide HB _ b4).1.1; have R1 := R1'.bw b3; have R2 := R2'.nums; have hl12 := HL12; have hsz2 := b4.size)
      | (go_at_call_of 157 (Value.int IntKind.i64 y1); refine J1.mono ?_; rintro e z1 ⟨r1, rfl, R1'', b1'⟩; have b2 := bw_tr bd b1'; have R1' := R1''.mono bd.size; have S1 := (unhide HB _ b2).1.1; have J2 := unhide I2 _ b2)
      | (refine step_join rfl (.tmp 54) (.tmp 57) rfl w1.heap.size r1 r2 L1 L2 (by simp [Act.eval]) R1 (by simp [Act.eval]) R2 hl12 hsz2 ?_; intro r3 z3 R3 hg3 _; have b5 := (b4.grown hg3 (by exact b4.size) (fun k hk => (World.ownsRow.lt R1 k hk).1)); have S3 := (unhide HB _ b5).1.1)
      | fail)
  | fail
  all_goals
    go_wp2_with fail
    go_ret
    exact ⟨_, rfl, R3.mono (unhide HS).1, bw_tr (unhide HS).2 b5⟩
end Go.Proofs.YtaanacnloljlmaaGreatDoor

/- The contracts of the document's other and asked. -/
namespace Go.Proofs.YtaanacnloljlmaaGreatDoor
open Go.RowKit Go.Maps

theorem fin_oth : (sizes.all fun n => (List.range n).all fun i => ((upN n i).zip (sdN n i)).all fun p => decide (p.1 < 15) && decide (p.2 < 2 * n - 1) && decide ((lfV ((p.1 : Nat) : Int)) ≤ 15) && decide (0 ≤ (lfV ((p.1 : Nat) : Int))) && decide ((if wi ((2 * i : Nat) : Int) (lfV ((p.1 : Nat) : Int)) = true then rtV ((p.1 : Nat) : Int) else lfV ((p.1 : Nat) : Int)) = ((p.2 : Nat) : Int))) = true := by decide +kernel
theorem oth_of {n i : Nat} (hn : n ∈ sizes) (hi : i < n) {x s : Nat} (h : (x, s) ∈ (upN n i).zip (sdN n i)) : x < 15 ∧ s < 2 * n - 1 ∧ lfV (x : Int) ≤ 15 ∧ 0 ≤ lfV (x : Int) ∧ (if wi ((2 * i : Nat) : Int) (lfV (x : Int)) = true then rtV (x : Int) else lfV (x : Int)) = (s : Int) := by
  have h1 := List.all_eq_true.1 fin_oth n hn
  have h1 := List.all_eq_true.1 h1 i (List.mem_range.2 hi)
  have h1 := List.all_eq_true.1 h1 (x, s) h
  simp only [Bool.and_eq_true, decide_eq_true_eq] at h1
  exact ⟨h1.1.1.1.1, h1.1.1.1.2, h1.1.1.2, h1.1.2, h1.2⟩
set_option maxHeartbeats 1000000 in
theorem rother_at {n i : Nat} (hn : n ∈ sizes) (hi : i < n) {x s : Nat} (h : (x, s) ∈ (upN n i).zip (sdN n i)) (w : World) :
    Calls Tryz.prog 160 #[.int .i64 (x : Int), .int .i64 (i : Int)] w fun e w' => e = .returned (.int .i64 (s : Int)) ∧ w' = w := by
  obtain ⟨h1, h2, h3, h4, h5⟩ := oth_of hn hi h
  have hi8 : i < 8 := by simp [sizes] at hn; omega
  obtain ⟨y, hy⟩ : ∃ y, y = 2 * i := ⟨_, rfl⟩
  rw [← hy] at h5
  have KL := hide (rleft_any (x : Int) w (by omega))
  have KR := hide (rright_any (x : Int) w (by omega))
  have KW := hide (rwithin_any (y : Int) (lfV (x : Int)) w (by omega) (by omega))
  have q1 : 2 * (i : Int) = (y : Int) := by omega
  have q2 : (i : Int) ≤ 8 := by omega
  have q3 : (0 : Int) ≤ (i : Int) := by omega
  generalize wi (y : Int) (lfV (x : Int)) = p at *
  generalize lfV (x : Int) = l at *
  generalize rtV (x : Int) = r at *
  generalize lfB (x : Int) = lb at *
  generalize rtB (x : Int) = rb at *
  have H5 := hide h5
  clear h h1 h2 h3 h4 h5 hn hi hi8 hy
  go_enter Tryz.func160, Tryz.ntmps160
  go_wp2_with fail
  refine (unhide KL).mono ?_
  rintro e w1 ⟨rfl, rfl⟩
  go_wp2_with fail
  refine (unhide KR).mono ?_
  rintro e w1 ⟨rfl, rfl⟩
  go_wp2_with fail
  refine (unhide KW).mono ?_
  rintro e w1 ⟨rfl, rfl⟩
  clear KL KR KW
  cases p
  · obtain rfl : l = (s : Int) := by have := unhide H5; simpa using this
    go_wp2
    go_ret
    exact ⟨rfl, rfl⟩
  · obtain rfl : r = (s : Int) := by have := unhide H5; simpa using this
    go_wp2
    go_ret
    exact ⟨rfl, rfl⟩
set_option maxRecDepth 100000 in
set_option maxHeartbeats 2000000 in
theorem rasked_any {w : World} {v : Value} {T : List Nd} (h : Trd w v T) (i : Int) :
    Calls Tryz.prog 158 #[.agg #[v], .int .i64 i] w fun e w' => e = .returned (.int .i64 (askE T i)) ∧ Below w.heap.size w w' := by
  obtain ⟨a, c, rfl⟩ := h.slice
  obtain ⟨W0, hW0⟩ : ∃ W0, W0 = bxw w (.slice a T.length c) := ⟨_, rfl⟩
  have hb0 : Below w.heap.size w W0 := by rw [hW0]; exact bwA _ _
  have HB : Hid (∀ W, Below W0.heap.size W0 W → W.cell? ⟨w.heap.size, 0, none⟩ = some (.slice a T.length c) ∧ Below w.heap.size w W) := fun W hW => by subst hW0; exact ⟨bx_cell hW, bx_bel hW⟩
  have HW : Hid (W0 = w.alloc (.cells #[.slice a T.length c] 24)) := hW0
  have KC := hide (rcheck_any (h.bw hb0))
  obtain ⟨E, hE⟩ : ∃ E, E = askE T i := ⟨_, rfl⟩
  rw [← hE]
  unfold askE at hE
  cases hm : mayB T
  · obtain rfl : E = 1 := by rw [hE, if_pos hm]
    rw [hm] at KC
    clear hE hm h hW0
    generalize T.length = N at *
    go_enter Tryz.func158, Tryz.ntmps158
    go_wp2_with fail
    rw [← unhide HW]
    refine (unhide KC).mono ?_
    rintro e w1 ⟨rfl, b1⟩
    obtain ⟨c0, hbw⟩ := unhide HB _ b1
    clear KC HW HB
    go_wp2
    go_ret
    exact ⟨rfl, hbw⟩
  rw [hm] at KC hE
  have h15 := (mayB_15 hm).1
  have hrl : rlv T.length = nlv T := by
    rcases mayB_wd hm with e | hw
    · subst e; rfl
    · obtain ⟨g1, g2, -⟩ := hw.facts
      have h3 := rlv_of g1
      rw [← g2] at h3
      exact h3
  have KL : Hid (∀ W, Calls Tryz.prog 41 #[.agg #[.slice a T.length c]] W fun e w' => e = .returned (.int .i64 (nlv T : Nat)) ∧ Below W.heap.size W w') := fun W => by have := rleaves_any a T.length c W h.len; rw [hrl] at this; exact this
  by_cases g0 : i < 0
  · obtain rfl : E = 7 := by
      rw [hE]; unfold hasL; rw [decide_eq_false (show ¬ 0 ≤ i by omega)]; rfl
    have g0' : decide (i < 0) = true := decide_eq_true g0
    clear hE hm h hW0 KL hrl
    generalize T.length = N at *
    go_enter Tryz.func158, Tryz.ntmps158
    go_wp2_with fail
    rw [← unhide HW]
    refine (unhide KC).mono ?_
    rintro e w1 ⟨rfl, b1⟩
    obtain ⟨c0, hbw⟩ := unhide HB _ b1
    clear KC HW HB
    go_wp2
    go_ret
    exact ⟨rfl, hbw⟩
  obtain ⟨n, rfl⟩ : ∃ n : Nat, i = n := ⟨i.toNat, by omega⟩
  by_cases g1 : n < nlv T
  · have hnl : nlv T = (T.length + 1) / 2 := rfl
    have hx2 : 2 * n < T.length := by
      rcases mayB_wd hm with e | hw
      · subst e; simp [nlv] at g1
      · obtain ⟨-, g2, -⟩ := hw.facts; omega
    have hE2 : E = if pos (ndAt T (2 * n)) = true then 0 else 7 := by
      rw [hE, hasL_lt (by rw [← hnl]; exact g1)]; cases pos (ndAt T (2 * n)) <;> rfl
    obtain ⟨x, hx⟩ : ∃ x, x = 2 * n := ⟨_, rfl⟩
    rw [← hx] at hE2 hx2
    obtain ⟨-, h2⟩ := h.at
    obtain ⟨b, o, rfl, h3⟩ := h2 (by omega)
    have HP : Hid (∀ W, Below w.heap.size w W → W.cell? ⟨b, o + x * 4, none⟩ = some (.int .i64 (ndAt T x).pub)) := fun W hW => by
      obtain ⟨u, k, _⟩ := h3 W hW x hx2; exact k.c0
    have hpp : pos (ndAt T x) = ((ndAt T x).pub != 0) := rfl
    rw [hpp] at hE2
    generalize (ndAt T x).pub = p at *
    have HE2 := hide hE2
    have q1 : 2 * (n : Int) = (x : Int) := by omega
    have q2 : (x : Int) < (T.length : Int) := by omega
    have q3 : (0 : Int) ≤ (x : Int) := by omega
    have q4 : (n : Int) < ((nlv T : Nat) : Int) := by omega
    have q5 : (0 : Int) ≤ (n : Int) := by omega
    have q6 : ((nlv T : Nat) : Int) ≤ 8 := by have := (mayB_15 hm).2; omega
    have q7 : (T.length : Int) ≤ 15 := by omega
    have q8 : decide (((nlv T : Nat) : Int) ≤ (n : Int)) = false := decide_eq_false (by omega)
    clear hE hE2 hm h hW0 hrl hnl h2 h3 hpp hx h15 g0
    generalize nlv T = m at *
    generalize T.length = N at *
    go_enter Tryz.func158, Tryz.ntmps158
    go_wp2_with fail
    rw [← unhide HW]
    refine (unhide KC).mono ?_
    rintro e w1 ⟨rfl, b1⟩
    obtain ⟨c0, hbw⟩ := unhide HB _ b1
    clear KC HW
    go_wp2_with fail
    refine (unhide KL _).mono ?_
    rintro e w2 ⟨rfl, b2⟩
    obtain ⟨c4, hbw2⟩ := unhide HB _ (bw_tr b1 b2)
    have c5 := unhide HP _ hbw2
    clear c0 HB KL HP b1 b2 hbw
    by_cases kp : p = 0
    · subst kp
      obtain rfl : E = 7 := by have := unhide HE2; simpa using this
      go_wp2
      go_ret
      exact ⟨rfl, hbw2⟩
    · obtain rfl : E = 0 := by have := unhide HE2; simpa [kp] using this
      have kp1 : (p == 0) = false := by simpa using kp
      have kp2 : decide (p = 0) = false := by simpa using kp
      clear HE2 kp
      go_wp2
      go_ret
      exact ⟨rfl, hbw2⟩
  · obtain rfl : E = 7 := by
      rw [hE, hasL_ge (show ¬ n < (T.length + 1) / 2 from g1)]; rfl
    have q4 : ((nlv T : Nat) : Int) ≤ (n : Int) := by omega
    have q5 : (0 : Int) ≤ (n : Int) := by omega
    have q8 : decide (((nlv T : Nat) : Int) ≤ (n : Int)) = true := decide_eq_true q4
    clear hE hm h hW0 hrl h15 g0 g1
    generalize nlv T = m at *
    generalize T.length = N at *
    go_enter Tryz.func158, Tryz.ntmps158
    go_wp2_with fail
    rw [← unhide HW]
    refine (unhide KC).mono ?_
    rintro e w1 ⟨rfl, b1⟩
    obtain ⟨c0, hbw⟩ := unhide HB _ b1
    clear KC HW
    go_wp2_with fail
    refine (unhide KL _).mono ?_
    rintro e w2 ⟨rfl, b2⟩
    obtain ⟨c4, hbw2⟩ := unhide HB _ (bw_tr b1 b2)
    clear c0 HB KL b1 b2 hbw
    go_wp2
    go_ret
    exact ⟨rfl, hbw2⟩
end Go.Proofs.YtaanacnloljlmaaGreatDoor

/- The contract of the document's Path. -/
namespace Go.Proofs.YtaanacnloljlmaaGreatDoor
open Go.RowKit Go.Maps

set_option maxRecDepth 100000 in
set_option maxHeartbeats 4000000 in
theorem rpath_ok {w : World} {v : Value} {T : List Nd} (h : Trd w v T) {i : Nat} (hm : mayB T = true) (hE : askE T (i : Int) = 0) (hi : i < nlv T) :
    Calls Tryz.prog 26 #[.agg #[v], .int .i64 (i : Int)] w fun e w' => ∃ r, e = .returned (.tuple #[r, .int .i64 0]) ∧ Ints w.heap.size w' r (pth T i) ∧ Below w.heap.size w w' := by
  have ok := mayB_okn hm (nlv_pos (by omega))
  obtain ⟨g1, g2, g3, g4, g5⟩ := ok.wd.facts
  obtain ⟨d1, d2, d3, d4, d5, d6⟩ := up_of g1 hi
  have d7 := up_len g1 hi
  obtain ⟨i0, hi0, hz0, hz1, hz2⟩ := info_parts Tryz.infoInt
  obtain ⟨a, c, rfl⟩ := h.slice
  obtain ⟨w0, hw0⟩ : ∃ w0, w0 = bxw w (.slice a T.length c) := ⟨_, rfl⟩
  have b0 : Below w.heap.size w w0 := by rw [hw0]; exact bwA _ _
  have HB : Hid (∀ W, Below w0.heap.size w0 W → W.cell? ⟨w.heap.size, 0, none⟩ = some (.slice a T.length c) ∧ Below w.heap.size w W) := fun W hW => by subst hw0; exact ⟨bx_cell hW, bx_bel hW⟩
  have KA := hide (rasked_any (h.bw b0) (i : Int))
  rw [hE] at KA
  have hrl : rlv T.length = nlv T := by have := rlv_of g1; rw [← g2] at this; exact this
  have KL : Hid (∀ W, Calls Tryz.prog 41 #[.agg #[.slice a T.length c]] W fun e w' => e = .returned (.int .i64 (nlv T : Nat)) ∧ Below W.heap.size W w') := fun W => by have := rleaves_any a T.length c W h.len; rw [hrl] at this; exact this
  obtain ⟨x2, hx2⟩ : ∃ x2, x2 = 2 * i := ⟨_, rfl⟩
  have KD : Hid (∀ W, Calls Tryz.prog 159 #[.int .i64 (x2 : Int), .int .i64 (nlv T : Nat)] W fun e w' => ∃ v, e = .returned v ∧ Ints W.heap.size w' v ((upN (nlv T) i).map (fun (x : Nat) => (x : Int))) ∧ Below W.heap.size W w') := fun W => by
    have := rdirect_any ((x2 : Nat) : Int) ((nlv T : Nat) : Int) W; rw [hx2, d1] at this; rw [hx2]; exact this
  have KO : Hid (∀ (x s : Nat), (x, s) ∈ (upN (nlv T) i).zip (sdN (nlv T) i) → ∀ W, Calls Tryz.prog 160 #[.int .i64 (x : Int), .int .i64 (i : Int)] W fun e w' => e = .returned (.int .i64 (s : Int)) ∧ w' = W) := fun x s hxs W => rother_at g1 hi hxs W
  have KR : Hid (∀ W (y : Nat), y ∈ sdN (nlv T) i → Below w.heap.size w W → Calls Tryz.prog 157 #[.agg #[.slice a T.length c], .int .i64 (y : Int)] W fun e w' => ∃ r, e = .returned r ∧ Ints W.heap.size w' r (rsl T y) ∧ Below W.heap.size W w') := fun W y hy hW => rres_at ok.wd ok.sm y (d6 y hy) (h.bw hW)
  have HP : Hid (pth T i = (prsL T ((upN (nlv T) i).zip (sdN (nlv T) i))).map fun p => (p.1 : Int)) := by unfold Hid pth; rw [prs_eq]
  have HL72 : Hid (∀ y ∈ sdN (nlv T) i, (rsl T y).length ≤ 72) := fun y hy => rsl_72 ok.wd ok.sm (by have := d6 y hy; omega)
  have q : 2 * (i : Int) = (x2 : Int) := by omega
  have hi8 : (i : Int) ≤ 8 := by omega
  have hi0' : (0 : Int) ≤ (i : Int) := by omega
  have HW : Hid (w0 = w.alloc (.cells #[.slice a T.length c] 24)) := hw0
  clear h hE hm ok hx2 hw0 hrl g1 g2 g3 g4 g5 d1 d2 d4 d5 d6 hi
  generalize nlv T = n at *
  generalize upN n i = U at *
  generalize sdN n i = D at *
  generalize T.length = N at *
  obtain ⟨M, hM⟩ : ∃ M, M = U.length := ⟨_, rfl⟩
  have hM3 : M ≤ 3 := by omega
  have HM : Hid (M = U.length ∧ M = D.length) := ⟨hM, by omega⟩
  clear hM d3 d7
  go_enter Tryz.func26, Tryz.ntmps26
  go_wp2_with fail
  rw [← unhide HW]
  refine (unhide KA).mono ?_
  rintro e w1 ⟨rfl, b1⟩
  obtain ⟨c1, hb1⟩ := unhide HB _ b1
  clear KA HW
  go_wp2_with fail
  refine (unhide KL _).mono ?_
  rintro e w2 ⟨rfl, b2⟩
  have b3 := bw_tr b1 b2
  clear KL c1
  go_wp2_with fail
  refine (unhide KD _).mono ?_
  rintro e w3 ⟨uv, rfl, huv, b4⟩
  have b5 := bw_tr b3 b4
  have HU := hide (huv.nums)
  obtain ⟨ua, uc, hue⟩ := own_slice huv
  rw [List.length_map, ← (unhide HM).1] at hue
  subst hue
  have s0 := b0.size
  have s5 := b5.size
  clear KD huv hb1
  go_wp2_with fail
  go_loopw [7, 9] (fun nv iv wr => ∃ (j : Nat), iv = .int .i64 (j : Int) ∧ j ≤ M ∧ Ints w3.heap.size wr nv ((prsL T ((U.zip D).take j)).map fun p => (p.1 : Int)) ∧ Below w3.heap.size w3 wr) (fun _ iv _ => (M - (intOf iv)).toNat)
  case atStart => exact ⟨0, rfl, by omega, ints_nil _ _, Below.refl _ _⟩
  case round =>
    obtain ⟨j, rfl, hjM, hown, hbel⟩ := hrel
    have b6 := bw_tr b5 hbel
    obtain ⟨c1, hbw⟩ := unhide HB _ b6
    by_cases hlt : j < M
    · obtain ⟨y, hy⟩ : ∃ y, U[j]? = some y := ⟨_, List.getElem?_eq_getElem (by have := (unhide HM).1; omega)⟩
      obtain ⟨z, hz⟩ : ∃ z, D[j]? = some z := ⟨_, List.getElem?_eq_getElem (by have := (unhide HM).2; omega)⟩
      obtain ⟨gu, ou, cu, hue, hcu⟩ := (unhide HU).open (by simp; have := (unhide HM).1; omega)
      rw [List.length_map, ← (unhide HM).1] at hue
      cases hue
      have HUc : Hid (∀ W, Below w3.heap.size w3 W → W.cell? ⟨w.heap.size, 0, none⟩ = some (.slice a N c) ∧ W.cell? ⟨gu, ou + j, none⟩ = some (.int .i64 (y : Int))) := fun W hW => by
        have k1 := hcu j (y : Int) (by simp [hy])
        exact ⟨(unhide HB _ (bw_tr b5 hW)).1, by rw [hW.cell (p := ⟨gu, ou + j, none⟩) (lt_of_cell (a := ⟨gu, ou + j, none⟩) k1)]; exact k1⟩
      have hzm : z ∈ D := List.mem_of_getElem? hz
      have e : (U.zip D)[j]? = some (y, z) := by rw [List.getElem?_zip_eq_some]; exact ⟨hy, hz⟩
      have KR2 := hide (unhide KR · z hzm)
      have KO2 := hide (unhide KO y z (List.mem_of_getElem? e))
      have hl72 := unhide HL72 z hzm
      have hsn : Hid ((prsL T ((U.zip D).take (j + 1))).map (fun p => (p.1 : Int)) = (prsL T ((U.zip D).take j)).map (fun p => (p.1 : Int)) ++ if rsl T z = [] then [] else [(y : Int)]) := by
        unfold Hid
        rw [List.take_add_one, e]
        show (prsL T (_ ++ [(y, z)])).map _ = _
        rw [prsL_snoc T _ (y, z), List.map_append]
        split <;> rfl
      have hpl : ((prsL T ((U.zip D).take j)).map fun p => (p.1 : Int)).length ≤ 3 := by rw [List.length_map]; exact Nat.le_trans (prsL_len T _) (by simp; omega)
      generalize (prsL T ((U.zip D).take j)).map (fun p => (p.1 : Int)) = P at *
      generalize rsl T z = L at *
      have q1 : (j : Int) < (M : Int) := by omega
      have q0 : (0 : Int) ≤ (j : Int) := by omega
      have hM3' : (M : Int) ≤ 3 := by omega
      clear hy hz hcu hzm KR KO HL72 e
      have bd : Below w3.heap.size w3 wr.drew := hbel.drew
      have J1 := unhide KR2 wr.drew hbw.drew
      have S00 := unhide HUc _ hbel
      have S0 := unhide HUc _ bd
      generalize ((z : Nat) : Int) = zi at *
      generalize ((y : Nat) : Int) = yi at *
      have HO := hide hown
      clear hown c1
      go_upto_region 9 with fail
      first
      | go_region_held3 (fun w' : World => w'.cell? ⟨w.heap.size, 0, none⟩ = some (.slice a N c) ∧ w'.cell? ⟨gu, ou + j, none⟩ = some (.int .i64 yi)) (first | with_reducible exact S00 | with_reducible exact S0 | with_reducible exact S1) (first
          | (go_at_call 157; refine J1.mono ?_; rintro e z1 ⟨r1, rfl, R1, b7⟩; have b8 := bw_tr bd b7; have S1 := unhide HUc _ b8; obtain ⟨ra, rc, re⟩ := own_slice R1; subst re)
          | (go_at_call 160; refine (unhide KO2 _).mono ?_; rintro e z0 ⟨rfl, rfl⟩)
          | fail)
      | fail
      all_goals
        have hP2 := (unhide HO).bw (bw_tr (Below.refl _ _).drew b7)
        obtain ⟨-, cu8⟩ := S1
        have hsz := b8.size
        clear S0 S00 J1 HUc KR2 KO2 HO
        by_cases hL : L = []
        · subst hL
          clear R1
          go_wp2_with fail
          go_roundw
          case rel => exact ⟨j + 1, by go_num, by omega, by rw [unhide hsn]; simpa using hP2, b8⟩
          case measure => simp [intOf]; omega
        · have hLp : (0 : Int) < (L.length : Int) := by have := List.length_pos_iff.2 hL; omega
          have hl72' : (L.length : Int) ≤ 72 := by omega
          rw [if_neg hL] at hsn
          clear hL R1
          generalize L.length = LL at *
          go_wp2_with (at_builtin; refine wpList_append_own _ rfl (.tmp 37) (.tmp 42) 31 rfl w3.heap.size 3 i0 (.int .i64 0) 1 8 Tryz.underlying31 hi0 hz0 hz1 hz2 rfl (by decide) _ P.length _ rfl (World.ownsRow.alloc hP2 _) ⟨z1.heap.size, 0, none⟩ 1 1 [_] rfl rfl (cell_one_new _ _ _) ?c2 ?c3 ?c4 ?c5 ?nx)
          case c2 => intro u hu; simp at hu; subst hu; rfl
          case c3 => unfold maxLen; omega
          case c4 => omega
          case c5 => simp; omega
          case nx =>
            intro v' w4 hown' hgrow _
            obtain ⟨R1, R2⟩ := ints_snoc yi b8 hP2 hown' hgrow
            clear hown' hgrow
            go_wp2_with fail
            go_roundw
            case rel => exact ⟨j + 1, by go_num, by omega, by rw [unhide hsn]; exact R1, R2⟩
            case measure => simp [intOf]; omega
    · have e : (U.zip D).take j = U.zip D := List.take_of_length_le (by have := unhide HM; simp; omega)
      rw [e, ← unhide HP] at hown
      have hF := hide (And.intro (hown.mono (show w.heap.size ≤ w3.heap.size by omega)) hbw)
      have hie : j = M := by omega
      subst hie
      clear hown e
      go_wp2_with fail
      go_ret2
      exact ⟨_, rfl, (unhide hF).1, (unhide hF).2⟩
set_option maxRecDepth 100000 in
set_option maxHeartbeats 1000000 in
theorem rpath_err {w : World} {v : Value} {T : List Nd} (h : Trd w v T) (i : Int) (hE : askE T i ≠ 0) :
    Calls Tryz.prog 26 #[.agg #[v], .int .i64 i] w fun e w' => e = .returned (.tuple #[.slice none 0 0, .int .i64 (askE T i)]) ∧ Below w.heap.size w w' := by
  obtain ⟨w0, hw0⟩ : ∃ w0, w0 = bxw w v := ⟨_, rfl⟩
  have b0 : Below w.heap.size w w0 := by rw [hw0]; exact bwA _ _
  have KA := hide (rasked_any (h.bw b0) i)
  have HW : Hid (w0 = w.alloc (.cells #[v] 24)) := hw0
  generalize askE T i = E at *
  have k1 : (E == 0) = false := by simpa using hE
  have k2 : decide (E = 0) = false := by simpa using hE
  have k3 : (E != 0) = true := by simpa using hE
  clear h hw0 hE
  go_enter Tryz.func26, Tryz.ntmps26
  go_wp2_with fail
  rw [← unhide HW]
  refine (unhide KA).mono ?_
  rintro e w1 ⟨rfl, b1⟩
  have b2 := bw_tr b0 b1
  clear KA HW b1
  go_wp2
  go_ret2
  exact ⟨rfl, b2⟩
theorem askE_zero {T : List Nd} {i : Int} (h : askE T i = 0) : mayB T = true ∧ ∃ n : Nat, i = n ∧ n < nlv T := by
  unfold askE at h
  cases hm : mayB T
  · rw [if_pos hm] at h; cases h
  · rw [if_neg (by simp [hm])] at h
    cases hh : hasL T i
    · rw [if_pos hh] at h; cases h
    · have h0 : 0 ≤ i := by
        apply Decidable.byContradiction; intro c; unfold hasL at hh; rw [decide_eq_false c] at hh; simp at hh
      obtain ⟨n, rfl⟩ : ∃ n : Nat, i = n := ⟨i.toNat, by omega⟩
      exact ⟨rfl, n, rfl, (hasL_pos hh).1⟩
theorem rpath_any {w : World} {v : Value} {T : List Nd} (h : Trd w v T) (i : Int) :
    Calls Tryz.prog 26 #[.agg #[v], .int .i64 i] w fun e w' => ∃ r, e = .returned (.tuple #[r, .int .i64 (askE T i)]) ∧ Ints w.heap.size w' r (if askE T i = 0 then pth T i.toNat else []) ∧ Below w.heap.size w w' := by
  by_cases hE : askE T i = 0
  · obtain ⟨hm, n, rfl, hn⟩ := askE_zero hE
    refine (rpath_ok h hm hE hn).mono ?_
    rintro e w' ⟨r, h1, h2, h3⟩
    rw [if_pos hE]
    exact ⟨r, by rw [h1, hE], h2, h3⟩
  · refine (rpath_err h i hE).mono ?_
    rintro e w' ⟨h1, h2⟩
    rw [if_neg hE]
    exact ⟨_, h1, ints_nil _ _, h2⟩
end Go.Proofs.YtaanacnloljlmaaGreatDoor

/- The contract of the document's Resolution. -/
namespace Go.Proofs.YtaanacnloljlmaaGreatDoor
open Go.RowKit Go.Maps

set_option maxRecDepth 100000 in
set_option maxHeartbeats 1000000 in
theorem rresX_any {w : World} {v : Value} {T : List Nd} (h : Trd w v T) (x : Int) :
    Calls Tryz.prog 25 #[.agg #[v], .int .i64 x] w fun e w' => ∃ r, e = .returned (.tuple #[r, .int .i64 (resE T x)]) ∧ Ints w.heap.size w' r (if resE T x = 0 then rsl T x.toNat else []) ∧ Below w.heap.size w w' := by
  have K := rcheck_any (h.bw (bwA w (.cells #[v] 24)))
  have KR : Hid (∀ W, mayB T = true → 0 ≤ x → x < (T.length : Int) → Below w.heap.size w W → Calls Tryz.prog 157 #[.agg #[v], .int .i64 x] W fun e w' => ∃ r, e = .returned r ∧ Ints W.heap.size w' r (rsl T x.toNat) ∧ Below W.heap.size W w') := fun W q h1 h2 hW => by
    have ok := mayB_okn q (by omega)
    obtain ⟨g1, g2, g3, g4, g5⟩ := ok.wd.facts
    obtain ⟨n, rfl⟩ : ∃ n : Nat, x = n := ⟨x.toNat, by omega⟩
    exact rres_at ok.wd ok.sm n (by omega) (h.bw hW)
  obtain ⟨a, c, rfl⟩ := h.slice
  have hl : (T.length : Int) ≤ 140737488355328 := by have := h.len; omega
  obtain ⟨E, hE⟩ : ∃ E, E = resE T x := ⟨_, rfl⟩
  rw [← hE]
  unfold resE at hE
  have HE := hide hE
  clear h hE
  generalize mayB T = p at *
  generalize T.length = N at *
  generalize rsl T x.toNat = L at *
  go_enter Tryz.func25, Tryz.ntmps25
  go_wp2_with fail
  refine K.mono ?_
  rintro e w1 ⟨rfl, b1⟩
  have c1 := bx_cell b1
  have b2 := bx_bel b1
  cases p
  · obtain rfl : E = 1 := by rw [unhide HE]; simp
    clear KR HE
    go_wp2
    go_ret2
    exact ⟨_, rfl, ints_nil _ _, b2⟩
  · by_cases g1 : x < 0
    · obtain rfl : E = 7 := by rw [unhide HE]; simp [g1]
      clear KR HE
      go_wp2
      go_ret2
      exact ⟨_, rfl, ints_nil _ _, b2⟩
    · have g1' : decide (x < 0) = false := decide_eq_false g1
      by_cases g2 : (N : Int) ≤ x
      · obtain rfl : E = 7 := by rw [unhide HE]; simp [g2]
        clear KR HE
        go_wp2
        go_ret2
        exact ⟨_, rfl, ints_nil _ _, b2⟩
      · have g2' : decide ((N : Int) ≤ x) = false := decide_eq_false g2
        obtain rfl : E = 0 := by rw [unhide HE]; simp [g1, g2]
        have KR2 := unhide KR w1 rfl (by omega) (by omega) b2
        have hsz := b2.size
        clear KR HE
        go_wp2_with fail
        refine KR2.mono ?_
        rintro e w3 ⟨r, rfl, hr, b3⟩
        go_wp2
        go_ret2
        exact ⟨_, rfl, by simpa using hr.mono hsz, bw_tr b2 b3⟩
end Go.Proofs.YtaanacnloljlmaaGreatDoor

/- The contract of the program's SetPath, refused; whatever comes of it. -/
namespace Go.Proofs.YtaanacnloljlmaaGreatDoor
open Go.RowKit Go.Maps

set_option maxRecDepth 100000 in
set_option maxHeartbeats 4000000 in
theorem set_err {w : World} {v pv : Value} {T : List Nd} {ps : List Int} (h : Trd w v T) (hpv : Nums w pv ps) (hps : ps.length ≤ 1048576) (hT : Tab w) (li ee pp : Int) (hE : setE T li ee pp ps ≠ 0) :
    Calls Tryz.prog 32 #[.agg #[v], .int .i64 li, .int .i64 ee, .int .i64 pp, pv] w fun e w' => e = .returned (.tuple #[.agg #[.slice none 0 0], .int .i64 (setE T li ee pp ps)]) ∧ Below w.heap.size w w' := by
  obtain ⟨W0, hW0⟩ : ∃ W0, W0 = (bxw w v).alloc (.cells #[.slice none 0 0] 24) := ⟨_, rfl⟩
  have hb0 : Below w.heap.size w W0 := by rw [hW0]; exact (bwA _ _).alloc (by simp) _
  have hs0 : W0.heap.size = w.heap.size + 2 := by rw [hW0]; simp
  have HB : Hid (∀ W, Below W0.heap.size W0 W → W.cell? ⟨w.heap.size, 0, none⟩ = some v ∧ (W.cell? ⟨w.heap.size + 1, 0, none⟩ = some (.slice none 0 0) ∧ W.frozen? ⟨w.heap.size + 1, 0, none⟩ = false ∧ (W.setCell ⟨w.heap.size + 1, 0, none⟩ (.slice none 0 0)).cell? ⟨w.heap.size + 1, 0, none⟩ = some (.slice none 0 0)) ∧ Below w.heap.size w W) := fun W hW => by
    have e0 : W.heap[w.heap.size]? = some (.cells #[v] 24 (0, 0)) := by
      rw [hW.block _ (by omega), hW0, Below.heap_alloc _ _ _ (by simp)]; exact heap_alloc_new _ _
    have e2 : W.heap[w.heap.size + 1]? = some (.cells #[.slice none 0 0] 24 (0, 0)) := by
      rw [hW.block _ (by omega), hW0]
      have := heap_alloc_new (bxw w v) (.cells #[.slice none 0 0] 24)
      simpa using this
    exact ⟨cell_of_blk e0 rfl, ⟨cell_of_blk e2 rfl, by simp [World.frozen?, e2], cell_set_same (cell_of_blk e2 rfl) _⟩, bw_tr hb0 hW⟩
  have KM : Hid (∀ W, Below w.heap.size w W → Calls Tryz.prog 37 #[.agg #[v]] W fun e w' => e = .returned (.bool (mayB T)) ∧ Below W.heap.size W w') := fun W hW => mayBe_any (h.bw hW) (hT.bw hW)
  have KH : Hid (mayB T = true → ∀ W, Below w.heap.size w W → Calls Tryz.prog 152 #[.agg #[v], .int .i64 li] W fun e w' => e = .returned (.bool (hasL T li)) ∧ Below W.heap.size W w') := fun q W hW => hasLeaf_any (h.bw hW) (mayB_15 q).1 li
  have KP : Hid (mayB T = true → hasL T li = true → ∀ W, Below w.heap.size w W → Calls Tryz.prog 153 #[.agg #[v], .int .i64 li] W fun e w' => ∃ nv ov us, e = .returned (.tuple #[nv, ov]) ∧ PI W.heap.size w' nv ov (prs T li.toNat) us ∧ Below W.heap.size W w') := fun q q2 W hW => by
    have h0 : 0 ≤ li := by
      apply Decidable.byContradiction; intro c; unfold hasL at q2; rw [decide_eq_false c] at q2; simp at q2
    obtain ⟨n, rfl⟩ : ∃ n : Nat, li = n := ⟨li.toNat, by omega⟩
    obtain ⟨h1, h2⟩ := hasL_pos q2
    have ok := mayB_okn q (nlv_pos (by omega))
    exact path_any (h.bw hW) ok.wd ok.sm (hT.bw hW) h1
  have KCF : Hid (ps.length ≤ 3 → ∀ W, Below w.heap.size w W → Calls Tryz.prog 165 #[pv, .func (.func 166) #[] #[]] W fun e w' => e = .returned (.bool (ps.any fun q => decide (q < 1))) ∧ ∃ q, w' = W.drewN q) := fun q3 W hW => contains_lt (hpv.bw hW) (by omega)
  have HW : Hid (W0 = (w.alloc (.cells #[v] 24)).alloc (.cells #[.slice none 0 0] 24)) := hW0
  obtain ⟨pa, pc, rfl⟩ := nums_slice hpv
  obtain ⟨E, hEE⟩ : ∃ E, E = setE T li ee pp ps := ⟨_, rfl⟩
  rw [← hEE] at hE ⊢
  unfold setE at hEE
  obtain ⟨L, hL⟩ : ∃ L, L = (pth T li.toNat).length := ⟨_, rfl⟩
  rw [← hL] at hEE
  have HPL : Hid (L = (prs T li.toNat).length) := by unfold Hid; rw [hL]; unfold pth; rw [List.length_map]
  have HE := hide hEE
  have HE0 := hide hE
  have HBS : Hid (∀ W, Below W0.heap.size W0 W → Below w.heap.size w (W.setCell ⟨w.heap.size + 1, 0, none⟩ (.slice none 0 0))) := fun W hW => (unhide HB _ hW).2.2.setCell (by simp) _
  have hL3 : L ≤ 3 ∨ ¬ (mayB T = true ∧ hasL T li = true) := by
    by_cases c : mayB T = true ∧ hasL T li = true
    · left
      obtain ⟨q, q2⟩ := c
      have h0 : 0 ≤ li := by
        apply Decidable.byContradiction; intro c; unfold hasL at q2; rw [decide_eq_false c] at q2; simp at q2
      obtain ⟨n, rfl⟩ : ∃ n : Nat, li = n := ⟨li.toNat, by omega⟩
      obtain ⟨h1, h2⟩ := hasL_pos q2
      have ok := mayB_okn q (nlv_pos (by omega))
      obtain ⟨g1, -⟩ := ok.wd.facts
      have h3 := up_len g1 h1
      have h4 := prs_len T n
      have h5 := unhide HPL
      rw [Int.toNat_natCast] at h5
      omega
    · right; exact c
  have hpl : ((ps.length : Nat) : Int) ≤ 1048576 := by omega
  clear h hT hEE hE hW0 hs0 hpv hL hps
  generalize mayB T = p at *
  generalize hasL T li = q at *
  generalize (ps.any fun q => decide (q < 1)) = an at *
  generalize ps.length = PL at *
  cases p
  · obtain rfl : E = 1 := by rw [unhide HE]; simp
    clear KH KP KCF HE HPL hL3
    go_enter Tryz.func32, Tryz.ntmps32
    go_wp2_with fail
    rw [← unhide HW]
    refine (unhide KM _ hb0).mono ?_
    rintro e W1 ⟨rfl, b1⟩
    clear KM HW
    obtain ⟨-, ⟨c4, c5, c6⟩, -⟩ := unhide HB _ b1
    have c7 := unhide HBS _ b1
    clear HB HBS
    go_wp2
    generalize W1.setCell ⟨w.heap.size + 1, 0, none⟩ (.slice none 0 0) = WZ at *
    exact bodyPost_ret (v := .tuple #[.agg #[.slice none 0 0], .int .i64 1]) (by simp [results, Tryz.results32, go_sem, c6]) rfl ⟨rfl, c7⟩
  by_cases n1 : ee < 0
  · obtain rfl : E = 1 := by rw [unhide HE]; simp [n1]
    have n1' : decide (ee < 0) = true := decide_eq_true n1
    clear KH KP KCF HE HPL hL3
    go_enter Tryz.func32, Tryz.ntmps32
    go_wp2_with fail
    rw [← unhide HW]
    refine (unhide KM _ hb0).mono ?_
    rintro e W1 ⟨rfl, b1⟩
    clear KM HW
    obtain ⟨-, ⟨c4, c5, c6⟩, -⟩ := unhide HB _ b1
    have c7 := unhide HBS _ b1
    clear HB HBS
    go_wp2
    generalize W1.setCell ⟨w.heap.size + 1, 0, none⟩ (.slice none 0 0) = WZ at *
    exact bodyPost_ret (v := .tuple #[.agg #[.slice none 0 0], .int .i64 1]) (by simp [results, Tryz.results32, go_sem, c6]) rfl ⟨rfl, c7⟩
  have n1' : decide (ee < 0) = false := decide_eq_false n1
  by_cases n2 : pp < 1
  · obtain rfl : E = 1 := by rw [unhide HE]; simp [n2]
    have n2' : decide (pp < 1) = true := decide_eq_true n2
    clear KH KP KCF HE HPL hL3
    go_enter Tryz.func32, Tryz.ntmps32
    go_wp2_with fail
    rw [← unhide HW]
    refine (unhide KM _ hb0).mono ?_
    rintro e W1 ⟨rfl, b1⟩
    clear KM HW
    obtain ⟨-, ⟨c4, c5, c6⟩, -⟩ := unhide HB _ b1
    have c7 := unhide HBS _ b1
    clear HB HBS
    go_wp2
    generalize W1.setCell ⟨w.heap.size + 1, 0, none⟩ (.slice none 0 0) = WZ at *
    exact bodyPost_ret (v := .tuple #[.agg #[.slice none 0 0], .int .i64 1]) (by simp [results, Tryz.results32, go_sem, c6]) rfl ⟨rfl, c7⟩
  have n2' : decide (pp < 1) = false := decide_eq_false n2
  have HE2 : Hid (E = if q = false then 7 else if PL ≠ L ∨ an = true then 1 else 0) := by unfold Hid; rw [unhide HE, if_neg (by simp [n1, n2])]
  have KH2 := hide (unhide KH rfl)
  have KP1 := hide (unhide KP rfl)
  clear HE n1 n2 KH KP
  cases q
  · obtain rfl : E = 7 := by rw [unhide HE2]; simp
    clear KP1 KCF HE2 HPL hL3
    go_enter Tryz.func32, Tryz.ntmps32
    go_wp2_with fail
    rw [← unhide HW]
    refine (unhide KM _ hb0).mono ?_
    rintro e W1 ⟨rfl, b1⟩
    clear KM HW
    obtain ⟨c0, -, hw1⟩ := unhide HB _ b1
    go_wp2_with fail
    refine (unhide KH2 _ hw1).mono ?_
    rintro e W2 ⟨rfl, b2⟩
    have b3 := bw_tr b1 b2
    clear c0 KH2 b1 b2 hw1
    obtain ⟨-, ⟨c4, c5, c6⟩, -⟩ := unhide HB _ b3
    have c7 := unhide HBS _ b3
    clear HB HBS
    go_wp2
    generalize W2.setCell ⟨w.heap.size + 1, 0, none⟩ (.slice none 0 0) = WZ at *
    exact bodyPost_ret (v := .tuple #[.agg #[.slice none 0 0], .int .i64 7]) (by simp [results, Tryz.results32, go_sem, c6]) rfl ⟨rfl, c7⟩
  have hL4 : L ≤ 3 := by rcases hL3 with c | c; exact c; exact absurd ⟨rfl, rfl⟩ c
  have KP2 := hide (unhide KP1 rfl)
  clear hL3 KP1
  by_cases n3 : PL = L
  · subst n3
    obtain rfl : an = true := by
      cases an
      · exact absurd (by rw [unhide HE2]; simp) (unhide HE0)
      · rfl
    obtain rfl : E = 1 := by rw [unhide HE2]; simp
    have KCF2 := hide (unhide KCF hL4)
    clear HE2 HE0 KCF
    go_enter Tryz.func32, Tryz.ntmps32
    go_wp2_with fail
    rw [← unhide HW]
    refine (unhide KM _ hb0).mono ?_
    rintro e W1 ⟨rfl, b1⟩
    clear KM HW
    obtain ⟨c0, -, hw1⟩ := unhide HB _ b1
    go_wp2_with fail
    refine (unhide KH2 _ hw1).mono ?_
    rintro e W2 ⟨rfl, b2⟩
    have b3 := bw_tr b1 b2
    clear c0 KH2 b1 b2 hw1
    obtain ⟨c0, -, hw3⟩ := unhide HB _ b3
    go_wp2_with fail
    refine (unhide KP2 _ hw3).mono ?_
    rintro e W4 ⟨nv, ov, us0, rfl, hPI, b4⟩
    have b5 := bw_tr b3 b4
    obtain ⟨na, nc, hne⟩ := own_slice hPI.ns
    rw [List.length_map, ← unhide HPL] at hne
    subst hne
    clear c0 KP2 b4 b3 hw3 hPI HPL
    obtain ⟨c0, -, hw5⟩ := unhide HB _ b5
    go_wp2_with fail
    refine (unhide KCF2 _ hw5).mono ?_
    rintro e W6 ⟨rfl, qd, rfl⟩
    have b6 := bw_tr b5 (below_drewN (Below.refl _ _) qd)
    clear c0 KCF2 b5 hw5
    generalize W4.drewN qd = W7 at *
    obtain ⟨-, ⟨c4, c5, c6⟩, -⟩ := unhide HB _ b6
    have c7 := unhide HBS _ b6
    clear HB HBS
    go_wp2
    generalize W7.setCell ⟨w.heap.size + 1, 0, none⟩ (.slice none 0 0) = WZ at *
    exact bodyPost_ret (v := .tuple #[.agg #[.slice none 0 0], .int .i64 1]) (by simp [results, Tryz.results32, go_sem, c6]) rfl ⟨rfl, c7⟩
  · obtain rfl : E = 1 := by rw [unhide HE2]; simp [n3]
    have n4 : ((PL : Int) == (L : Int)) = false := beq_eq_false_iff_ne.2 (by omega)
    have n5 : decide ((PL : Int) = (L : Int)) = false := decide_eq_false (by omega)
    have n6 : ((PL : Int) != (L : Int)) = true := by simp [bne, n4]
    clear HE2 HE0 KCF n3
    go_enter Tryz.func32, Tryz.ntmps32
    go_wp2_with fail
    rw [← unhide HW]
    refine (unhide KM _ hb0).mono ?_
    rintro e W1 ⟨rfl, b1⟩
    clear KM HW
    obtain ⟨c0, -, hw1⟩ := unhide HB _ b1
    go_wp2_with fail
    refine (unhide KH2 _ hw1).mono ?_
    rintro e W2 ⟨rfl, b2⟩
    have b3 := bw_tr b1 b2
    clear c0 KH2 b1 b2 hw1
    obtain ⟨c0, -, hw3⟩ := unhide HB _ b3
    go_wp2_with fail
    refine (unhide KP2 _ hw3).mono ?_
    rintro e W4 ⟨nv, ov, us0, rfl, hPI, b4⟩
    have b5 := bw_tr b3 b4
    obtain ⟨na, nc, hne⟩ := own_slice hPI.ns
    rw [List.length_map, ← unhide HPL] at hne
    subst hne
    clear c0 KP2 b4 b3 hw3 hPI HPL
    obtain ⟨-, ⟨c4, c5, c6⟩, -⟩ := unhide HB _ b5
    have c7 := unhide HBS _ b5
    clear HB HBS
    go_wp2
    generalize W4.setCell ⟨w.heap.size + 1, 0, none⟩ (.slice none 0 0) = WZ at *
    exact bodyPost_ret (v := .tuple #[.agg #[.slice none 0 0], .int .i64 1]) (by simp [results, Tryz.results32, go_sem, c6]) rfl ⟨rfl, c7⟩
end Go.Proofs.YtaanacnloljlmaaGreatDoor
