/- The contract of the document's resolution. -/
import Derived.Test.YtpgppnmobbgefaaGreatDoorBbE
import Derived.Test.YtpgppnmobbgefaaGreatDoorBaV
import Derived.Test.YtpgppnmobbgefaaGreatDoorIxRefD
namespace Go.Proofs.YtpgppnmobbgefaaGreatDoor
open Go.RowKit Go.Maps

set_option maxRecDepth 100000 in
set_option maxHeartbeats 4000000 in
theorem rres_pos {T : List Nd} (hw : Wd T) (hs : Sm T) (x : Nat) (hx : x < 2 * nlv T - 1) (hp : pos (ndAt T x) = true) {w : World} {v : Value} (h : Trd w v T) :
    Calls Tryz.prog 173 #[.agg #[v], .int .i64 (x : Int)] w fun e w' => ∃ r, e = .returned r ∧ Ints w.heap.size w' r (rsl T x) ∧ Below w.heap.size w w' := by
  obtain ⟨g1, g2, g3, g4, g5⟩ := hw.facts
  obtain ⟨i0, hi, hz0, hz1, hz2⟩ := info_parts Tryz.infoInt
  rw [rsl_pos hp]
  have hxT : x < T.length := by omega
  obtain ⟨a, c, rfl⟩ := h.slice
  obtain ⟨-, h2⟩ := h.at
  obtain ⟨b, o, rfl, h3⟩ := h2 (by omega)
  obtain ⟨u, k1, k2⟩ := h3 _ (bwA w (.cells #[.slice (some ⟨b, o, none⟩) T.length c] 24)) x hxT
  obtain ⟨au, cu, rfl⟩ := nums_slice k2
  obtain ⟨c0, c1, c2, c3⟩ := k1
  obtain ⟨s1, s2⟩ := hs x hxT
  obtain ⟨p, hpp⟩ : ∃ p, (ndAt T x).pub = p := ⟨_, rfl⟩
  obtain ⟨m, hm⟩ : ∃ p, (ndAt T x).mem = p := ⟨_, rfl⟩
  obtain ⟨e, he⟩ : ∃ p, (ndAt T x).ep = p := ⟨_, rfl⟩
  obtain ⟨l, hl⟩ : ∃ p, (ndAt T x).un = p := ⟨_, rfl⟩
  rw [hpp] at c0
  rw [hm] at c1
  rw [he] at c2
  rw [hl] at c3 s1 s2 k2
  obtain ⟨M, hM⟩ : ∃ M, M = l.length := ⟨_, rfl⟩
  obtain ⟨W, hWd⟩ : ∃ W, W = (w.alloc (.cells #[.slice (some ⟨b, o, none⟩) T.length c] 24)).alloc (.cells #[.int .i64 p, .int .i64 m, .int .i64 e, .slice au M cu] 95) := ⟨_, rfl⟩
  rw [← hM] at c3 s1
  have hbW : Below w.heap.size w W := by rw [hWd]; exact (bwA _ _).alloc (by simp) _
  have HB : Hid (∀ W', Below W.heap.size W W' → (W'.cell? ⟨w.heap.size, 0, none⟩ = some (.slice (some ⟨b, o, none⟩) T.length c) ∧ W'.cell? ⟨w.heap.size + 1, 0, none⟩ = some (.int .i64 p) ∧ W'.cell? ⟨w.heap.size + 1, 3, none⟩ = some (.slice au M cu)) ∧ Below w.heap.size w W') := fun W' hb => by
    have e0 : W'.heap[w.heap.size]? = some (.cells #[.slice (some ⟨b, o, none⟩) T.length c] 24 (0, 0)) := by
      rw [hb.block _ (by rw [hWd]; simp; omega), hWd, Below.heap_alloc _ _ _ (by simp)]; exact heap_alloc_new _ _
    have e1 : W'.heap[w.heap.size + 1]? = some (.cells #[.int .i64 p, .int .i64 m, .int .i64 e, .slice au M cu] 95 (0, 0)) := by
      rw [hb.block _ (by rw [hWd]; simp), hWd]
      have := heap_alloc_new (w.alloc (.cells #[.slice (some ⟨b, o, none⟩) T.length c] 24)) (.cells #[.int .i64 p, .int .i64 m, .int .i64 e, .slice au M cu] 95)
      simpa using this
    exact ⟨⟨by simp [World.cell?, e0], by simp [World.cell?, e1], by simp [World.cell?, e1]⟩, bw_tr hbW hb⟩
  have k2' := k2.bw (w' := W) (by rw [hWd]; exact bwA _ _)
  have HW : Hid (W = (w.alloc (.cells #[.slice (some ⟨b, o, none⟩) T.length c] 24)).alloc (.cells #[.int .i64 p, .int .i64 m, .int .i64 e, .slice au M cu] 95)) := hWd
  have hx1 : (x : Int) < (T.length : Int) := by omega
  have hx2 : (0 : Int) ≤ (x : Int) := by omega
  have hx3 : (x : Int) ≤ 15 := by omega
  have g3' : (T.length : Int) ≤ 15 := by omega
  have kp0 : p ≠ 0 := by unfold pos at hp; rw [hpp] at hp; simpa using hp
  have kp1 : (p == 0) = false := by simpa using kp0
  have kp2 : decide (p = 0) = false := by simpa using kp0
  have kp3 : (p != 0) = true := by simpa using kp0
  have HL : Hid (∀ i z, l[i]? = some z → 0 ≤ z ∧ z ≤ 7 ∧ ∃ g o', au = some ⟨g, o', none⟩ ∧ ∀ W', Below W.heap.size W W' → W'.cell? ⟨g, o' + i, none⟩ = some (.int .i64 z)) := fun i z hz => by
    have hm := s2 z (List.mem_of_getElem? hz)
    refine ⟨hm.1, hm.2, ?_⟩
    obtain ⟨g, o', cap, e, hc⟩ := k2'.open (by have := (List.getElem?_eq_some_iff.1 hz).1; omega)
    cases e
    refine ⟨g, o', rfl, fun W' hW => ?_⟩
    have hcc := hc i z hz
    rw [hW.cell (p := ⟨g, o' + i, none⟩) (lt_of_cell (a := ⟨g, o' + i, none⟩) hcc)]; exact hcc
  have HM := hide hM
  have HS : Hid (w.heap.size ≤ W.heap.size) := hbW.size
  rw [hl]
  have bW0 : Below W.heap.size W W := Below.refl _ _
  clear h h2 h3 k2 k2' hpp hm he hl hM hw g1 g2 g3 g4 g5 hx hxT hWd hbW s2 hs hp kp0
  generalize T.length = N at *
  go_enter Tryz.func173, Tryz.ntmps173
  go_upto_region 2 with fail
  rw [← unhide HW]
  clear c0 c1 c2 c3 HW
  obtain ⟨⟨d0, d1, d2⟩, -⟩ := unhide HB _ bW0
  have bA : Below W.heap.size W (W.alloc (.cells #[.int .i64 (x : Int)] 3)) := bW0.alloc (Nat.le_refl _) _
  obtain ⟨⟨-, -, d3⟩, -⟩ := unhide HB _ bA
  go_wp2_with fail
  go_loopw [6, 7] (fun lv iv wr => ∃ i : Nat, iv = .int .i64 (i : Int) ∧ i ≤ M ∧ Ints W.heap.size wr lv ((x : Int) :: (l.take i).map (2 * ·)) ∧ Below W.heap.size W wr) (fun _ iv _ => (M - (intOf iv)).toNat)
  case atStart => exact ⟨0, rfl, by omega, one_own W (x : Int), bA⟩
  case round =>
    clear d0 d1 d2 d3 bA bW0
    obtain ⟨i, rfl, hin, hown, hbel⟩ := hrel
    obtain ⟨⟨d0, d1, d2⟩, hbw⟩ := unhide HB _ hbel
    by_cases hlt : i < M
    · obtain ⟨z, hz⟩ : ∃ z, l[i]? = some z := ⟨_, List.getElem?_eq_getElem (by have := unhide HM; omega)⟩
      obtain ⟨z0, z7, g, o', rfl, hc⟩ := unhide HL i z hz
      have c2 := hc _ hbel
      have q1 : (i : Int) < (M : Int) := by omega
      have q0 : (0 : Int) ≤ (i : Int) := by omega
      have hsn : Hid ((x : Int) :: (l.take (i + 1)).map (2 * ·) = ((x : Int) :: (l.take i).map (2 * ·)) ++ [2 * z]) := by
        unfold Hid; rw [List.take_add_one, hz]; simp
      have hlen : ((x : Int) :: (l.take i).map (2 * ·)).length ≤ 9 := by simp; omega
      generalize (x : Int) :: (l.take i).map (2 * ·) = cur at *
      have hsz := hbel.size
      clear hz hc d0 d1
      go_wp2_with (at_builtin; refine wpList_append_own _ rfl (.tmp 29) (.tmp 36) 31 rfl W.heap.size 3 i0 (.int .i64 0) 1 8 Tryz.underlying31 hi hz0 hz1 hz2 rfl (by decide) _ cur.length _ rfl (World.ownsRow.alloc hown _) ⟨wr.heap.size, 0, none⟩ 1 1 [_] rfl rfl (cell_one_new _ _ _) ?c2 ?c3 ?c4 ?c5 ?nx)
      case c2 => intro u hu; simp at hu; subst hu; rfl
      case c3 => unfold maxLen; omega
      case c4 => omega
      case c5 => simp; omega
      case nx =>
        intro v' w3 hown' hgrow _
        obtain ⟨R1, R2⟩ := ints_snoc (2 * z) hbel hown hown' hgrow
        clear hown' hgrow
        go_wp2_with fail
        go_roundw
        case rel => exact ⟨i + 1, by go_num, by omega, by rw [unhide hsn]; exact R1, R2⟩
        case measure => simp [intOf]; omega
    · have hie : i = M := by omega
      have e : l.take i = l := List.take_of_length_le (by have := unhide HM; omega)
      rw [e] at hown
      subst hie
      go_wp2_with fail
      go_ret
      exact ⟨_, rfl, hown.mono (unhide HS), hbw⟩
set_option maxRecDepth 100000 in
set_option maxHeartbeats 4000000 in
theorem rres_leaf {T : List Nd} (hw : Wd T) (hs : Sm T) (x : Nat) (hx : x < 2 * nlv T - 1) (ho : x % 2 = 0) (hp : pos (ndAt T x) = false) {w : World} {v : Value} (h : Trd w v T) :
    Calls Tryz.prog 173 #[.agg #[v], .int .i64 (x : Int)] w fun e w' => ∃ r, e = .returned r ∧ Ints w.heap.size w' r (rsl T x) ∧ Below w.heap.size w w' := by
  obtain ⟨g1, g2, g3, g4, g5⟩ := hw.facts
  rw [rsl_leaf hp ho]
  have hxT : x < T.length := by omega
  obtain ⟨a, c, rfl⟩ := h.slice
  obtain ⟨-, h2⟩ := h.at
  obtain ⟨b, o, rfl, h3⟩ := h2 (by omega)
  obtain ⟨u, k1, k2⟩ := h3 _ (bwA w (.cells #[.slice (some ⟨b, o, none⟩) T.length c] 24)) x hxT
  obtain ⟨au, cu, rfl⟩ := nums_slice k2
  obtain ⟨c0, c1, c2, c3⟩ := k1
  obtain ⟨s1, s2⟩ := hs x hxT
  obtain ⟨p, hpp⟩ : ∃ p, (ndAt T x).pub = p := ⟨_, rfl⟩
  obtain ⟨m, hm⟩ : ∃ p, (ndAt T x).mem = p := ⟨_, rfl⟩
  obtain ⟨e, he⟩ : ∃ p, (ndAt T x).ep = p := ⟨_, rfl⟩
  obtain ⟨l, hl⟩ : ∃ p, (ndAt T x).un = p := ⟨_, rfl⟩
  rw [hpp] at c0
  rw [hm] at c1
  rw [he] at c2
  rw [hl] at c3 s1 s2 k2
  obtain ⟨M, hM⟩ : ∃ M, M = l.length := ⟨_, rfl⟩
  obtain ⟨W, hWd⟩ : ∃ W, W = (w.alloc (.cells #[.slice (some ⟨b, o, none⟩) T.length c] 24)).alloc (.cells #[.int .i64 p, .int .i64 m, .int .i64 e, .slice au M cu] 95) := ⟨_, rfl⟩
  rw [← hM] at c3 s1
  have hbW : Below w.heap.size w W := by rw [hWd]; exact (bwA _ _).alloc (by simp) _
  have HB : Hid (∀ W', Below W.heap.size W W' → (W'.cell? ⟨w.heap.size, 0, none⟩ = some (.slice (some ⟨b, o, none⟩) T.length c) ∧ W'.cell? ⟨w.heap.size + 1, 0, none⟩ = some (.int .i64 p) ∧ W'.cell? ⟨w.heap.size + 1, 3, none⟩ = some (.slice au M cu)) ∧ Below w.heap.size w W') := fun W' hb => by
    have e0 : W'.heap[w.heap.size]? = some (.cells #[.slice (some ⟨b, o, none⟩) T.length c] 24 (0, 0)) := by
      rw [hb.block _ (by rw [hWd]; simp; omega), hWd, Below.heap_alloc _ _ _ (by simp)]; exact heap_alloc_new _ _
    have e1 : W'.heap[w.heap.size + 1]? = some (.cells #[.int .i64 p, .int .i64 m, .int .i64 e, .slice au M cu] 95 (0, 0)) := by
      rw [hb.block _ (by rw [hWd]; simp), hWd]
      have := heap_alloc_new (w.alloc (.cells #[.slice (some ⟨b, o, none⟩) T.length c] 24)) (.cells #[.int .i64 p, .int .i64 m, .int .i64 e, .slice au M cu] 95)
      simpa using this
    exact ⟨⟨by simp [World.cell?, e0], by simp [World.cell?, e1], by simp [World.cell?, e1]⟩, bw_tr hbW hb⟩
  have k2' := k2.bw (w' := W) (by rw [hWd]; exact bwA _ _)
  have HW : Hid (W = (w.alloc (.cells #[.slice (some ⟨b, o, none⟩) T.length c] 24)).alloc (.cells #[.int .i64 p, .int .i64 m, .int .i64 e, .slice au M cu] 95)) := hWd
  have hx1 : (x : Int) < (T.length : Int) := by omega
  have hx2 : (0 : Int) ≤ (x : Int) := by omega
  have hx3 : (x : Int) ≤ 15 := by omega
  have g3' : (T.length : Int) ≤ 15 := by omega
  have kp0 : p = 0 := by unfold pos at hp; rw [hpp] at hp; simpa using hp
  subst kp0
  have HB0 := hide (unhide HB W (Below.refl _ _))
  have hx4 : IntKind.i64.wrap (Int.tmod (x : Int) 2) = 0 := by rw [Int.tmod_eq_emod_of_nonneg (by omega), show (x : Int) % 2 = 0 by omega]; rfl
  have hx5 : (x : Int) % 2 = 0 := by omega
  clear h h2 h3 k2 k2' hpp hm he hl hM hw g1 g2 g3 g4 g5 hx hxT hWd hbW s2 hs hp HB ho
  generalize T.length = N at *
  go_enter Tryz.func173, Tryz.ntmps173
  go_upto_region 2 with fail
  rw [← unhide HW]
  clear c0 c1 c2 c3 HW
  obtain ⟨⟨d0, d1, d2⟩, hbw⟩ := unhide HB0
  go_wp2
  go_ret
  exact ⟨_, rfl, ints_nil _ _, hbw⟩
set_option maxRecDepth 100000 in
set_option maxHeartbeats 4000000 in
theorem rres_at {T : List Nd} (hw : Wd T) (hs : Sm T) : ∀ (x : Nat), x < 2 * nlv T - 1 → ∀ {w : World} {v : Value}, Trd w v T →
    Calls Tryz.prog 173 #[.agg #[v], .int .i64 (x : Int)] w fun e w' => ∃ r, e = .returned r ∧ Ints w.heap.size w' r (rsl T x) ∧ Below w.heap.size w w' := by
  obtain ⟨g1, g2, g3, g4, g5⟩ := hw.facts
  refine node_ind g1 (fun x hx ho => ?_) (fun x hx ho i1 i2 => ?_)
  · intro w v h
    cases hp : pos (ndAt T x)
    · exact rres_leaf hw hs x hx ho hp h
    · exact rres_pos hw hs x hx hp h
  intro w v h
  cases hp : pos (ndAt T x)
  rotate_left
  · exact rres_pos hw hs x hx hp h
  rw [rsl_par g1 hx hp ho]
  have hxT : x < T.length := by omega
  obtain ⟨a1, a2, a3, a4, a5, a6, a7, a8, _⟩ := (span_of g1 hx).2.1 ho
  have hl1 := rsl_72 hw hs (show lN x < T.length by omega)
  have hl2 := rsl_72 hw hs (show rN x < T.length by omega)
  have HC : Hid (∀ W, Below w.heap.size w W → Trd W v T) := fun W hW => h.bw hW
  obtain ⟨a, c, rfl⟩ := h.slice
  obtain ⟨-, h2⟩ := h.at
  obtain ⟨b, o, rfl, h3⟩ := h2 (by omega)
  obtain ⟨u, k1, k2⟩ := h3 _ (bwA w (.cells #[.slice (some ⟨b, o, none⟩) T.length c] 24)) x hxT
  obtain ⟨au, cu, rfl⟩ := nums_slice k2
  obtain ⟨c0, c1, c2, c3⟩ := k1
  obtain ⟨s1, s2⟩ := hs x hxT
  obtain ⟨p, hpp⟩ : ∃ p, (ndAt T x).pub = p := ⟨_, rfl⟩
  obtain ⟨m, hm⟩ : ∃ p, (ndAt T x).mem = p := ⟨_, rfl⟩
  obtain ⟨e, he⟩ : ∃ p, (ndAt T x).ep = p := ⟨_, rfl⟩
  obtain ⟨l, hl⟩ : ∃ p, (ndAt T x).un = p := ⟨_, rfl⟩
  rw [hpp] at c0
  rw [hm] at c1
  rw [he] at c2
  rw [hl] at c3 s1 s2 k2
  obtain ⟨M, hM⟩ : ∃ M, M = l.length := ⟨_, rfl⟩
  obtain ⟨W, hWd⟩ : ∃ W, W = (w.alloc (.cells #[.slice (some ⟨b, o, none⟩) T.length c] 24)).alloc (.cells #[.int .i64 p, .int .i64 m, .int .i64 e, .slice au M cu] 95) := ⟨_, rfl⟩
  rw [← hM] at c3 s1
  have hbW : Below w.heap.size w W := by rw [hWd]; exact (bwA _ _).alloc (by simp) _
  have HB : Hid (∀ W', Below W.heap.size W W' → (W'.cell? ⟨w.heap.size, 0, none⟩ = some (.slice (some ⟨b, o, none⟩) T.length c) ∧ W'.cell? ⟨w.heap.size + 1, 0, none⟩ = some (.int .i64 p) ∧ W'.cell? ⟨w.heap.size + 1, 3, none⟩ = some (.slice au M cu)) ∧ Below w.heap.size w W') := fun W' hb => by
    have e0 : W'.heap[w.heap.size]? = some (.cells #[.slice (some ⟨b, o, none⟩) T.length c] 24 (0, 0)) := by
      rw [hb.block _ (by rw [hWd]; simp; omega), hWd, Below.heap_alloc _ _ _ (by simp)]; exact heap_alloc_new _ _
    have e1 : W'.heap[w.heap.size + 1]? = some (.cells #[.int .i64 p, .int .i64 m, .int .i64 e, .slice au M cu] 95 (0, 0)) := by
      rw [hb.block _ (by rw [hWd]; simp), hWd]
      have := heap_alloc_new (w.alloc (.cells #[.slice (some ⟨b, o, none⟩) T.length c] 24)) (.cells #[.int .i64 p, .int .i64 m, .int .i64 e, .slice au M cu] 95)
      simpa using this
    exact ⟨⟨by simp [World.cell?, e0], by simp [World.cell?, e1], by simp [World.cell?, e1]⟩, bw_tr hbW hb⟩
  have k2' := k2.bw (w' := W) (by rw [hWd]; exact bwA _ _)
  have HW : Hid (W = (w.alloc (.cells #[.slice (some ⟨b, o, none⟩) T.length c] 24)).alloc (.cells #[.int .i64 p, .int .i64 m, .int .i64 e, .slice au M cu] 95)) := hWd
  have hx1 : (x : Int) < (T.length : Int) := by omega
  have hx2 : (0 : Int) ≤ (x : Int) := by omega
  have hx3 : (x : Int) ≤ 15 := by omega
  have g3' : (T.length : Int) ≤ 15 := by omega
  have kp0 : p = 0 := by unfold pos at hp; rw [hpp] at hp; simpa using hp
  subst kp0
  have KL : Hid (∀ W, _) := fun W => rleft_any (x : Int) W (by omega)
  have KR : Hid (∀ W, _) := fun W => rright_any (x : Int) W (by omega)
  rw [a1, a3] at KL
  rw [a2, a4] at KR
  have hx4 : IntKind.i64.wrap (Int.tmod (x : Int) 2) = 1 := by rw [Int.tmod_eq_emod_of_nonneg (by omega), show (x : Int) % 2 = 1 by omega]; rfl
  have hx5 : (x : Int) % 2 = 1 := by omega
  have I1 : Hid (∀ W', Below W.heap.size W W' → Calls Tryz.prog 173 #[.agg #[.slice (some ⟨b, o, none⟩) T.length c], .int .i64 (lN x : Nat)] W' fun e w' => ∃ r, e = .returned r ∧ Ints W'.heap.size w' r (rsl T (lN x)) ∧ Below W'.heap.size W' w') := fun W' hW => i1 (unhide HC _ (unhide HB _ hW).2)
  have I2 : Hid (∀ W', Below W.heap.size W W' → Calls Tryz.prog 173 #[.agg #[.slice (some ⟨b, o, none⟩) T.length c], .int .i64 (rN x : Nat)] W' fun e w' => ∃ r, e = .returned r ∧ Ints W'.heap.size w' r (rsl T (rN x)) ∧ Below W'.heap.size W' w') := fun W' hW => i2 (unhide HC _ (unhide HB _ hW).2)
  have HS : Hid (w.heap.size ≤ W.heap.size ∧ Below w.heap.size w W) := ⟨hbW.size, hbW⟩
  have HL12 : (rsl T (lN x)).length + (rsl T (rN x)).length ≤ 100000 := by omega
  generalize rsl T (lN x) = L1 at *
  generalize rsl T (rN x) = L2 at *
  generalize ((lN x : Nat) : Int) = y1 at *
  generalize ((rN x : Nat) : Int) = y2 at *
  clear i1 i2 a1 a2 a3 a4 a5 a6 a7 a8 HC h h2 h3 k2 k2' hpp hm he hl hM hw g1 g2 g3 g4 g5 hx hxT hWd hbW s2 hs hp ho hl1 hl2
  generalize T.length = N at *
  have b0 : Below W.heap.size W W := Below.refl _ _
  have bd : Below W.heap.size W W.drew := b0.drew
  go_enter Tryz.func173, Tryz.ntmps173
  go_upto_region 2 with fail
  rw [← unhide HW]
  clear c0 c1 c2 c3 HW
  obtain ⟨⟨d0, d1, d2⟩, -⟩ := unhide HB _ b0
  go_wp2_with fail
  refine (unhide KL _).mono ?_
  rintro e w1 ⟨rfl, rfl⟩
  go_wp2_with fail
  refine (unhide KR _).mono ?_
  rintro e w1 ⟨rfl, rfl⟩
  clear KL KR d1 d2 hx4 hx5
  have J1 := unhide I1 _ bd
  have S0 := (unhide HB _ b0).1.1
  have S0d := (unhide HB _ bd).1.1
  go_wp2_with fail
  first
  | go_region_held3 (fun w' : World => w'.cell? ⟨w.heap.size, 0, none⟩ = some (.slice (some ⟨b, o, none⟩) N c)) (first | with_reducible exact S0 | with_reducible exact S0d | with_reducible exact S1 | with_reducible exact S2 | with_reducible exact S3) (first
      | (go_at_call_of 173 (Value.int IntKind.i64 y2); refine J2.mono ?_; rintro e z2 ⟨r2, rfl, R2', b3⟩; have b4 := bw_tr b2 b3; have S2 := (unhide HB _ b4).1.1; have R1 := R1'.bw b3; have R2 := R2'.nums; have hl12 := HL12; have hsz2 := b4.size)
      | (go_at_call_of 173 (Value.int IntKind.i64 y1); refine J1.mono ?_; rintro e z1 ⟨r1, rfl, R1'', b1'⟩; have b2 := bw_tr bd b1'; have R1' := R1''.mono bd.size; have S1 := (unhide HB _ b2).1.1; have J2 := unhide I2 _ b2)
      | (refine step_join rfl (.tmp 54) (.tmp 57) rfl w1.heap.size r1 r2 L1 L2 (by simp [Act.eval]) R1 (by simp [Act.eval]) R2 hl12 hsz2 ?_; intro r3 z3 R3 hg3 _; have b5 := (b4.grown hg3 (by exact b4.size) (fun k hk => (World.ownsRow.lt R1 k hk).1)); have S3 := (unhide HB _ b5).1.1)
      | fail)
  | fail
  all_goals
    go_wp2_with fail
    go_ret
    exact ⟨_, rfl, R3.mono (unhide HS).1, bw_tr (unhide HS).2 b5⟩
end Go.Proofs.YtpgppnmobbgefaaGreatDoor
