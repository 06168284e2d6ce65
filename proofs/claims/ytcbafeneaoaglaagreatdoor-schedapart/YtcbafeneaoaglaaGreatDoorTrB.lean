/- Contracts of what package tree asks of a tree by itself, continued. -/
import Derived.Test.YtcbafeneaoaglaaGreatDoorTrA
namespace Go.Proofs.YtcbafeneaoaglaaGreatDoor
open Go.RowKit Go.Maps

theorem hasL_lt {T : List Nd} {i : Nat} (h : i < (T.length + 1) / 2) : hasL T (i : Int) = pos (ndAt T (2 * i)) := by
  unfold hasL nlv
  have h2 : ((i : Nat) : Int) < (((T.length + 1) / 2 : Nat) : Int) := by omega
  rw [decide_eq_true h2, decide_eq_true (by omega)]; simp
theorem hasL_ge {T : List Nd} {i : Nat} (h : ¬ i < (T.length + 1) / 2) : hasL T (i : Int) = false := by
  unfold hasL nlv
  have h2 : ¬ ((i : Nat) : Int) < (((T.length + 1) / 2 : Nat) : Int) := by omega
  rw [decide_eq_false h2]; simp
/-- The box of a tree that was handed in. -/
abbrev bxw (w : World) (v : Value) : World := w.alloc (.cells #[v] 25)
theorem bx_cell {w w1 : World} {v : Value} (hb : Below (bxw w v).heap.size (bxw w v) w1) : w1.cell? ⟨w.heap.size, 0, none⟩ = some v := by
  have e : w1.heap[w.heap.size]? = some (.cells #[v] 25 (0, 0)) := by rw [hb.block _ (by simp)]; exact heap_alloc_new _ _
  simp [World.cell?, e]
theorem bx_bel {w w1 : World} {v : Value} (hb : Below (bxw w v).heap.size (bxw w v) w1) : Below w.heap.size w w1 := bw_tr (bwA _ _) hb
theorem anyM_succ (T : List Nd) (a i : Nat) : anyM T a (i + 1) = (anyM T a i || (decide (a ≤ i) && pos (ndAt T (2 * i)))) := by
  unfold anyM; rw [List.range_succ, List.any_append]; simp
theorem anyM_self (T : List Nd) (a : Nat) : anyM T a a = false := by
  unfold anyM; rw [List.any_eq_false]; intro x hx; have := List.mem_range.1 hx; simp; intro; omega
theorem anyM_mono {T : List Nd} {a i b : Nat} (h : anyM T a i = true) (hb : i ≤ b) : anyM T a b = true := by
  unfold anyM at *
  rw [List.any_eq_true] at *
  obtain ⟨x, hx, h2⟩ := h
  exact ⟨x, by have := List.mem_range.1 hx; exact List.mem_range.2 (by omega), h2⟩
set_option maxHeartbeats 1000000 in
theorem anyMember_any {w : World} {v : Value} {T : List Nd} (h : Trd w v T) (hs : T.length ≤ 15) (a b : Nat) (hab : a ≤ b) (hb : b ≤ nlv T) :
    Calls Tryz.prog 95 #[.agg #[v], .int .i64 (a : Int), .int .i64 (b : Int)] w fun e w' => e = .returned (.bool (anyM T a b)) ∧ Below w.heap.size w w' := by
  have hl := h.len
  have hnl : nlv T = (T.length + 1) / 2 := rfl
  have KB : ∀ W, Below w.heap.size w W → ∀ x : Nat, x < T.length → _ := fun W hW x hx => blank_any (h.bw hW) hx
  have HX : Hid (∀ i, i < b → 2 * i < T.length) := fun i hi => by omega
  have hb2 : b ≤ 8 := by omega
  clear h hl hnl hb
  go_enter Tryz.func95, Tryz.ntmps95
  go_wp2_with fail
  go_loopw [7] (fun iv wr => ∃ i : Nat, iv = .int .i64 (i : Int) ∧ a ≤ i ∧ i ≤ b ∧ Hid (anyM T a i = false) ∧ Below (bxw w v).heap.size (bxw w v) wr) (fun iv _ => (b - (intOf iv)).toNat)
  case atStart => exact ⟨a, rfl, Nat.le_refl _, hab, anyM_self T a, Below.refl _ _⟩
  case round =>
    obtain ⟨i, rfl, hai, hi, hno, hbel⟩ := hrel
    by_cases hin : i < b
    · have q1 : (i : Int) < (b : Int) := by omega
      obtain ⟨x, hx⟩ : ∃ x : Nat, x = 2 * i := ⟨_, rfl⟩
      have q2 : (2 * (i : Int)) = (x : Int) := by omega
      have KB2 := KB wr (bx_bel hbel) x (by rw [hx]; exact unhide HX i hin)
      have c1 := bx_cell hbel
      have HP : Hid (anyM T a (i + 1) = pos (ndAt T x)) := by unfold Hid; rw [anyM_succ, unhide hno, decide_eq_true hai, hx]; simp
      clear hx
      generalize pos (ndAt T x) = p at *
      go_wp2_with fail
      refine KB2.mono ?_
      rintro e w1 ⟨rfl, b1⟩
      cases p
      · go_wp2_with fail
        go_roundw
        case rel => exact ⟨i + 1, by go_num, by omega, by omega, HP, bw_tr hbel b1⟩
        case measure => simp [intOf]; omega
      · go_wp2
        go_ret
        rw [anyM_mono (unhide HP) (by omega)]
        exact ⟨rfl, bw_tr (bx_bel hbel) b1⟩
    · have hie : i = b := by omega
      subst hie
      go_wp2_with fail
      go_ret
      rw [unhide hno]
      exact ⟨rfl, bx_bel hbel⟩

theorem lvs_len (T : List Nd) : (lvs T).length = nlv T := by simp [lvs]
theorem lvs_get {T : List Nd} {i : Nat} (h : i < nlv T) : (lvs T)[i]? = some (ndAt T (2 * i)) := by simp [lvs, h]
theorem lvs_take {T : List Nd} {i : Nat} (h : i < nlv T) : (lvs T).take (i + 1) = (lvs T).take i ++ [ndAt T (2 * i)] := by rw [List.take_add_one, lvs_get h]; rfl
theorem memsOf_snoc (L : List Nd) (n : Nd) : memsOf (L ++ [n]) = memsOf L ++ if pos n = true then [n.mem] else [] := by
  unfold memsOf; rw [List.filter_append, List.map_append]; cases h : pos n <;> simp [h]
theorem memsOf_len (L : List Nd) : (memsOf L).length ≤ L.length := by unfold memsOf; rw [List.length_map]; exact List.length_filter_le _ _
set_option maxRecDepth 100000 in
set_option maxHeartbeats 1000000 in
theorem members_any {w : World} {v : Value} {T : List Nd} (h : Trd w v T) (hs : T.length ≤ 15) :
    Calls Tryz.prog 103 #[.agg #[v]] w fun e w' => ∃ r, e = .returned r ∧ Ints w.heap.size w' r (mems T) ∧ Below w.heap.size w w' := by
  obtain ⟨i0, hi, hz0, hz1, hz2⟩ := info_parts Tryz.infoInt
  obtain ⟨a, c, rfl⟩ := h.slice
  have hl := h.len
  have KL := leaves_any a T.length c (bxw w (.slice a T.length c)) hl
  have KB : ∀ W, Below w.heap.size w W → ∀ x : Nat, x < T.length → _ := fun W hW x hx => blank_any (h.bw hW) hx
  obtain ⟨-, h2⟩ := h.at
  have HX : Hid (∀ i, i < nlv T → 2 * i < T.length) := fun i hi => by unfold nlv at hi; omega
  have HC : Hid (∀ i, i < nlv T → ∃ b o, a = some ⟨b, o, none⟩ ∧ ∀ W, Below w.heap.size w W → W.cell? ⟨b, o + 2 * i * 4 + 1, none⟩ = some (.int .i64 (ndAt T (2 * i)).mem)) := fun i hi => by
    have hx := unhide HX i hi
    obtain ⟨b, o, e, h3⟩ := h2 (by omega)
    exact ⟨b, o, e, fun W hW => by obtain ⟨u, k, _⟩ := h3 W hW (2 * i) hx; exact k.c1⟩
  have hnl : nlv T = (T.length + 1) / 2 := rfl
  rw [← hnl] at KL
  have hn8 : nlv T ≤ 8 := by omega
  have HL : Hid (∀ i, i < nlv T → memsOf ((lvs T).take (i + 1)) = memsOf ((lvs T).take i) ++ if pos (ndAt T (2 * i)) = true then [(ndAt T (2 * i)).mem] else []) := fun i hi => by rw [lvs_take hi, memsOf_snoc]
  have HE : Hid (memsOf ((lvs T).take (nlv T)) = mems T) := by unfold Hid mems; rw [← lvs_len, List.take_length]
  have HN : Hid (∀ i, (memsOf ((lvs T).take i)).length ≤ i) := fun i => Nat.le_trans (memsOf_len _) (by simp; omega)
  have hN15 : (T.length : Int) ≤ 15 := by omega
  clear hl h h2 hnl hs
  generalize hnn : nlv T = n at *
  clear hnn
  generalize T.length = N at *
  go_enter Tryz.func103, Tryz.ntmps103
  go_wp2_with fail
  refine KL.mono ?_
  rintro e w1 ⟨rfl, b1⟩
  go_wp2_with fail
  go_loopw [3, 7] (fun lv iv wr => ∃ i : Nat, iv = .int .i64 (i : Int) ∧ i ≤ n ∧ Ints (bxw w (.slice a N c)).heap.size wr lv (memsOf ((lvs T).take i)) ∧ Below (bxw w (.slice a N c)).heap.size (bxw w (.slice a N c)) wr) (fun _ iv _ => (n - (intOf iv)).toNat)
  case atStart => exact ⟨0, rfl, by omega, ints_nil _ _, b1⟩
  case round =>
    obtain ⟨i, rfl, hin, hown, hbel⟩ := hrel
    clear b1 KL
    by_cases hlt : i < n
    · have q1 : (i : Int) < (n : Int) := by omega
      have hx := unhide HX i hlt
      have KB2 := KB wr (bx_bel hbel) (2 * i) hx
      have c1 := bx_cell hbel
      have hlen := unhide HN i
      have HL2 := hide (unhide HL i hlt)
      obtain ⟨b, o, rfl, hC⟩ := unhide HC i hlt
      have q2 : ∃ x : Nat, x = 2 * i := ⟨_, rfl⟩
      obtain ⟨x, q2⟩ := q2
      rw [← q2] at hx KB2 HL2 hC
      have q3 : (2 * (i : Int)) = (x : Int) := by omega
      clear q2
      generalize (ndAt T x).mem = m at *
      generalize pos (ndAt T x) = p at *
      generalize memsOf ((lvs T).take i) = cur at *
      go_wp2_with fail
      refine KB2.mono ?_
      rintro e w2 ⟨rfl, b2⟩
      have hbel2 := bw_tr hbel b2
      have hown2 := hown.bw b2
      cases p
      · go_wp2_with fail
        go_roundw
        case rel => exact ⟨i + 1, by go_num, by omega, by have := unhide HL2; simp at this; rw [this]; exact hown2, hbel2⟩
        case measure => simp [intOf]; omega
      · have c2 := bx_cell hbel2
        have c3 := hC w2 (bx_bel hbel2)
        have x1 : (x : Int) < (N : Int) := by omega
        have x2 : (0 : Int) ≤ (x : Int) := by omega
        have hsz := hbel2.size
        have hlen2 : cur.length ≤ 8 := by omega
        have HL3 : Hid (memsOf ((lvs T).take (i + 1)) = cur ++ [m]) := by have := unhide HL2; unfold Hid; simpa using this
        clear hC c1 KB2 hown HL2 hlen
        go_wp2_with (at_builtin; refine wpList_append_own _ rfl (.tmp 15) (.tmp 23) 55 rfl (bxw w (.slice (some ⟨b, o, none⟩) N c)).heap.size 3 i0 (.int .i64 0) 1 8 Tryz.underlying55 hi hz0 hz1 hz2 rfl (by decide) _ cur.length _ rfl (World.ownsRow.alloc hown2 _) ⟨w2.heap.size, 0, none⟩ 1 1 [_] rfl rfl (cell_one_new _ _ _) ?c2 ?c3 ?c4 ?c5 ?nx)
        case c2 => intro u hu; simp at hu; subst hu; rfl
        case c3 => unfold maxLen; omega
        case c4 => omega
        case c5 => simp; simp at hsz; omega
        case nx =>
          intro v' w3 hown' hgrow _
          obtain ⟨R1, R2⟩ := ints_snoc m hbel2 hown2 (by simpa using hown') hgrow
          clear hown' hgrow
          go_wp2_with fail
          go_roundw
          case rel => exact ⟨i + 1, by go_num, by omega, by rw [unhide HL3]; exact R1, R2⟩
          case measure => simp [intOf]; omega
    · have hie : i = n := by omega
      subst hie
      rw [unhide HE] at hown
      go_wp2_with fail
      go_ret
      exact ⟨_, rfl, hown.mono (by simp), bx_bel hbel⟩

theorem fnd_hit {T : List Nd} {m : Int} {i : Nat} (hi : i < nlv T) (hno : ∀ j, j < i → hit m (ndAt T (2 * j)) = false) (h : hit m (ndAt T (2 * i)) = true) : fnd T m = (i : Nat) := by
  have e : (lvs T).findIdx (hit m) = i := by
    rw [List.findIdx_eq (by rw [lvs_len]; exact hi)]
    refine ⟨by simpa [lvs] using h, fun j hj => by simpa [lvs] using hno j hj⟩
  unfold fnd; rw [e, if_pos hi]
theorem fnd_none {T : List Nd} {m : Int} (hno : ∀ j, j < nlv T → hit m (ndAt T (2 * j)) = false) : fnd T m = -1 := by
  have e : (lvs T).findIdx (hit m) = (lvs T).length := by
    rw [List.findIdx_eq_length]
    intro n hn
    simp only [lvs, List.mem_map, List.mem_range] at hn
    obtain ⟨j, hj, rfl⟩ := hn
    simpa using hno j hj
  unfold fnd; rw [e, lvs_len, if_neg (by omega)]
theorem fb_hit {T : List Nd} {i : Nat} (hi : i < nlv T) (hno : ∀ j, j < i → pos (ndAt T (2 * j)) = true) (h : pos (ndAt T (2 * i)) = false) : fb T = i := by
  unfold fb
  rw [List.findIdx_eq (by rw [lvs_len]; exact hi)]
  refine ⟨by simpa [lvs] using h, fun j hj => by simpa [lvs] using hno j hj⟩
theorem fb_none {T : List Nd} (hno : ∀ j, j < nlv T → pos (ndAt T (2 * j)) = true) : fb T = nlv T := by
  unfold fb
  rw [← lvs_len, List.findIdx_eq_length]
  intro n hn
  simp only [lvs, List.mem_map, List.mem_range] at hn
  obtain ⟨j, hj, rfl⟩ := hn
  simpa using hno j hj
theorem fb_of {T : List Nd} {i : Nat} (hi : i ≤ nlv T) (hno : ∀ j, j < i → pos (ndAt T (2 * j)) = true) (h : hasL T (i : Nat) = false) : fb T = i := by
  rcases Nat.lt_or_ge i (nlv T) with c | c
  · exact fb_hit c hno (by rw [← hasL_lt (T := T) (i := i) c]; exact h)
  · obtain rfl : i = nlv T := by omega
    exact fb_none hno
theorem hasL_pos {T : List Nd} {i : Nat} (h : hasL T (i : Nat) = true) : i < nlv T ∧ pos (ndAt T (2 * i)) = true := by
  have h2 : i < (T.length + 1) / 2 := by
    apply Decidable.byContradiction; intro c; rw [hasL_ge c] at h; cases h
  exact ⟨h2, by rw [← hasL_lt h2]; exact h⟩
end Go.Proofs.YtcbafeneaoaglaaGreatDoor
