/- Contracts of what package tree asks of a tree by itself, continued. -/
import Derived.Test.YtpgppnmobbgefaaGreatDoorTrA
namespace Go.Proofs.YtpgppnmobbgefaaGreatDoor
open Go.RowKit Go.Maps

theorem withRoom_any (n i : Nat) (w : World) (hn : n ≤ 1000) :
    Calls Tryz.prog 157 #[.int .i64 (n : Int), .int .i64 (i : Int)] w fun e w' => e = .returned (.int .i64 (wRoom n i : Nat)) ∧ w' = w := by
  by_cases h : i < n
  · have h1 : (i : Int) < (n : Int) := by omega
    have e : wRoom n i = n := by simp [wRoom, h]
    rw [e]
    go_enter Tryz.func157, Tryz.ntmps157
    go_wp2
    go_ret
    exact ⟨rfl, rfl⟩
  · have h1 : ¬ (i : Int) < (n : Int) := by omega
    rcases Nat.eq_zero_or_pos n with h0 | h0
    · subst h0
      have e : wRoom 0 i = 1 := by simp [wRoom]
      rw [e]
      go_enter Tryz.func157, Tryz.ntmps157
      go_wp2
      go_ret
      exact ⟨rfl, rfl⟩
    · have e : wRoom n i = 2 * n := by simp [wRoom, h]; omega
      rw [e]
      have h2 : (1 : Int) < 2 * (n : Int) := by omega
      go_enter Tryz.func157, Tryz.ntmps157
      go_wp2
      go_ret
      exact ⟨rfl, rfl⟩
theorem hasL_lt {T : List Nd} {i : Nat} (h : i < (T.length + 1) / 2) : hasL T (i : Int) = pos (ndAt T (2 * i)) := by
  unfold hasL nlv
  have h2 : ((i : Nat) : Int) < (((T.length + 1) / 2 : Nat) : Int) := by omega
  rw [decide_eq_true h2, decide_eq_true (by omega)]; simp
theorem hasL_ge {T : List Nd} {i : Nat} (h : ¬ i < (T.length + 1) / 2) : hasL T (i : Int) = false := by
  unfold hasL nlv
  have h2 : ¬ ((i : Nat) : Int) < (((T.length + 1) / 2 : Nat) : Int) := by omega
  rw [decide_eq_false h2]; simp
/-- The box of a tree that was handed in. -/
abbrev bxw (w : World) (v : Value) : World := w.alloc (.cells #[v] 24)
theorem bx_cell {w w1 : World} {v : Value} (hb : Below (bxw w v).heap.size (bxw w v) w1) : w1.cell? ⟨w.heap.size, 0, none⟩ = some v := by
  have e : w1.heap[w.heap.size]? = some (.cells #[v] 24 (0, 0)) := by rw [hb.block _ (by simp)]; exact heap_alloc_new _ _
  simp [World.cell?, e]
theorem bx_bel {w w1 : World} {v : Value} (hb : Below (bxw w v).heap.size (bxw w v) w1) : Below w.heap.size w w1 := bw_tr (bwA _ _) hb
set_option maxHeartbeats 1000000 in
theorem hasLeaf_any {w : World} {v : Value} {T : List Nd} (h : Trd w v T) (hs : T.length ≤ 15) (i : Int) :
    Calls Tryz.prog 168 #[.agg #[v], .int .i64 i] w fun e w' => e = .returned (.bool (hasL T i)) ∧ Below w.heap.size w w' := by
  obtain ⟨a, c, rfl⟩ := h.slice
  have hl := h.len
  have KL : ∀ W, _ := fun W => leaves_any a T.length c W hl
  clear hl
  have KB : ∀ W, Below w.heap.size w W → ∀ x : Nat, x < T.length → _ := fun W hW x hx => blank_any (h.bw hW) hx
  by_cases g1 : 0 ≤ i
  · obtain ⟨n, rfl⟩ : ∃ n : Nat, i = n := ⟨i.toNat, by omega⟩
    obtain ⟨r, hr⟩ : ∃ r, r = hasL T (n : Int) := ⟨_, rfl⟩
    have hr2 : ¬ n < (T.length + 1) / 2 → r = false := fun q => hr.trans (hasL_ge q)
    have hr1 : n < (T.length + 1) / 2 → r = pos (ndAt T (2 * n)) := fun q => hr.trans (hasL_lt q)
    have KB2 := KB
    rw [← hr]
    clear hr h KB
    generalize T.length = N at *
    by_cases g : n < (N + 1) / 2
    · have q1 : ((n : Nat) : Int) < (((N + 1) / 2 : Nat) : Int) := by omega
      obtain ⟨x, hx⟩ : ∃ x : Nat, x = 2 * n := ⟨_, rfl⟩
      rw [hr1 g, ← hx]
      have KB3 := fun W hW => KB2 W hW x (by omega)
      have q2 : (2 * (n : Int)) = (x : Int) := by omega
      clear hr1 hr2 KB2 hx
      generalize pos (ndAt T x) = p at *
      have hm2 : (N + 1) / 2 ≤ 8 := by omega
      generalize (N + 1) / 2 = m at *
      go_enter Tryz.func168, Tryz.ntmps168
      go_wp2_with fail
      refine (KL _).mono ?_
      rintro e w1 ⟨rfl, b1⟩
      have c1 := bx_cell b1
      have KB4 := KB3 w1 (bx_bel b1)
      have b2 := hide (bx_bel b1)
      clear b1 KL KB3
      go_wp2_with fail
      refine KB4.mono ?_
      rintro e w2 ⟨rfl, b3⟩
      go_wp2
      go_ret
      exact ⟨by simp, bw_tr (unhide b2) b3⟩
    · rw [hr2 g]
      have q1 : ¬ ((n : Nat) : Int) < (((N + 1) / 2 : Nat) : Int) := by omega
      clear hr1 hr2 KB2
      have q2 : decide ((n : Int) < (((N + 1) / 2 : Nat) : Int)) = false := decide_eq_false q1
      generalize (N + 1) / 2 = m at *
      go_enter Tryz.func168, Tryz.ntmps168
      go_wp2_with fail
      refine (KL _).mono ?_
      rintro e w1 ⟨rfl, b1⟩
      go_wp2
      go_ret
      exact ⟨rfl, bx_bel b1⟩
  · have e : hasL T i = false := by unfold hasL; simp [g1]
    rw [e]
    have g2 : decide (0 ≤ i) = false := by simp [g1]
    go_enter Tryz.func168, Tryz.ntmps168
    go_wp2
    go_ret
    exact ⟨rfl, bwA _ _⟩

theorem anyM_succ (T : List Nd) (a i : Nat) : anyM T a (i + 1) = (anyM T a i || (decide (a ≤ i) && pos (ndAt T (2 * i)))) := by
  unfold anyM; rw [List.range_succ, List.any_append]; simp
theorem anyM_self (T : List Nd) (a : Nat) : anyM T a a = false := by
  unfold anyM; rw [List.any_eq_false]; intro x hx; have := List.mem_range.1 hx; simp; intro; omega
theorem anyM_mono {T : List Nd} {a i b : Nat} (h : anyM T a i = true) (hb : i ≤ b) : anyM T a b = true := by
  unfold anyM at *
  rw [List.any_eq_true] at *
  obtain ⟨x, hx, h2⟩ := h
  exact ⟨x, by have := List.mem_range.1 hx; exact List.mem_range.2 (by omega), h2⟩
set_option maxHeartbeats 1000000 in
theorem anyMember_any {w : World} {v : Value} {T : List Nd} (h : Trd w v T) (hs : T.length ≤ 15) (a b : Nat) (hab : a ≤ b) (hb : b ≤ nlv T) :
    Calls Tryz.prog 187 #[.agg #[v], .int .i64 (a : Int), .int .i64 (b : Int)] w fun e w' => e = .returned (.bool (anyM T a b)) ∧ Below w.heap.size w w' := by
  have hl := h.len
  have hnl : nlv T = (T.length + 1) / 2 := rfl
  have KB : ∀ W, Below w.heap.size w W → ∀ x : Nat, x < T.length → _ := fun W hW x hx => blank_any (h.bw hW) hx
  have HX : Hid (∀ i, i < b → 2 * i < T.length) := fun i hi => by omega
  have hb2 : b ≤ 8 := by omega
  clear h hl hnl hb
  go_enter Tryz.func187, Tryz.ntmps187
  go_wp2_with fail
  go_loopw [7] (fun iv wr => ∃ i : Nat, iv = .int .i64 (i : Int) ∧ a ≤ i ∧ i ≤ b ∧ Hid (anyM T a i = false) ∧ Below (bxw w v).heap.size (bxw w v) wr) (fun iv _ => (b - (intOf iv)).toNat)
  case atStart => exact ⟨a, rfl, Nat.le_refl _, hab, anyM_self T a, Below.refl _ _⟩
  case round =>
    obtain ⟨i, rfl, hai, hi, hno, hbel⟩ := hrel
    by_cases hin : i < b
    · have q1 : (i : Int) < (b : Int) := by omega
      obtain ⟨x, hx⟩ : ∃ x : Nat, x = 2 * i := ⟨_, rfl⟩
      have q2 : (2 * (i : Int)) = (x : Int) := by omega
      have KB2 := KB wr (bx_bel hbel) x (by rw [hx]; exact unhide HX i hin)
      have c1 := bx_cell hbel
      have HP : Hid (anyM T a (i + 1) = pos (ndAt T x)) := by unfold Hid; rw [anyM_succ, unhide hno, decide_eq_true hai, hx]; simp
      clear hx
      generalize pos (ndAt T x) = p at *
      go_wp2_with fail
      refine KB2.mono ?_
      rintro e w1 ⟨rfl, b1⟩
      cases p
      · go_wp2_with fail
        go_roundw
        case rel => exact ⟨i + 1, by go_num, by omega, by omega, HP, bw_tr hbel b1⟩
        case measure => simp [intOf]; omega
      · go_wp2
        go_ret
        rw [anyM_mono (unhide HP) (by omega)]
        exact ⟨rfl, bw_tr (bx_bel hbel) b1⟩
    · have hie : i = b := by omega
      subst hie
      go_wp2_with fail
      go_ret
      rw [unhide hno]
      exact ⟨rfl, bx_bel hbel⟩

theorem lvs_len (T : List Nd) : (lvs T).length = nlv T := by simp [lvs]
theorem lvs_get {T : List Nd} {i : Nat} (h : i < nlv T) : (lvs T)[i]? = some (ndAt T (2 * i)) := by simp [lvs, h]
theorem lvs_take {T : List Nd} {i : Nat} (h : i < nlv T) : (lvs T).take (i + 1) = (lvs T).take i ++ [ndAt T (2 * i)] := by rw [List.take_add_one, lvs_get h]; rfl
theorem memsOf_snoc (L : List Nd) (n : Nd) : memsOf (L ++ [n]) = memsOf L ++ if pos n = true then [n.mem] else [] := by
  unfold memsOf; rw [List.filter_append, List.map_append]; cases h : pos n <;> simp [h]
theorem memsOf_len (L : List Nd) : (memsOf L).length ≤ L.length := by unfold memsOf; rw [List.length_map]; exact List.length_filter_le _ _
set_option maxRecDepth 100000 in
set_option maxHeartbeats 1000000 in
theorem members_any {w : World} {v : Value} {T : List Nd} (h : Trd w v T) (hs : T.length ≤ 15) :
    Calls Tryz.prog 47 #[.agg #[v]] w fun e w' => ∃ r, e = .returned r ∧ Ints w.heap.size w' r (mems T) ∧ Below w.heap.size w w' := by
  obtain ⟨i0, hi, hz0, hz1, hz2⟩ := info_parts Tryz.infoInt
  obtain ⟨a, c, rfl⟩ := h.slice
  have hl := h.len
  have KL := leaves_any a T.length c (bxw w (.slice a T.length c)) hl
  have KB : ∀ W, Below w.heap.size w W → ∀ x : Nat, x < T.length → _ := fun W hW x hx => blank_any (h.bw hW) hx
  obtain ⟨-, h2⟩ := h.at
  have HX : Hid (∀ i, i < nlv T → 2 * i < T.length) := fun i hi => by unfold nlv at hi; omega
  have HC : Hid (∀ i, i < nlv T → ∃ b o, a = some ⟨b, o, none⟩ ∧ ∀ W, Below w.heap.size w W → W.cell? ⟨b, o + 2 * i * 4 + 1, none⟩ = some (.int .i64 (ndAt T (2 * i)).mem)) := fun i hi => by
    have hx := unhide HX i hi
    obtain ⟨b, o, e, h3⟩ := h2 (by omega)
    exact ⟨b, o, e, fun W hW => by obtain ⟨u, k, _⟩ := h3 W hW (2 * i) hx; exact k.c1⟩
  have hnl : nlv T = (T.length + 1) / 2 := rfl
  rw [← hnl] at KL
  have hn8 : nlv T ≤ 8 := by omega
  have HL : Hid (∀ i, i < nlv T → memsOf ((lvs T).take (i + 1)) = memsOf ((lvs T).take i) ++ if pos (ndAt T (2 * i)) = true then [(ndAt T (2 * i)).mem] else []) := fun i hi => by rw [lvs_take hi, memsOf_snoc]
  have HE : Hid (memsOf ((lvs T).take (nlv T)) = mems T) := by unfold Hid mems; rw [← lvs_len, List.take_length]
  have HN : Hid (∀ i, (memsOf ((lvs T).take i)).length ≤ i) := fun i => Nat.le_trans (memsOf_len _) (by simp; omega)
  have hN15 : (T.length : Int) ≤ 15 := by omega
  clear hl h h2 hnl hs
  generalize hnn : nlv T = n at *
  clear hnn
  generalize T.length = N at *
  go_enter Tryz.func47, Tryz.ntmps47
  go_wp2_with fail
  refine KL.mono ?_
  rintro e w1 ⟨rfl, b1⟩
  go_wp2_with fail
  go_loopw [3, 7] (fun lv iv wr => ∃ i : Nat, iv = .int .i64 (i : Int) ∧ i ≤ n ∧ Ints (bxw w (.slice a N c)).heap.size wr lv (memsOf ((lvs T).take i)) ∧ Below (bxw w (.slice a N c)).heap.size (bxw w (.slice a N c)) wr) (fun _ iv _ => (n - (intOf iv)).toNat)
  case atStart => exact ⟨0, rfl, by omega, ints_nil _ _, b1⟩
  case round =>
    obtain ⟨i, rfl, hin, hown, hbel⟩ := hrel
    clear b1 KL
    by_cases hlt : i < n
    · have q1 : (i : Int) < (n : Int) := by omega
      have hx := unhide HX i hlt
      have KB2 := KB wr (bx_bel hbel) (2 * i) hx
      have c1 := bx_cell hbel
      have hlen := unhide HN i
      have HL2 := hide (unhide HL i hlt)
      obtain ⟨b, o, rfl, hC⟩ := unhide HC i hlt
      have q2 : ∃ x : Nat, x = 2 * i := ⟨_, rfl⟩
      obtain ⟨x, q2⟩ := q2
      rw [← q2] at hx KB2 HL2 hC
      have q3 : (2 * (i : Int)) = (x : Int) := by omega
      clear q2
      generalize (ndAt T x).mem = m at *
      generalize pos (ndAt T x) = p at *
      generalize memsOf ((lvs T).take i) = cur at *
      go_wp2_with fail
      refine KB2.mono ?_
      rintro e w2 ⟨rfl, b2⟩
      have hbel2 := bw_tr hbel b2
      have hown2 := hown.bw b2
      cases p
      · go_wp2_with fail
        go_roundw
        case rel => exact ⟨i + 1, by go_num, by omega, by have := unhide HL2; simp at this; rw [this]; exact hown2, hbel2⟩
        case measure => simp [intOf]; omega
      · have c2 := bx_cell hbel2
        have c3 := hC w2 (bx_bel hbel2)
        have x1 : (x : Int) < (N : Int) := by omega
        have x2 : (0 : Int) ≤ (x : Int) := by omega
        have hsz := hbel2.size
        have hlen2 : cur.length ≤ 8 := by omega
        have HL3 : Hid (memsOf ((lvs T).take (i + 1)) = cur ++ [m]) := by have := unhide HL2; unfold Hid; simpa using this
        clear hC c1 KB2 hown HL2 hlen
        go_wp2_with (at_builtin; refine wpList_append_own _ rfl (.tmp 15) (.tmp 23) 31 rfl (bxw w (.slice (some ⟨b, o, none⟩) N c)).heap.size 3 i0 (.int .i64 0) 1 8 Tryz.underlying31 hi hz0 hz1 hz2 rfl (by decide) _ cur.length _ rfl (World.ownsRow.alloc hown2 _) ⟨w2.heap.size, 0, none⟩ 1 1 [_] rfl rfl (cell_one_new _ _ _) ?c2 ?c3 ?c4 ?c5 ?nx)
        case c2 => intro u hu; simp at hu; subst hu; rfl
        case c3 => unfold maxLen; omega
        case c4 => omega
        case c5 => simp; simp at hsz; omega
        case nx =>
          intro v' w3 hown' hgrow _
          obtain ⟨R1, R2⟩ := ints_snoc m hbel2 hown2 (by simpa using hown') hgrow
          clear hown' hgrow
          go_wp2_with fail
          go_roundw
          case rel => exact ⟨i + 1, by go_num, by omega, by rw [unhide HL3]; exact R1, R2⟩
          case measure => simp [intOf]; omega
    · have hie : i = n := by omega
      subst hie
      rw [unhide HE] at hown
      go_wp2_with fail
      go_ret
      exact ⟨_, rfl, hown.mono (by simp), bx_bel hbel⟩

theorem fnd_hit {T : List Nd} {m : Int} {i : Nat} (hi : i < nlv T) (hno : ∀ j, j < i → hit m (ndAt T (2 * j)) = false) (h : hit m (ndAt T (2 * i)) = true) : fnd T m = (i : Nat) := by
  have e : (lvs T).findIdx (hit m) = i := by
    rw [List.findIdx_eq (by rw [lvs_len]; exact hi)]
    refine ⟨by simpa [lvs] using h, fun j hj => by simpa [lvs] using hno j hj⟩
  unfold fnd; rw [e, if_pos hi]
theorem fnd_none {T : List Nd} {m : Int} (hno : ∀ j, j < nlv T → hit m (ndAt T (2 * j)) = false) : fnd T m = -1 := by
  have e : (lvs T).findIdx (hit m) = (lvs T).length := by
    rw [List.findIdx_eq_length]
    intro n hn
    simp only [lvs, List.mem_map, List.mem_range] at hn
    obtain ⟨j, hj, rfl⟩ := hn
    simpa using hno j hj
  unfold fnd; rw [e, lvs_len, if_neg (by omega)]
set_option maxRecDepth 100000 in
set_option maxHeartbeats 1000000 in
theorem find_any {w : World} {v : Value} {T : List Nd} (h : Trd w v T) (hs : T.length ≤ 15) (m : Int) :
    Calls Tryz.prog 46 #[.agg #[v], .int .i64 m] w fun e w' => e = .returned (.int .i64 (fnd T m)) ∧ Below w.heap.size w w' := by
  obtain ⟨a, c, rfl⟩ := h.slice
  have hl := h.len
  obtain ⟨w0, hw0⟩ : ∃ w0, w0 = bxw w (.slice a T.length c) := ⟨_, rfl⟩
  have HB : Hid (∀ W, Below w0.heap.size w0 W → W.cell? ⟨w.heap.size, 0, none⟩ = some (.slice a T.length c) ∧ Below w.heap.size w W) := fun W hW => by subst hw0; exact ⟨bx_cell hW, bx_bel hW⟩
  have KL := leaves_any a T.length c w0 hl
  have KB : ∀ W, Below w.heap.size w W → ∀ x : Nat, x < T.length → _ := fun W hW x hx => blank_any (h.bw hW) hx
  obtain ⟨-, h2⟩ := h.at
  have HX : Hid (∀ i, i < nlv T → 2 * i < T.length) := fun i hi => by unfold nlv at hi; omega
  have HC : Hid (∀ i, i < nlv T → ∃ b o, a = some ⟨b, o, none⟩ ∧ ∀ W, Below w.heap.size w W → W.cell? ⟨b, o + 2 * i * 4 + 1, none⟩ = some (.int .i64 (ndAt T (2 * i)).mem)) := fun i hi => by
    have hx := unhide HX i hi
    obtain ⟨b, o, e, h3⟩ := h2 (by omega)
    exact ⟨b, o, e, fun W hW => by obtain ⟨u, k, _⟩ := h3 W hW (2 * i) hx; exact k.c1⟩
  have hnl : nlv T = (T.length + 1) / 2 := rfl
  rw [← hnl] at KL
  have hn8 : nlv T ≤ 8 := by omega
  have HR1 : Hid (∀ i, i < nlv T → (∀ j, j < i → hit m (ndAt T (2 * j)) = false) → hit m (ndAt T (2 * i)) = true → fnd T m = (i : Nat)) := fun i hi h1 h2 => fnd_hit hi h1 h2
  have HR2 : Hid ((∀ j, j < nlv T → hit m (ndAt T (2 * j)) = false) → fnd T m = -1) := fnd_none
  have hN15 : (T.length : Int) ≤ 15 := by omega
  have HW : Hid (w0 = w.alloc (.cells #[.slice a T.length c] 24)) := hw0
  clear hl h h2 hnl hs hw0
  generalize hnn : nlv T = n at *
  clear hnn
  obtain ⟨N, hN⟩ : ∃ N, N = T.length := ⟨_, rfl⟩
  rw [← hN] at KL HB HW hN15
  go_enter Tryz.func46, Tryz.ntmps46
  go_wp2_with fail
  rw [← hN, ← unhide HW]
  refine KL.mono ?_
  rintro e w1 ⟨rfl, b1⟩
  simp only [← hN] at KB HX
  clear hN
  go_wp2_with fail
  go_loopw [8] (fun iv wr => ∃ i : Nat, iv = .int .i64 (i : Int) ∧ i ≤ n ∧ Hid (∀ j, j < i → hit m (ndAt T (2 * j)) = false) ∧ Below w0.heap.size w0 wr) (fun iv _ => (n - (intOf iv)).toNat)
  case atStart => exact ⟨0, rfl, by omega, fun j hj => by omega, b1⟩
  case round =>
    obtain ⟨i, rfl, hin, hno, hbel⟩ := hrel
    clear b1 KL
    obtain ⟨c1, hbw⟩ := unhide HB _ hbel
    by_cases hlt : i < n
    · have q1 : (i : Int) < (n : Int) := by omega
      have hx := unhide HX i hlt
      have KB2 := KB wr hbw (2 * i) hx
      have HT1 := hide (unhide HR1 i hlt (unhide hno))
      have HN1 : Hid (hit m (ndAt T (2 * i)) = false → ∀ j, j < i + 1 → hit m (ndAt T (2 * j)) = false) := fun q j hj => by
        rcases Nat.lt_or_ge j i with c | c
        · exact unhide hno j c
        · obtain rfl : j = i := by omega
          exact q
      obtain ⟨b, o, rfl, hC⟩ := unhide HC i hlt
      have hh : Hid (hit m (ndAt T (2 * i)) = (pos (ndAt T (2 * i)) && (ndAt T (2 * i)).mem == m)) := rfl
      obtain ⟨x, q2⟩ : ∃ x : Nat, x = 2 * i := ⟨_, rfl⟩
      rw [← q2] at hx KB2 hC HT1 HN1 hh
      have q3 : (2 * (i : Int)) = (x : Int) := by omega
      clear q2
      generalize (ndAt T x).mem = mm at *
      generalize hit m (ndAt T x) = hm at *
      generalize pos (ndAt T x) = p at *
      have x1 : (x : Int) < (N : Int) := by omega
      have x2 : (0 : Int) ≤ (x : Int) := by omega
      go_wp2_with fail
      refine KB2.mono ?_
      rintro e w2 ⟨rfl, b2⟩
      have hbel2 := bw_tr hbel b2
      obtain ⟨c2, hbw2⟩ := unhide HB _ hbel2
      have c3 := hC _ hbw2
      clear hC KB2 c1
      cases p
      · go_wp2_with fail
        go_roundw
        case rel => exact ⟨i + 1, by go_num, by omega, unhide HN1 (by rw [unhide hh]; rfl), hbel2⟩
        case measure => simp [intOf]; omega
      · by_cases hmm : mm = m
        · have k1 : (mm == m) = true := by simp [hmm]
          have HF := hide (unhide HT1 (by rw [unhide hh, k1]; rfl))
          clear k1 hh HT1 HN1
          go_wp2_with fail
          go_ret
          rw [unhide HF]
          exact ⟨rfl, hbw2⟩
        · have k1 : (mm == m) = false := by simp [hmm]
          have HF := hide (unhide HN1 (by rw [unhide hh, k1]; rfl))
          go_wp2_with fail
          go_roundw
          case rel => exact ⟨i + 1, by go_num, by omega, HF, hbel2⟩
          case measure => simp [intOf]; omega
    · have hie : i = n := by omega
      subst hie
      have HF := hide (unhide HR2 (unhide hno))
      go_wp2_with fail
      go_ret
      rw [unhide HF]
      exact ⟨rfl, hbw⟩

theorem fb_hit {T : List Nd} {i : Nat} (hi : i < nlv T) (hno : ∀ j, j < i → pos (ndAt T (2 * j)) = true) (h : pos (ndAt T (2 * i)) = false) : fb T = i := by
  unfold fb
  rw [List.findIdx_eq (by rw [lvs_len]; exact hi)]
  refine ⟨by simpa [lvs] using h, fun j hj => by simpa [lvs] using hno j hj⟩
theorem fb_none {T : List Nd} (hno : ∀ j, j < nlv T → pos (ndAt T (2 * j)) = true) : fb T = nlv T := by
  unfold fb
  rw [← lvs_len, List.findIdx_eq_length]
  intro n hn
  simp only [lvs, List.mem_map, List.mem_range] at hn
  obtain ⟨j, hj, rfl⟩ := hn
  simpa using hno j hj
theorem fb_of {T : List Nd} {i : Nat} (hi : i ≤ nlv T) (hno : ∀ j, j < i → pos (ndAt T (2 * j)) = true) (h : hasL T (i : Nat) = false) : fb T = i := by
  rcases Nat.lt_or_ge i (nlv T) with c | c
  · exact fb_hit c hno (by rw [← hasL_lt (T := T) (i := i) c]; exact h)
  · obtain rfl : i = nlv T := by omega
    exact fb_none hno
theorem hasL_pos {T : List Nd} {i : Nat} (h : hasL T (i : Nat) = true) : i < nlv T ∧ pos (ndAt T (2 * i)) = true := by
  have h2 : i < (T.length + 1) / 2 := by
    apply Decidable.byContradiction; intro c; rw [hasL_ge c] at h; cases h
  exact ⟨h2, by rw [← hasL_lt h2]; exact h⟩
set_option maxRecDepth 100000 in
set_option maxHeartbeats 1000000 in
theorem firstBlank_any {w : World} {v : Value} {T : List Nd} (h : Trd w v T) (hs : T.length ≤ 15) :
    Calls Tryz.prog 155 #[.agg #[v]] w fun e w' => e = .returned (.int .i64 (fb T : Nat)) ∧ Below w.heap.size w w' := by
  obtain ⟨w0, hw0⟩ : ∃ w0, w0 = bxw w v := ⟨_, rfl⟩
  have HB : Hid (∀ W, Below w0.heap.size w0 W → W.cell? ⟨w.heap.size, 0, none⟩ = some v ∧ Below w.heap.size w W) := fun W hW => by subst hw0; exact ⟨bx_cell hW, bx_bel hW⟩
  have KH : Hid (∀ (W : World) (i : Int), Below w.heap.size w W → Calls Tryz.prog 168 #[.agg #[v], .int .i64 i] W fun e w' => e = .returned (.bool (hasL T i)) ∧ Below W.heap.size W w') := fun W i hW => hasLeaf_any (h.bw hW) hs i
  have hn8 : nlv T ≤ 8 := by unfold nlv; omega
  have HW := hide hw0
  have hr0 : Below w0.heap.size w0 (bxw w v) := by rw [hw0]; exact Below.refl _ _
  clear h hw0 hs
  go_enter Tryz.func155, Tryz.ntmps155
  go_wp2_with fail
  go_loopw [3] (fun iv wr => ∃ i : Nat, iv = .int .i64 (i : Int) ∧ i ≤ nlv T ∧ Hid (∀ j, j < i → pos (ndAt T (2 * j)) = true) ∧ Below w0.heap.size w0 wr) (fun iv _ => (9 - (intOf iv)).toNat)
  case atStart => exact ⟨0, rfl, by omega, fun j hj => by omega, hr0⟩
  case round =>
    obtain ⟨i, rfl, hin, hno, hbel⟩ := hrel
    obtain ⟨c1, hbw⟩ := unhide HB _ hbel
    have K := unhide KH wr (i : Int) hbw
    have HO : Hid (hasL T (i : Nat) = false → fb T = i) := fun q => fb_of hin (unhide hno) q
    have HP : Hid (hasL T (i : Nat) = true → i < nlv T ∧ ∀ j, j < i + 1 → pos (ndAt T (2 * j)) = true) := fun q => by
      obtain ⟨q1, q2⟩ := hasL_pos q
      refine ⟨q1, fun j hj => ?_⟩
      rcases Nat.lt_or_ge j i with c | c
      · exact unhide hno j c
      · obtain rfl : j = i := by omega
        exact q2
    generalize hasL T (i : Int) = p at *
    go_wp2_with fail
    refine K.mono ?_
    rintro e w2 ⟨rfl, b2⟩
    have hbel2 := bw_tr hbel b2
    cases p
    · have HO2 := hide (unhide HO rfl)
      clear HO HP
      go_wp2_with fail
      go_ret
      rw [unhide HO2]
      exact ⟨rfl, (unhide HB _ hbel2).2⟩
    · obtain ⟨q1, q2⟩ := unhide HP rfl
      have HQ := hide q2
      clear q2
      go_wp2_with fail
      go_roundw
      case rel => exact ⟨i + 1, by go_num, by omega, HQ, hbel2⟩
      case measure => simp [intOf]; omega
end Go.Proofs.YtpgppnmobbgefaaGreatDoor
