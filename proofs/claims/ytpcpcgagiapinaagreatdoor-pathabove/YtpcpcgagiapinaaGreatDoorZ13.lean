/- Texts joined: TrS TeA TeB TtF. -/
import Derived.Test.YtpcpcgagiapinaaGreatDoorZ10
import Derived.Test.YtpcpcgagiapinaaGreatDoorZ03
import Derived.Test.YtpcpcgagiapinaaGreatDoorZ12
/- What the laws of layer 8 ask besides: TreeSize, Beyond, SameNode, has, names. -/
namespace Go.Proofs.YtpcpcgagiapinaaGreatDoor
open Go.RowKit Go.Maps
set_option maxHeartbeats 400000 in
theorem beyond8 (b : Nat) (n : Nat) (c : Nat) (w : World) (hn : n ≤ 1125899906842624) (h0 : w.cell? ⟨b, 0, none⟩ = some (.int .i64 n)) :
    Calls Tryz.prog 16 #[.slice (some ⟨b, 0, none⟩) 1 c] w fun e w' => e = .returned (.bool (decide (262144 < n))) ∧ w' = w := by
  by_cases hb : 262144 < n
  · rw [decide_eq_true hb]
    go_enter Tryz.func16, Tryz.ntmps16
    go_wp2
    refine wp_loop_rounds 1 ?_
    rw [rounds_succ]
    go_wp2
    go_ret
    exact ⟨rfl, rfl⟩
  · rw [decide_eq_false hb]
    go_enter Tryz.func16, Tryz.ntmps16
    go_wp2
    refine wp_loop_rounds 2 ?_
    rw [rounds_succ]
    go_wp2
    rw [rounds_succ]
    go_wp2
    go_ret
    exact ⟨rfl, rfl⟩
end Go.Proofs.YtpcpcgagiapinaaGreatDoor

/- The contracts of SameNodes and SameTree, of two trees that read alike; the document's free and rising. -/
namespace Go.Proofs.YtpcpcgagiapinaaGreatDoor
open Go.RowKit Go.Maps
theorem fb_hit9 {T : List Nd} {i : Nat} (hi : i < nlv T) (hno : ∀ j, j < i → pos (ndAt T (2 * j)) = true) (h : pos (ndAt T (2 * i)) = false) : fb T = i := by
  unfold fb
  rw [List.findIdx_eq (by rw [lvs_len]; exact hi)]
  refine ⟨by simpa [lvs] using h, fun j hj => by simpa [lvs] using hno j hj⟩
theorem fb_none9 {T : List Nd} (hno : ∀ j, j < nlv T → pos (ndAt T (2 * j)) = true) : fb T = nlv T := by
  have e : (lvs T).findIdx (fun n => !pos n) = (lvs T).length := by
    rw [List.findIdx_eq_length]
    intro n hn
    simp only [lvs, List.mem_map, List.mem_range] at hn
    obtain ⟨j, hj, rfl⟩ := hn
    simpa using hno j hj
  unfold fb; rw [e, lvs_len]
set_option maxRecDepth 100000 in
set_option maxHeartbeats 1000000 in
theorem rfree_any {w : World} {v : Value} {T : List Nd} (h : Trd w v T) (hs : T.length ≤ 15) :
    Calls Tryz.prog 104 #[.agg #[v]] w fun e w' => e = .returned (.int .i64 (if fb T < nlv T then (fb T : Nat) else -1)) ∧ Below w.heap.size w w' := by
  obtain ⟨r, hr⟩ : ∃ r : Int, r = if fb T < nlv T then ((fb T : Nat) : Int) else -1 := ⟨_, rfl⟩
  rw [← hr]
  obtain ⟨a, c, rfl⟩ := h.slice
  obtain ⟨-, h2⟩ := h.at
  obtain ⟨w0, hw0⟩ : ∃ w0, w0 = bxw w (.slice a T.length c) := ⟨_, rfl⟩
  have hb0 : Below w.heap.size w w0 := by rw [hw0]; exact bwA _ _
  have c0 : w0.cell? ⟨w.heap.size, 0, none⟩ = some (.slice a T.length c) := by rw [hw0]; exact bx_cell (Below.refl _ _)
  have HW : Hid (w0 = w.alloc (.cells #[.slice a T.length c] 44)) := hw0
  have HC : Hid (∀ x, x < T.length → ∃ b o, a = some ⟨b, o, none⟩ ∧ w0.cell? ⟨b, o + x * 4, none⟩ = some (.int .i64 (ndAt T x).pub)) := fun x hx => by
    obtain ⟨b, o, e, h3⟩ := h2 (by omega)
    exact ⟨b, o, e, by obtain ⟨u, k, _⟩ := h3 w0 hb0 x hx; exact k.c0⟩
  have HN : Hid (nlv T = (T.length + 1) / 2) := rfl
  have HR1 : Hid (∀ i, i < nlv T → (∀ j, j < i → pos (ndAt T (2 * j)) = true) → pos (ndAt T (2 * i)) = false → r = (i : Nat)) := fun i hi h1 h2 => by rw [hr, fb_hit9 hi h1 h2, if_pos hi]
  have HR2 : Hid ((∀ j, j < nlv T → pos (ndAt T (2 * j)) = true) → r = -1) := fun h1 => by rw [hr, fb_none9 h1, if_neg (by omega)]
  have hs1 : (T.length : Int) ≤ 15 := by omega
  clear h h2 hw0 hs hr
  generalize hnn : nlv T = n at *
  clear hnn
  generalize T.length = N at *
  go_enter Tryz.func104, Tryz.ntmps104
  go_upto_region 1 with fail
  rw [← unhide HW]
  go_wp2_with fail
  go_loopw [3] (fun iv wr => ∃ i x : Nat, iv = .int .i64 (x : Int) ∧ Hid (x = 2 * i ∧ i ≤ n ∧ ∀ j, j < i → pos (ndAt T (2 * j)) = true) ∧ wr = w0) (fun iv _ => (N + 2 - (intOf iv)).toNat)
  case atStart => exact ⟨0, 0, rfl, ⟨rfl, by omega, fun j hj => by omega⟩, rfl⟩
  case round =>
    obtain ⟨i, x, rfl, hx, rfl⟩ := hrel
    by_cases hin : x < N
    · have q1 : (x : Int) < (N : Int) := by omega
      have q0 : (0 : Int) ≤ (x : Int) := by omega
      obtain ⟨b, o, rfl, cp⟩ := unhide HC x hin
      have HT : Hid (pos (ndAt T x) = false → r = (i : Nat)) := fun q => by
        have hx' := unhide hx
        have := unhide HN
        exact unhide HR1 i (by omega) hx'.2.2 (by rw [← hx'.1]; exact q)
      have HF : Hid (pos (ndAt T x) = true → x + 2 = 2 * (i + 1) ∧ i + 1 ≤ n ∧ ∀ j, j < i + 1 → pos (ndAt T (2 * j)) = true) := fun q => by
        have hx' := unhide hx
        have := unhide HN
        refine ⟨by omega, by omega, fun j hj => ?_⟩
        rcases Nat.lt_or_ge j i with c | c
        · exact hx'.2.2 j c
        · obtain rfl : j = i := by omega
          rw [← hx'.1]; exact q
      have hxi : (x : Int) / 2 = (i : Int) := by have := (unhide hx).1; omega
      have hh : pos (ndAt T x) = ((ndAt T x).pub != 0) := rfl
      rw [hh] at HT HF
      clear hx hh
      generalize (ndAt T x).pub = p at *
      by_cases k : p = 0
      · obtain rfl : r = (i : Nat) := unhide HT (by simp [k])
        subst k
        clear HT HF HR1 HR2
        go_wp2_with fail
        go_ret
        exact ⟨rfl, hb0⟩
      · have k1 : (p == 0) = false := by simp [k]
        have k2 : decide (p = 0) = false := by simp [k]
        have HX2 := hide (unhide HF (by simp [k]))
        clear HT HF k
        go_wp2_with fail
        go_roundw
        case rel => exact ⟨i + 1, x + 2, by go_num, HX2, by trivial⟩
        case measure => simp [intOf]; omega
    · have q1 : decide ((x : Int) < (N : Int)) = false := decide_eq_false (by omega)
      obtain rfl : r = -1 := unhide HR2 (by
        have hx' := unhide hx
        have := unhide HN
        intro j hj
        exact hx'.2.2 j (by omega))
      clear hx
      go_wp2_with fail
      go_ret
      exact ⟨rfl, hb0⟩
end Go.Proofs.YtpcpcgagiapinaaGreatDoor

/- The document's rising: numbers with one more. -/
namespace Go.Proofs.YtpcpcgagiapinaaGreatDoor
open Go.RowKit Go.Maps
def rsU (n : Int) (l : List Int) : List Int := l.takeWhile (fun z => !decide (n < z)) ++ n :: l.dropWhile (fun z => !decide (n < z))
theorem rsU_all {n : Int} {l : List Int} (h : ∀ z ∈ l, z ≤ n) : rsU n l = l ++ [n] := by
  induction l with
  | nil => rfl
  | cons a l ih =>
    have ha : (!decide (n < a)) = true := by simp; have := h a (by simp); omega
    have := ih (fun z hz => h z (List.mem_cons_of_mem _ hz))
    unfold rsU at *
    rw [List.takeWhile_cons, if_pos ha, List.dropWhile_cons, if_pos ha, List.cons_append, this, List.cons_append]
theorem rsU_first {n x : Int} {l : List Int} (h : ∀ z ∈ l, z ≤ n) (hx : n < x) : rsU n (l ++ [x]) = l ++ [n, x] := by
  induction l with
  | nil =>
    have : (!decide (n < x)) = false := by simp [hx]
    simp [rsU, this]
  | cons a l ih =>
    have ha : (!decide (n < a)) = true := by simp; have := h a (by simp); omega
    have := ih (fun z hz => h z (List.mem_cons_of_mem _ hz))
    unfold rsU at *
    rw [List.cons_append, List.takeWhile_cons, if_pos ha, List.dropWhile_cons, if_pos ha, List.cons_append, this, List.cons_append]
theorem rsU_more {n x : Int} {l : List Int} (h : ∃ z ∈ l, n < z) : rsU n (l ++ [x]) = rsU n l ++ [x] := by
  induction l with
  | nil => obtain ⟨z, hz, _⟩ := h; cases hz
  | cons a l ih =>
    unfold rsU at *
    by_cases ha : n < a
    · have hb : (!decide (n < a)) = false := by simp [ha]
      simp [hb]
    · have hb : (!decide (n < a)) = true := by simp; omega
      obtain ⟨z, hz, hnz⟩ := h
      have := ih ⟨z, by rcases List.mem_cons.1 hz with rfl | c; exact absurd hnz ha; exact c, hnz⟩
      rw [List.cons_append, List.takeWhile_cons, if_pos hb, List.dropWhile_cons, if_pos hb, List.cons_append, this, List.takeWhile_cons, if_pos hb, List.dropWhile_cons, if_pos hb]
      simp
theorem rsU_len (n : Int) (l : List Int) : (rsU n l).length = l.length + 1 := by
  unfold rsU
  have h : (l.takeWhile (fun z => !decide (n < z)) ++ l.dropWhile (fun z => !decide (n < z))).length = l.length := by rw [List.takeWhile_append_dropWhile]
  simp only [List.length_append, List.length_cons] at h ⊢
  omega
theorem rsU_ins {n : Int} {l : List Int} (h : n ∉ l) : rsU n l = insU n l := by
  unfold rsU insU
  have e : ∀ l : List Int, n ∉ l → l.takeWhile (fun z => !decide (n < z)) = l.takeWhile (fun z => decide (z < n)) ∧ l.dropWhile (fun z => !decide (n < z)) = l.dropWhile (fun z => decide (z < n)) := by
    intro l
    induction l with
    | nil => intro _; exact ⟨rfl, rfl⟩
    | cons a l ih =>
      intro hn
      simp at hn
      have := ih hn.2
      have hb : (!decide (n < a)) = decide (a < n) := by
        by_cases c : a < n
        · simp [c]; omega
        · have : n < a := by have := hn.1; omega
          simp [c, this]
      rw [List.takeWhile_cons, List.dropWhile_cons, List.takeWhile_cons, List.dropWhile_cons, hb, this.1, this.2]
      exact ⟨rfl, rfl⟩
  rw [(e l h).1, (e l h).2]
set_option maxRecDepth 100000 in
set_option maxHeartbeats 4000000 in
theorem rrising_any {w : World} {v : Value} {l : List Int} (h : Nums w v l) (n : Int) (hl : l.length ≤ 1000) :
    Calls Tryz.prog 105 #[v, .int .i64 n] w fun e w' => ∃ r, e = .returned r ∧ Ints w.heap.size w' r (rsU n l) ∧ Below w.heap.size w w' := by
  obtain ⟨i0, hi0, hz0, hz1, hz2⟩ := info_parts Tryz.infoInt
  obtain ⟨a, c, rfl⟩ := nums_slice h
  have HL : Hid (∀ i z, l[i]? = some z → ∃ g o', a = some ⟨g, o', none⟩ ∧ ∀ W, Below w.heap.size w W → W.cell? ⟨g, o' + i, none⟩ = some (.int .i64 z)) := fun i z hz => by
    obtain ⟨g, o', cap, e, hc⟩ := h.open (by have := (List.getElem?_eq_some_iff.1 hz).1; omega)
    cases e
    refine ⟨g, o', rfl, fun W hW => ?_⟩
    have hcc := hc i z hz
    rw [hW.cell (p := ⟨g, o' + i, none⟩) (lt_of_cell (a := ⟨g, o' + i, none⟩) hcc)]; exact hcc
  obtain ⟨M, hM⟩ : ∃ M, M = l.length := ⟨_, rfl⟩
  rw [← hM] at hl ⊢
  have HM := hide hM
  have hM1 : (M : Int) ≤ 1000 := by omega
  clear h hM
  go_enter Tryz.func105, Tryz.ntmps105
  go_wp2_with fail
  go_loopw [5, 6, 7] (fun ov dv iv wr => ∃ (i : Nat) (d : Bool) (cur : List Int), iv = .int .i64 (i : Int) ∧ dv = .bool d ∧ i ≤ M ∧ Ints w.heap.size wr ov cur ∧ cur.length ≤ i + 1 ∧ Hid ((d = false ∧ cur = l.take i ∧ ∀ z ∈ l.take i, z ≤ n) ∨ (d = true ∧ cur = rsU n (l.take i) ∧ ∃ z ∈ l.take i, n < z)) ∧ Below w.heap.size w wr) (fun _ _ iv _ => (M - (intOf iv)).toNat)
  case atStart => exact ⟨0, false, [], rfl, rfl, by omega, ints_nil _ _, by simp, Or.inl ⟨rfl, rfl, by simp⟩, Below.refl _ _⟩
  case round =>
    obtain ⟨i, d, cur, rfl, rfl, hi, hown, hcl, hst, hbel⟩ := hrel
    obtain ⟨oa, oc, hoe⟩ := own_slice hown
    subst hoe
    by_cases hlt : i < M
    · obtain ⟨z, hz⟩ : ∃ z, l[i]? = some z := ⟨_, List.getElem?_eq_getElem (by have := unhide HM; omega)⟩
      obtain ⟨g, o', rfl, hc⟩ := unhide HL i z hz
      have cz := hc _ hbel
      have HC := hide hc
      have htk : l.take (i + 1) = l.take i ++ [z] := by rw [List.take_add_one, hz]; rfl
      have q1 : (i : Int) < (M : Int) := by omega
      have q0 : (0 : Int) ≤ (i : Int) := by omega
      have hsz := hbel.size
      have HTK := hide htk
      clear hz htk hc
      obtain ⟨L, hL⟩ : ∃ L, L = cur.length := ⟨_, rfl⟩
      have hownL : wr.ownsRow w.heap.size 3 1 (.slice oa L oc) L (cur.map I64) := by rw [hL]; exact hown
      have hLc : L ≤ 1002 := by omega
      have HLl := hide hL
      have HOW : Hid (Ints w.heap.size wr (.slice oa L oc) cur) := by unfold Hid; rw [hL]; exact hown
      rw [← hL]
      cases d
      · have hst2 : Hid (cur = l.take i ∧ ∀ z ∈ l.take i, z ≤ n) := by
          rcases unhide hst with ⟨_, h1, h2⟩ | ⟨h1, _⟩
          · exact ⟨h1, h2⟩
          · cases h1
        clear hst
        by_cases hnz : n < z
        · have HN2 : Hid (cur ++ [n] ++ [z] = rsU n (l.take (i + 1)) ∧ ∃ z' ∈ l.take (i + 1), n < z') := by
            obtain ⟨h1, h2⟩ := unhide hst2
            rw [unhide HTK, rsU_first h2 hnz, h1]
            exact ⟨by simp, z, by simp, hnz⟩
          clear hst2 hL hown
          go_wp2_with (at_builtin; refine wpList_append_own _ rfl (.tmp 24) (.tmp 26) 27 rfl w.heap.size 3 i0 (.int .i64 0) 1 8 Tryz.underlying27 hi0 hz0 hz1 hz2 rfl (by decide) _ L _ rfl (World.ownsRow.alloc hownL _) ⟨wr.heap.size, 0, none⟩ 1 1 [_] rfl rfl (cell_one_new _ _ _) ?c2 ?c3 ?c4 ?c5 ?nx)
          case c2 => intro u hu; simp at hu; subst hu; rfl
          case c3 => unfold maxLen; omega
          case c4 => omega
          case c5 => simp; omega
          case nx =>
            intro v' w3 hown' hgrow _
            obtain ⟨R1, R2⟩ := ints_snoc (cur := cur) n hbel (unhide HOW) (by rw [← unhide HLl]; simpa using hown') hgrow
            have cz3 := unhide HC _ R2
            obtain ⟨va, vc, hve⟩ := own_slice R1
            subst hve
            obtain ⟨L2, hL2⟩ : ∃ L2, L2 = (cur ++ [n]).length := ⟨_, rfl⟩
            have hownL2 : w3.ownsRow w.heap.size 3 1 (.slice va L2 vc) L2 ((cur ++ [n]).map I64) := by rw [hL2]; exact R1
            have HL2 := hide hL2
            have HOW2 : Hid (Ints w.heap.size w3 (.slice va L2 vc) (cur ++ [n])) := by unfold Hid; rw [hL2]; exact R1
            have hL2c : L2 ≤ 1003 := by rw [hL2]; simp; have := unhide HLl; omega
            have hsz2 := R2.size
            rw [← hL2]
            clear hown' hgrow R1 cz hL2
            go_wp2_with (at_builtin; refine wpList_append_own _ rfl (.tmp 28) (.tmp 33) 27 rfl w.heap.size 3 i0 (.int .i64 0) 1 8 Tryz.underlying27 hi0 hz0 hz1 hz2 rfl (by decide) _ L2 _ rfl (World.ownsRow.alloc hownL2 _) ⟨w3.heap.size, 0, none⟩ 1 1 [_] rfl rfl (cell_one_new _ _ _) ?c2 ?c3 ?c4 ?c5 ?nx)
            case c2 => intro u hu; simp at hu; subst hu; rfl
            case c3 => unfold maxLen; omega
            case c4 => omega
            case c5 => simp; omega
            case nx =>
              intro v' w4 hown' hgrow _
              obtain ⟨R3, R4⟩ := ints_snoc (cur := cur ++ [n]) z R2 (unhide HOW2) (by rw [← unhide HL2]; simpa using hown') hgrow
              have HZ : Hid (Ints w.heap.size w4 v' (cur ++ [n] ++ [z]) ∧ (cur ++ [n] ++ [z]).length ≤ i + 1 + 1) := by
                refine ⟨R3, ?_⟩
                have h1 := (unhide HN2).1
                have : (rsU n (l.take (i + 1))).length = (l.take (i + 1)).length + 1 := rsU_len _ _
                rw [h1, this]
                simp; omega
              clear hown' hgrow R3 hownL hownL2
              go_wp2_with fail
              go_roundw
              case rel => exact ⟨i + 1, true, _, by go_num, rfl, by omega, (unhide HZ).1, (unhide HZ).2, Or.inr ⟨rfl, unhide HN2⟩, R4⟩
              case measure => simp [intOf]; omega
        · have hnz' : decide (n < z) = false := decide_eq_false hnz
          have HN2 : Hid (cur ++ [z] = l.take (i + 1) ∧ ∀ z' ∈ l.take (i + 1), z' ≤ n) := by
            obtain ⟨h1, h2⟩ := unhide hst2
            rw [unhide HTK, h1]
            refine ⟨rfl, fun z' hz' => ?_⟩
            rcases List.mem_append.1 hz' with q | q
            · exact h2 z' q
            · simp at q; subst q; omega
          clear hst2 hL hown hnz
          go_wp2_with (at_builtin; refine wpList_append_own _ rfl (.tmp 28) (.tmp 33) 27 rfl w.heap.size 3 i0 (.int .i64 0) 1 8 Tryz.underlying27 hi0 hz0 hz1 hz2 rfl (by decide) _ L _ rfl (World.ownsRow.alloc hownL _) ⟨wr.heap.size, 0, none⟩ 1 1 [_] rfl rfl (cell_one_new _ _ _) ?c2 ?c3 ?c4 ?c5 ?nx)
          case c2 => intro u hu; simp at hu; subst hu; rfl
          case c3 => unfold maxLen; omega
          case c4 => omega
          case c5 => simp; omega
          case nx =>
            intro v' w4 hown' hgrow _
            obtain ⟨R3, R4⟩ := ints_snoc (cur := cur) z hbel (unhide HOW) (by rw [← unhide HLl]; simpa using hown') hgrow
            have HZ : Hid (Ints w.heap.size w4 v' (cur ++ [z]) ∧ (cur ++ [z]).length ≤ i + 1 + 1) := by
              refine ⟨R3, ?_⟩
              rw [(unhide HN2).1]
              simp; omega
            clear hown' hgrow R3 hownL
            go_wp2_with fail
            go_roundw
            case rel => exact ⟨i + 1, false, _, by go_num, rfl, by omega, (unhide HZ).1, (unhide HZ).2, Or.inl ⟨rfl, unhide HN2⟩, R4⟩
            case measure => simp [intOf]; omega
      · have HN2 : Hid (cur ++ [z] = rsU n (l.take (i + 1)) ∧ ∃ z' ∈ l.take (i + 1), n < z') := by
          rcases unhide hst with ⟨h1, _⟩ | ⟨_, h1, h2⟩
          · cases h1
          · rw [unhide HTK, rsU_more h2, h1]
            obtain ⟨z', hz', h3⟩ := h2
            exact ⟨rfl, z', by simp [hz'], h3⟩
        clear hst hL hown
        go_wp2_with (at_builtin; refine wpList_append_own _ rfl (.tmp 28) (.tmp 33) 27 rfl w.heap.size 3 i0 (.int .i64 0) 1 8 Tryz.underlying27 hi0 hz0 hz1 hz2 rfl (by decide) _ L _ rfl (World.ownsRow.alloc hownL _) ⟨wr.heap.size, 0, none⟩ 1 1 [_] rfl rfl (cell_one_new _ _ _) ?c2 ?c3 ?c4 ?c5 ?nx)
        case c2 => intro u hu; simp at hu; subst hu; rfl
        case c3 => unfold maxLen; omega
        case c4 => omega
        case c5 => simp; omega
        case nx =>
          intro v' w4 hown' hgrow _
          obtain ⟨R3, R4⟩ := ints_snoc (cur := cur) z hbel (unhide HOW) (by rw [← unhide HLl]; simpa using hown') hgrow
          have HZ : Hid (Ints w.heap.size w4 v' (cur ++ [z]) ∧ (cur ++ [z]).length ≤ i + 1 + 1) := by
            refine ⟨R3, ?_⟩
            rw [(unhide HN2).1, rsU_len]
            simp; omega
          clear hown' hgrow R3 hownL
          go_wp2_with fail
          go_roundw
          case rel => exact ⟨i + 1, true, _, by go_num, rfl, by omega, (unhide HZ).1, (unhide HZ).2, Or.inr ⟨rfl, unhide HN2⟩, R4⟩
          case measure => simp [intOf]; omega
    · obtain rfl : i = M := by omega
      have htk : l.take i = l := List.take_of_length_le (by have := unhide HM; omega)
      rw [htk] at hst
      have hsz := hbel.size
      obtain ⟨L, hL⟩ : ∃ L, L = cur.length := ⟨_, rfl⟩
      have hownL : wr.ownsRow w.heap.size 3 1 (.slice oa L oc) L (cur.map I64) := by rw [hL]; exact hown
      have hLc : L ≤ 1002 := by omega
      have HLl := hide hL
      have HOW : Hid (Ints w.heap.size wr (.slice oa L oc) cur) := by unfold Hid; rw [hL]; exact hown
      rw [← hL]
      clear htk
      cases d
      · have hst2 : Hid (cur ++ [n] = rsU n l) := by
          rcases unhide hst with ⟨_, h1, h2⟩ | ⟨h1, _⟩
          · unfold Hid; rw [rsU_all h2, h1]
          · cases h1
        clear hst hL hown
        go_wp2_with (at_builtin; refine wpList_append_own _ rfl (.tmp 37) (.tmp 39) 27 rfl w.heap.size 3 i0 (.int .i64 0) 1 8 Tryz.underlying27 hi0 hz0 hz1 hz2 rfl (by decide) _ L _ rfl (World.ownsRow.alloc hownL _) ⟨wr.heap.size, 0, none⟩ 1 1 [_] rfl rfl (cell_one_new _ _ _) ?c2 ?c3 ?c4 ?c5 ?nx)
        case c2 => intro u hu; simp at hu; subst hu; rfl
        case c3 => unfold maxLen; omega
        case c4 => omega
        case c5 => simp; omega
        case nx =>
          intro v' w4 hown' hgrow _
          obtain ⟨R3, R4⟩ := ints_snoc (cur := cur) n hbel (unhide HOW) (by rw [← unhide HLl]; simpa using hown') hgrow
          rw [unhide hst2] at R3
          clear hown' hgrow
          go_wp2_with fail
          go_ret
          exact ⟨_, rfl, R3, R4⟩
      · have hst2 : cur = rsU n l := by
          rcases unhide hst with ⟨h1, _⟩ | ⟨_, h1, h2⟩
          · cases h1
          · exact h1
        rw [hst2] at hown
        have HO := hide hown
        have HL3 : Hid ((rsU n l).length = L) := by unfold Hid; rw [hL, hst2]
        clear hst hst2 hL hown hownL
        go_wp2_with fail
        go_ret
        exact ⟨_, rfl, by have := unhide HO; rw [unhide HL3] at this; exact this, hbel⟩
end Go.Proofs.YtpcpcgagiapinaaGreatDoor

/- The contract of TreeSize: what it answers where it is not beyond. -/
namespace Go.Proofs.YtpcpcgagiapinaaGreatDoor
open Go.RowKit Go.Maps
def usum (T : List Nd) : Nat := (T.map (·.un.length)).sum
theorem usum_take {T : List Nd} {i : Nat} (h : i < T.length) : usum (T.take (i + 1)) = usum (T.take i) + (ndAt T i).un.length := by
  unfold usum
  rw [List.take_add_one, ndAt_of h]
  simp
set_option maxRecDepth 100000 in
set_option maxHeartbeats 2000000 in
theorem treeSize2_any {w : World} {v : Value} {T : List Nd} (h : Trd w v T) :
    Calls Tryz.prog 17 #[.agg #[v]] w fun e w' => ∃ n : Nat, e = .returned (.int .i64 (n : Int)) ∧ n ≤ 1125899906842624 ∧ (n ≤ 262144 → n = T.length + usum T) ∧ Below w.heap.size w w' := by
  obtain ⟨a, c, rfl⟩ := h.slice
  have hl := h.len
  obtain ⟨-, h2⟩ := h.at
  have HC : Hid (∀ i, i < T.length → ∃ b o ua ul uc, a = some ⟨b, o, none⟩ ∧ ul = (ndAt T i).un.length ∧ ul ≤ 140737488355328 ∧ ∀ W, Below w.heap.size w W → W.cell? ⟨b, o + i * 4 + 3, none⟩ = some (.slice ua ul uc)) := fun i hi => by
    obtain ⟨b, o, e, h3⟩ := h2 (by omega)
    obtain ⟨u, k1, k2⟩ := h3 w (Below.refl _ _) i hi
    obtain ⟨ua, uc, rfl⟩ := nums_slice k2
    have hB : b < w.heap.size := lt_of_cell k1.c3
    exact ⟨b, o, ua, _, uc, e, rfl, h.unl _ (ndAt_mem hi), fun W hW => (k1.bw hB hW).c3⟩
  obtain ⟨W0, hW0⟩ : ∃ W0, W0 = bxw w (.slice a T.length c) := ⟨_, rfl⟩
  have hb0 : Below w.heap.size w W0 := by rw [hW0]; exact bwA _ _
  have c0 : W0.cell? ⟨w.heap.size, 0, none⟩ = some (.slice a T.length c) := by rw [hW0]; exact bx_cell (Below.refl _ _)
  have HW : Hid (W0 = w.alloc (.cells #[.slice a T.length c] 44)) := hW0
  have hlI : (T.length : Int) ≤ 140737488355328 := by omega
  have HL := hide hl
  obtain ⟨N, hN⟩ : ∃ N, N = T.length := ⟨_, rfl⟩
  rw [← hN] at HC c0 HW hlI HL ⊢
  have HN := hide hN
  clear h h2 hW0 hl hN
  go_enter Tryz.func17, Tryz.ntmps17
  go_upto_region 2 with fail
  rw [← unhide HW]
  go_wp2_with fail
  go_loopw [3, 4] (fun nv iv wr => ∃ (n i : Nat), nv = .int .i64 (n : Int) ∧ iv = .int .i64 (i : Int) ∧ i ≤ N ∧ Hid (n ≤ 281474976710656 ∧ n = N + usum (T.take i)) ∧ wr = W0) (fun _ iv _ => (N - (intOf iv)).toNat)
  case atStart => exact ⟨N, 0, rfl, rfl, by omega, ⟨by have := unhide HL; omega, by simp [usum]⟩, rfl⟩
  case round =>
    obtain ⟨n, i, rfl, rfl, hiN, hn, rfl⟩ := hrel
    by_cases hlt : i < N
    · have q1 : (i : Int) < (N : Int) := by omega
      have q0 : (0 : Int) ≤ (i : Int) := by omega
      by_cases hs : n ≤ 262144
      · have hs1 : (n : Int) ≤ 262144 := by omega
        obtain ⟨b, o, ua, ul, uc, rfl, hue, hul, hc⟩ := unhide HC i hlt
        have c3 := hc _ hb0
        have hul1 : (ul : Int) ≤ 140737488355328 := by omega
        have HX : Hid (n + ul ≤ 281474976710656 ∧ n + ul = N + usum (T.take (i + 1))) := by
          refine ⟨by omega, ?_⟩
          rw [usum_take (by rw [← unhide HN]; exact hlt), ← hue, (unhide hn).2]
          omega
        clear hs hul hc hue hn
        go_wp2_with fail
        go_roundw
        case rel => exact ⟨n + ul, i + 1, by go_num, by go_num, by omega, HX, by trivial⟩
        case measure => simp [intOf]; omega
      · have hs1 : decide ((n : Int) ≤ 262144) = false := decide_eq_false (by omega)
        have HS := hide hs
        clear hs
        go_wp2_with fail
        go_ret
        exact ⟨n, rfl, by have := unhide hn; omega, fun q => absurd q (unhide HS), hb0⟩
    · obtain rfl : i = N := by omega
      go_wp2_with fail
      go_ret
      refine ⟨n, rfl, by have := unhide hn; omega, fun _ => ?_, hb0⟩
      have := (unhide hn).2
      rw [List.take_of_length_le (by have := unhide HN; omega)] at this
      exact this
end Go.Proofs.YtpcpcgagiapinaaGreatDoor
