/- TreeCovers, the walk. -/
import Derived.Test.YtjjkhjiiakamaaaDoorTrX
import Derived.Deep.CutRange
namespace Go.Proofs.YtjjkhjiiakamaaaDoor
open Go.RowKit Go.Maps

theorem rsl_odd {T : List Nd} (hw : Wd T) : ∀ x, x < T.length → ∀ z ∈ rsl T x, z % 2 = 1 → z < (T.length : Int) := by
  obtain ⟨g1, g2, g3, g4, g5⟩ := hw.facts
  rw [g2]
  have hpos : ∀ x, x < 2 * nlv T - 1 → pos (ndAt T x) = true → ∀ z ∈ rsl T x, z % 2 = 1 → z < ((2 * nlv T - 1 : Nat) : Int) := fun x hx hp z hz ho => by
    rw [rsl_pos hp] at hz
    rcases List.mem_cons.1 hz with rfl | hz
    · omega
    · obtain ⟨u, hu, rfl⟩ := List.mem_map.1 hz
      omega
  refine node_ind g1 (fun x hx ho => ?_) (fun x hx ho i1 i2 => ?_)
  · cases hp : pos (ndAt T x)
    · rw [rsl_leaf hp ho]; simp
    · exact hpos x hx hp
  · cases hp : pos (ndAt T x)
    · rw [rsl_par g1 hx hp ho]; intro z hz; rcases List.mem_append.1 hz with h | h
      · exact i1 z h
      · exact i2 z h
    · exact hpos x hx hp
theorem rsl_z {T : List Nd} (ok : Ok T) {x : Nat} (hx : x < T.length) : ∀ z ∈ rsl T x, 0 ≤ z ∧ z ≤ 30 ∧ (z % 2 = 1 → z < (T.length : Int)) := fun z hz =>
  ⟨(rsl_small ok.wd ok.sm x hx z hz).1, (rsl_small ok.wd ok.sm x hx z hz).2, rsl_odd ok.wd x hx z hz⟩
/-- Members' leaves have a Pub above 0. -/
theorem pub_pos {T : List Nd} (ok : Ok T) {x : Nat} (hx : x < T.length) : (pos (ndAt T x) = true ∧ 0 < (ndAt T x).pub) ∨ (pos (ndAt T x) = false ∧ (ndAt T x).pub = 0) := by
  have h := ok.nd x hx
  unfold ndM at h
  by_cases c : (ndAt T x).pub = 0
  · exact Or.inr ⟨by unfold pos; simp [c], c⟩
  · rw [if_neg c] at h
    by_cases c2 : (ndAt T x).pub < 0
    · rw [if_pos c2] at h; cases h
    · exact Or.inl ⟨by unfold pos; simp [c], by omega⟩
theorem oth_mem {T : List Nd} (ok : Ok T) {i : Nat} (hi : i < nlv T) : (oth T i).length ≤ 3 ∧ ∀ l ∈ oth T i, l.length ≤ 72 ∧ ∀ z ∈ l, 0 ≤ z ∧ z ≤ 30 ∧ (z % 2 = 1 → z < (T.length : Int)) := by
  obtain ⟨g1, g2, g3, g4, g5⟩ := ok.wd.facts
  obtain ⟨d1, d2, d3, d4, d5, d6⟩ := up_of g1 hi
  refine ⟨by unfold oth; rw [List.length_map]; have := prs_len T i; have := up_len g1 hi; omega, fun l hl => ?_⟩
  unfold oth at hl
  obtain ⟨p, hp, rfl⟩ := List.mem_map.1 hl
  obtain ⟨_, _, s, hs, e⟩ := prs_mem hp
  have hsl : s < T.length := by have := d6 s (List.of_mem_zip hs).2; omega
  rw [e]
  exact ⟨rsl_72 ok.wd ok.sm hsl, rsl_z ok hsl⟩
theorem flat_len {ls : List (List Int)} (h2 : ∀ l ∈ ls, l.length ≤ 72) : ls.flatten.length ≤ 72 * ls.length := by
  induction ls with
  | nil => simp
  | cons l ls ih =>
    have := ih (fun x hx => h2 x (by simp [hx]))
    have := h2 l (by simp)
    rw [List.flatten_cons, List.length_append, List.length_cons]; omega
theorem askE_ok {T : List Nd} {li : Int} (hm : mayB T = true) (h : askE T li = 0) : ∃ i : Nat, li = i ∧ i < nlv T ∧ pos (ndAt T (2 * i)) = true := by
  unfold askE at h
  rw [hm] at h
  have q2 : hasL T li = true := by cases q : hasL T li <;> simp_all
  have h0 : 0 ≤ li := by
    apply Decidable.byContradiction; intro c; unfold hasL at q2; rw [decide_eq_false c] at q2; simp at q2
  obtain ⟨n, rfl⟩ : ∃ n : Nat, li = n := ⟨li.toNat, by omega⟩
  obtain ⟨h1, h2⟩ := hasL_pos q2
  exact ⟨n, rfl, h1, h2⟩
theorem resE_ok {T : List Nd} {x : Int} (hm : mayB T = true) (h : resE T x = 0) : ∃ i : Nat, x = i ∧ i < T.length := by
  unfold resE at h
  rw [hm] at h
  simp at h
  exact ⟨x.toNat, by omega, by omega⟩
/-- The end of a law. -/
theorem alive_end {w W : World} (hT : Tab w) (hb : Below w.heap.size w W) : Calls Tryd.prog 11 #[] W fun e w' => e = .returned (.bool true) ∧ Below w.heap.size w w' := (alive8 W (hT.bw hb)).mono (fun _ _ h => ⟨h.1, bw_tr hb h.2⟩)
set_option maxRecDepth 100000 in
set_option maxHeartbeats 8000000 in
theorem TreeCovers_walk (w : World) (v : Value) (T : List Nd) (h : Trd w v T) (hT : Tab w) (xx li : Int) :
    Calls Tryd.prog 4 #[.agg #[v], .int .i64 xx, .int .i64 li] w fun e w' => e = .returned (.bool true) ∧ Below w.heap.size w w' := by
  obtain ⟨a, c, rfl⟩ := h.slice
  obtain ⟨W0, hW0⟩ : ∃ W0, W0 = bxw w (.slice a T.length c) := ⟨_, rfl⟩
  have hb0 : Below w.heap.size w W0 := by rw [hW0]; exact bwA _ _
  have HB : Hid (∀ W, Below W0.heap.size W0 W → W.cell? ⟨w.heap.size, 0, none⟩ = some (.slice a T.length c) ∧ Below w.heap.size w W) := fun W hW => by subst hW0; exact ⟨bx_cell hW, bx_bel hW⟩
  have HH : Hid (∀ W, Below w.heap.size w W → Trd W (.slice a T.length c) T ∧ Tab W) := fun W hW => ⟨h.bw hW, hT.bw hW⟩
  have KE : Hid (∀ W, Below w.heap.size w W → Calls Tryd.prog 11 #[] W fun e w' => e = .returned (.bool true) ∧ Below w.heap.size w w') := fun W hW => alive_end hT hW
  have KT := hide (treeSize_any (h.bw hb0))
  have HW : Hid (W0 = w.alloc (.cells #[.slice a T.length c] 24)) := hW0
  have HTL : Hid (0 < T.length → ∃ b o, a = some ⟨b, o, none⟩ ∧ ∀ w', Below w.heap.size w w' → ∀ i, i < T.length → ∃ u, NdC w' b (o + i * 4) (ndAt T i) u ∧ Nums w' u (ndAt T i).un) := h.at.2
  clear h hT hW0
  obtain ⟨N, hN⟩ : ∃ N, N = T.length := ⟨_, rfl⟩
  rw [← hN] at HB HH KT HW ⊢
  have HN := hide hN
  clear hN
  go_enter Tryd.func4, Tryd.ntmps4
  go_wp2_with fail
  rw [← unhide HW]
  refine (unhide KT).mono ?_
  rintro e W1 ⟨n, rfl, hn, b1⟩
  have b2 : Below W0.heap.size W0 (W1.alloc (.cells #[.int .i64 (n : Int)] 3)) := b1.alloc b1.size _
  have KBy := hide (beyond8 W1.heap.size n 1 (W1.alloc (.cells #[.int .i64 (n : Int)] 3)) hn (cell_of_blk (heap_alloc_new W1 _) rfl))
  obtain ⟨W2, hW2⟩ : ∃ W2, W2 = W1.alloc (.cells #[.int .i64 (n : Int)] 3) := ⟨_, rfl⟩
  rw [← hW2] at KBy b2
  have HW2 := hide hW2
  clear hW2 KT HW hn b1
  generalize decide (262144 < n) = by_ at *
  obtain ⟨c0, hbw⟩ := unhide HB _ b2
  go_wp2_with fail
  rw [← unhide HW2]
  refine (unhide KBy).mono ?_
  rintro e W2 ⟨rfl, rfl⟩
  clear KBy
  cases by_
  rotate_left
  · have KE2 := hide (unhide KE _ hbw)
    go_wp2_with fail
    refine (unhide KE2).mono ?_
    rintro e W9 ⟨rfl, b9⟩
    go_wp2
    go_ret
    exact ⟨rfl, b9⟩
  have KCk := hide (check_any (unhide HH _ hbw).1 (unhide HH _ hbw).2)
  cases hm : mayB T
  · rw [hm] at KCk
    go_wp2_with fail
    refine (unhide KCk).mono ?_
    rintro e W3 ⟨rfl, b3⟩
    have KE2 := hide (unhide KE _ (bw_tr hbw b3))
    clear KCk
    go_wp2_with fail
    refine (unhide KE2).mono ?_
    rintro e W9 ⟨rfl, b9⟩
    go_wp2
    go_ret
    exact ⟨rfl, b9⟩
  · rw [hm] at KCk
    have HM := hide hm
    clear hm
    go_wp2_with fail
    refine (unhide KCk).mono ?_
    rintro e W3 ⟨rfl, b3⟩
    have b4 := bw_tr b2 b3
    clear KCk c0 hbw b2 b3 HW2
    obtain ⟨c0, hbw⟩ := unhide HB _ b4
    have KR := hide (resolutionX_any (unhide HH _ hbw).1 (unhide HH _ hbw).2 xx)
    obtain ⟨E1, hE1⟩ : ∃ E1, E1 = resE T xx := ⟨_, rfl⟩
    rw [← hE1] at KR
    have HE1 := hide hE1
    clear hE1
    go_wp2_with fail
    refine (unhide KR).mono ?_
    rintro e W4 ⟨rr, rfl, hrr, b5⟩
    have b6 := bw_tr b4 b5
    clear KR c0 hbw b4 b5
    go_upto_if 34 with fail
    go_cut [9, 10] from 35 to 60 (fun _ _ wx => Below W0.heap.size W0 wx)
    case first =>
      by_cases hE : E1 = 0
      · have hrE := (unhide HE1).symm.trans hE
        obtain ⟨x, hxe, hxl⟩ := resE_ok (unhide HM) hrE
        have ok := mayB_okn (unhide HM) (by omega)
        obtain ⟨g1, g2, g3, g4, g5⟩ := ok.wd.facts
        rw [if_pos hE, hxe, Int.toNat_natCast] at hrr
        subst hE
        obtain ⟨b, o, hab, hnd⟩ := unhide HTL (by omega)
        have HR : Hid (∀ W, Below W4.heap.size W4 W → Nums W rr (rsl T x)) := fun W hW => hrr.nums.bw hW
        have KS : Hid (∀ W, Below w.heap.size w W → Calls Tryd.prog 20 #[.agg #[.slice a N c]] W fun e w' => e = .returned (.int .i64 (nlv T : Nat)) ∧ Below W.heap.size W w') := fun W hW => by
          have := size_any (unhide HH _ hW).1 (unhide HH _ hW).2; rw [unhide HM, if_pos rfl] at this; exact this
        have KN : Hid (∀ W (i : Nat), i < nlv T → Below w.heap.size w W → Below W4.heap.size W4 W → Calls Tryd.prog 22 #[.agg #[.slice a N c], rr, .int .i64 (i : Int)] W fun e w' => e = .returned (.int .i64 (nms T (rsl T x) i : Nat)) ∧ Below W.heap.size W w') := fun W i hi hW hW4 => names_any (unhide HH _ hW).1 g3 (un_len (unhide HM)) (unhide HR _ hW4) (by have := rsl_72 ok.wd ok.sm hxl; omega) (rsl_z ok hxl) i (by omega)
        have KW : Hid (∀ W (y : Nat), y ≤ 30 → Calls Tryd.prog 21 #[.int .i64 (y : Int), .int .i64 xx] W fun e w' => e = .returned (.bool (wi (y : Int) (x : Nat))) ∧ w' = W) := fun W y hy => by
          have := rwithin_any (y : Int) xx W (by omega) (by omega); rw [hxe] at this ⊢; exact this
        have HC : Hid (∀ i, i < nlv T → pos (ndAt T (2 * i)) = true → nms T (rsl T x) i = if wi ((2 * i : Nat) : Int) (x : Nat) = true then 1 else 0) := fun i hi hp => covers8 ok hi hp x hxl
        have HP : Hid (∀ i, i < nlv T → 2 * i < T.length ∧ ((pos (ndAt T (2 * i)) = true ∧ 0 < (ndAt T (2 * i)).pub) ∨ (pos (ndAt T (2 * i)) = false ∧ (ndAt T (2 * i)).pub = 0)) ∧ ∀ W, Below w.heap.size w W → W.cell? ⟨b, o + 2 * i * 4, none⟩ = some (.int .i64 (ndAt T (2 * i)).pub)) := fun i hi => by
          have hl : 2 * i < T.length := by omega
          refine ⟨hl, pub_pos ok hl, fun W hW => ?_⟩
          obtain ⟨u, k, _⟩ := hnd W hW (2 * i) hl
          exact k.c0
        subst hab
        have hN15 : (N : Int) ≤ 15 := by have := unhide HN; omega
        have hnl8 : (nlv T : Int) ≤ 8 := by omega
        clear ok g1 g2 g3 g5 hnd hrr hrE HE1 hxe
        generalize nlv T = nl at *
        go_wp2_with fail
        go_loopw [9, 10] (fun iv _ wr => ∃ i : Nat, iv = .int .i64 (i : Int) ∧ i ≤ nl ∧ Below W4.heap.size W4 wr) (fun iv _ _ => (nl - (intOf iv)).toNat)
        case atStart => exact ⟨0, rfl, by omega, Below.refl _ _⟩
        case round =>
          obtain ⟨i, rfl, hin, hbel⟩ := hrel
          have bz := bw_tr b6 hbel
          obtain ⟨c0, hbw⟩ := unhide HB _ bz
          have K1 := hide (unhide KS _ hbw)
          go_wp2_with fail
          refine (unhide K1).mono ?_
          rintro e W5 ⟨rfl, b7⟩
          have bel5 := bw_tr hbel b7
          have bz5 := bw_tr b6 bel5
          clear c0 hbw K1 b7 bz hbel
          obtain ⟨c0, hbw⟩ := unhide HB _ bz5
          by_cases hlt : i < nl
          · have q1 : (i : Int) < (nl : Int) := by omega
            obtain ⟨hp1, hp2, hp3⟩ := unhide HP i hlt
            obtain ⟨y, hy⟩ : ∃ y, y = 2 * i := ⟨_, rfl⟩
            rw [← hy] at hp1 hp2 hp3
            have K2 := hide (unhide KW W5 y (by omega))
            have cP := hp3 _ hbw
            have K3 := hide (unhide KN _ i hlt hbw bel5)
            have hcc : Hid (pos (ndAt T y) = true → nms T (rsl T x) i = if wi (y : Int) (x : Nat) = true then 1 else 0) := by rw [hy]; exact unhide HC i hlt
            have qy : 2 * (i : Int) = (y : Int) := by omega
            have qN : (y : Int) < (N : Int) := by have := unhide HN; omega
            have q0 : (0 : Int) ≤ (y : Int) := by omega
            clear hp3 hy hp1
            generalize wi (y : Int) (x : Nat) = wb at *
            generalize nms T (rsl T x) i = nn at *
            generalize (ndAt T y).pub = pb at *
            generalize pos (ndAt T y) = pq at *
            go_wp2_with fail
            refine (unhide K2).mono ?_
            rintro e W5 ⟨rfl, rfl⟩
            clear K2
            rcases hp2 with ⟨rfl, hp⟩ | ⟨rfl, hp⟩
            · have hnn := unhide hcc rfl
              cases wb
              · obtain rfl : nn = 0 := by simpa using hnn
                clear hnn hcc
                go_wp2_with fail
                refine (unhide K3).mono ?_
                rintro e W6 ⟨rfl, b8⟩
                go_wp2_with fail
                go_roundw
                case rel => (repeat apply Exists.intro); exact ⟨⟨i + 1, by go_num, by omega, bw_tr bel5 b8⟩, rfl⟩
                case measure => simp [intOf]; omega
              · obtain rfl : nn = 1 := by simpa using hnn
                clear hnn hcc
                go_wp2_with fail
                refine (unhide K3).mono ?_
                rintro e W6 ⟨rfl, b8⟩
                go_wp2_with fail
                go_roundw
                case rel => (repeat apply Exists.intro); exact ⟨⟨i + 1, by go_num, by omega, bw_tr bel5 b8⟩, rfl⟩
                case measure => simp [intOf]; omega
            · subst hp
              cases wb
              · go_wp2_with fail
                go_roundw
                case rel => (repeat apply Exists.intro); exact ⟨⟨i + 1, by go_num, by omega, bel5⟩, rfl⟩
                case measure => simp [intOf]; omega
              · go_wp2_with fail
                go_roundw
                case rel => (repeat apply Exists.intro); exact ⟨⟨i + 1, by go_num, by omega, bel5⟩, rfl⟩
                case measure => simp [intOf]; omega
          · obtain rfl : i = nl := by omega
            go_wp2_with fail
            go_meet
            case rel => exact bz5
      · have hE1 : (E1 == 0) = false := by simp [hE]
        have hE2 : decide (E1 = 0) = false := by simp [hE]
        go_wp2_with fail
        go_meet
        case rel => exact b6
    case rest =>
      clear b6 hrr
      have b6 := hcut
      clear hcut HE1
      obtain ⟨c0, hbw⟩ := unhide HB _ b6
      have KT := hide (targets_any (unhide HH _ hbw).1 (fv := .slice none 0 0) (fl := []) (Or.inl ⟨rfl, none, 0, rfl, fun _ => rfl⟩) (unhide HH _ hbw).2 li)
      obtain ⟨E2, hE2⟩ : ∃ E2, E2 = askE T li := ⟨_, rfl⟩
      rw [← hE2] at KT
      have HE2 := hide hE2
      obtain ⟨LS, hLS⟩ : ∃ LS, LS = tgtR T li [] := ⟨_, rfl⟩
      rw [← hLS] at KT
      have HLS := hide hLS
      clear hE2 hLS
      go_wp2_with fail
      refine (unhide KT).mono ?_
      rintro e W5 ⟨tr, us, rfl, hRR, b7⟩
      have b8 := bw_tr b6 b7
      have b8s := b6.size
      clear KT c0 hbw b7 b6
      obtain ⟨c0, hbw⟩ := unhide HB _ b8
      by_cases hE : E2 = 0
      · have haE := (unhide HE2).symm.trans hE
        obtain ⟨i, hie, hil, hip⟩ := askE_ok (unhide HM) haE
        have ok := mayB_okn (unhide HM) (nlv_pos (by omega))
        obtain ⟨g1, g2, g3, g4, g5⟩ := ok.wd.facts
        have hls : LS = oth T i := by rw [unhide HLS]; unfold tgtR; rw [if_pos haE, hie, Int.toNat_natCast, tgt_nil]
        obtain ⟨o1, o2⟩ := oth_mem ok hil
        rw [← hls] at o1 o2
        subst hE
        obtain ⟨b, o, hab, hnd⟩ := unhide HTL (by omega)
        have HF : Hid (∀ j, ((LS.take j).flatten).length ≤ 216) := fun j => by
          have h1 := flat_len (ls := LS.take j) (fun l hl => (o2 l (List.mem_of_mem_take hl)).1)
          have h2 : (LS.take j).length ≤ 3 := by rw [List.length_take]; omega
          omega
        have HZ : Hid (∀ z ∈ LS.flatten, 0 ≤ z ∧ z ≤ 30 ∧ (z % 2 = 1 → z < (T.length : Int))) := fun z hz => by
          obtain ⟨l, hl, hz⟩ := List.mem_flatten.1 hz
          exact (o2 l hl).2 z hz
        have KS : Hid (∀ W, Below w.heap.size w W → Calls Tryd.prog 20 #[.agg #[.slice a N c]] W fun e w' => e = .returned (.int .i64 (nlv T : Nat)) ∧ Below W.heap.size W w') := fun W hW => by
          have := size_any (unhide HH _ hW).1 (unhide HH _ hW).2; rw [unhide HM, if_pos rfl] at this; exact this
        have KN : Hid (∀ W rr (j : Nat), j < nlv T → Below w.heap.size w W → Nums W rr LS.flatten → Calls Tryd.prog 22 #[.agg #[.slice a N c], rr, .int .i64 (j : Int)] W fun e w' => e = .returned (.int .i64 (nms T LS.flatten j : Nat)) ∧ Below W.heap.size W w') := fun W rr j hj hW hnu => names_any (unhide HH _ hW).1 g3 (un_len (unhide HM)) hnu (by have := unhide HF LS.length; rw [List.take_length] at this; omega) (unhide HZ) j (by omega)
        have HC : Hid (∀ j, j < nlv T → pos (ndAt T (2 * j)) = true → nms T LS.flatten j = if i = j then 0 else 1) := fun j hj hp => by rw [hls]; exact covers_all ok hil hj hp
        have HP : Hid (∀ i, i < nlv T → 2 * i < T.length ∧ ((pos (ndAt T (2 * i)) = true ∧ 0 < (ndAt T (2 * i)).pub) ∨ (pos (ndAt T (2 * i)) = false ∧ (ndAt T (2 * i)).pub = 0)) ∧ ∀ W, Below w.heap.size w W → W.cell? ⟨b, o + 2 * i * 4, none⟩ = some (.int .i64 (ndAt T (2 * i)).pub)) := fun i hi => by
          have hl : 2 * i < T.length := by omega
          refine ⟨hl, pub_pos ok hl, fun W hW => ?_⟩
          obtain ⟨u, k, _⟩ := hnd W hW (2 * i) hl
          exact k.c0
        subst hab
        have hN15 : (N : Int) ≤ 15 := by have := unhide HN; omega
        have hnl8 : (nlv T : Int) ≤ 8 := by omega
        obtain ⟨M, hM⟩ : ∃ M, M = LS.length := ⟨_, rfl⟩
        have hM3 : (M : Int) ≤ 3 := by omega
        obtain ⟨oa, oc, hoe⟩ := own_slice hRR.row
        rw [← hM] at hoe
        subst hoe
        have hRRh := hide hRR
        have HMM := hide hM
        subst hie
        clear ok g1 g2 g3 g4 g5 hnd haE HE2 HLS HTL o1 o2 hls hip hM hRR
        generalize nlv T = nl at *
        have hI0 : Ints W5.heap.size W5 (.slice none 0 0) (LS.take 0).flatten := World.ownsRow_nil _ _ _ _
        go_wp2_with fail
        go_loopw [13, 14] (fun sv iv wr => ∃ j : Nat, iv = .int .i64 (j : Int) ∧ j ≤ M ∧ Ints W5.heap.size wr sv (LS.take j).flatten ∧ Below W5.heap.size W5 wr) (fun _ iv _ => (M - (intOf iv)).toNat)
        case atStart => exact ⟨0, rfl, by omega, hI0, Below.refl _ _⟩
        case round =>
          clear hI0
          obtain ⟨j, rfl, hjM, hIs, hbel⟩ := hrel
          obtain ⟨c1, hbw1⟩ := unhide HB _ (bw_tr b8 hbel)
          by_cases hlt : j < M
          · have q1 : (j : Int) < (M : Int) := by omega
            have q0 : (0 : Int) ≤ (j : Int) := by omega
            have hR := (unhide hRRh).bw hbel
            obtain ⟨l, hl⟩ : ∃ l, LS[j]? = some l := ⟨_, List.getElem?_eq_getElem (by have := unhide HMM; omega)⟩
            obtain ⟨u, hu⟩ : ∃ u, us[j]? = some u := ⟨_, List.getElem?_eq_getElem (by rw [hR.ul]; have := unhide HMM; omega)⟩
            have hul := hR.un j l u hl hu
            have hrow := hR.row
            rw [← unhide HMM] at hrow
            obtain ⟨g, cap, hoe, hgl, _, hfz⟩ := own_open hrow (by omega)
            cases hoe
            have k1 : wr.cell? ⟨g, j, none⟩ = some u := own_cell hrow rfl hu
            have hsz5 := hbel.size
            have hft : (LS.take (j + 1)).flatten = (LS.take j).flatten ++ l := by
              rw [List.take_add_one, hl]; simp
            have hfl := unhide HF (j + 1)
            rw [hft, List.length_append] at hfl
            have HFT := hide hft
            obtain ⟨ua, uc, rfl⟩ := own_slice hul
            generalize (LS.take j).flatten = fj at *
            clear hR hl hu hrow hft
            go_wp2_with (at_builtin; refine wpList_join rfl (.tmp 76) (.tmp 80) rfl W5.heap.size _ _ _ fj l rfl hIs rfl hul ?c1 hsz5 ?nx)
            case c1 => omega
            case nx =>
              intro v' w' hv' hb'
              have HN : Hid (Ints W5.heap.size w' v' (LS.take (j + 1)).flatten ∧ Below W5.heap.size W5 w') := ⟨by rw [unhide HFT]; exact hv', hbel.trans hb'⟩
              clear hv' hb' hul hIs k1 hfl
              go_wp2_with fail
              go_roundw
              case rel => exact ⟨j + 1, by go_num, by omega, (unhide HN).1, (unhide HN).2⟩
              case measure => simp [intOf]; omega
          · obtain rfl : j = M := by omega
            have hIn : Nums wr u13 LS.flatten := by
              have := hIs.nums; rwa [unhide HMM, List.take_length] at this
            have HIn : Hid (∀ W, Below wr.heap.size wr W → Nums W u13 LS.flatten) := fun W hW => hIn.bw hW
            have bR := bw_tr b8 hbel
            clear hIs hIn hRRh hbel HF HZ c0 hbw b8 c1 hbw1
            generalize wr = WR at *
            go_wp2_with fail
            go_loopw [15, 16] (fun iv _ wq => ∃ i : Nat, iv = .int .i64 (i : Int) ∧ i ≤ nl ∧ Below WR.heap.size WR wq) (fun iv _ _ => (nl - (intOf iv)).toNat)
            case atStart => exact ⟨0, rfl, by omega, Below.refl _ _⟩
            case round =>
              obtain ⟨k, rfl, hin, hbel⟩ := hrel
              have bz := bw_tr bR hbel
              obtain ⟨c0, hbw⟩ := unhide HB _ bz
              have K1 := hide (unhide KS _ hbw)
              go_wp2_with fail
              refine (unhide K1).mono ?_
              rintro e W5 ⟨rfl, b7⟩
              have bel5 := bw_tr hbel b7
              have bz5 := bw_tr bR bel5
              clear c0 hbw K1 b7 bz hbel
              obtain ⟨c0, hbw⟩ := unhide HB _ bz5
              by_cases hlt : k < nl
              · have q1 : (k : Int) < (nl : Int) := by omega
                obtain ⟨hp1, hp2, hp3⟩ := unhide HP k hlt
                obtain ⟨y, hy⟩ : ∃ y, y = 2 * k := ⟨_, rfl⟩
                rw [← hy] at hp1 hp2 hp3
                have cP := hp3 _ hbw
                have K3 := hide (unhide KN _ _ k hlt hbw (unhide HIn _ bel5))
                have hcc : Hid (pos (ndAt T y) = true → nms T LS.flatten k = if i = k then 0 else 1) := by rw [hy]; exact unhide HC k hlt
                have qy : 2 * (k : Int) = (y : Int) := by omega
                have qN : (y : Int) < (N : Int) := by have := unhide HN; omega
                have q0 : (0 : Int) ≤ (y : Int) := by omega
                clear hp3 hy hp1
                generalize nms T LS.flatten k = nn at *
                generalize (ndAt T y).pub = pb at *
                generalize pos (ndAt T y) = pq at *
                by_cases hki : i = k
                · subst hki
                  rcases hp2 with ⟨rfl, hp⟩ | ⟨rfl, hp⟩
                  · obtain rfl : nn = 0 := by simpa using unhide hcc rfl
                    go_wp2_with fail
                    refine (unhide K3).mono ?_
                    rintro e W6 ⟨rfl, b8⟩
                    go_wp2_with fail
                    go_roundw
                    case rel => exact ⟨i + 1, by go_num, by omega, bw_tr bel5 b8⟩
                    case measure => simp [intOf]; omega
                  · subst hp
                    go_wp2_with fail
                    go_roundw
                    case rel => exact ⟨i + 1, by go_num, by omega, bel5⟩
                    case measure => simp [intOf]; omega
                · have hki2 : ¬ (k : Int) = (i : Int) := by omega
                  have hki3 : ((k : Int) == (i : Int)) = false := by simp [hki2]
                  rcases hp2 with ⟨rfl, hp⟩ | ⟨rfl, hp⟩
                  · obtain rfl : nn = 1 := by simpa [hki] using unhide hcc rfl
                    go_wp2_with fail
                    refine (unhide K3).mono ?_
                    rintro e W6 ⟨rfl, b8⟩
                    go_wp2_with fail
                    go_roundw
                    case rel => exact ⟨k + 1, by go_num, by omega, bw_tr bel5 b8⟩
                    case measure => simp [intOf]; omega
                  · subst hp
                    go_wp2_with fail
                    go_roundw
                    case rel => exact ⟨k + 1, by go_num, by omega, bel5⟩
                    case measure => simp [intOf]; omega
              · obtain rfl : k = nl := by omega
                have KE2 := hide (unhide KE _ hbw)
                go_wp2_with fail
                refine (unhide KE2).mono ?_
                rintro e W9 ⟨rfl, b9⟩
                go_wp2
                go_ret
                exact ⟨rfl, b9⟩
      · have hE1 : (E2 == 0) = false := by simp [hE]
        have hE2 : decide (E2 = 0) = false := by simp [hE]
        have KE2 := hide (unhide KE _ hbw)
        go_wp2_with fail
        refine (unhide KE2).mono ?_
        rintro e W9 ⟨rfl, b9⟩
        go_wp2
        go_ret
        exact ⟨rfl, b9⟩
end Go.Proofs.YtjjkhjiiakamaaaDoor
