/- DiskApart: for every number of sectors and all writes, the law answers true: a write changes its own sector alone, and what is read is what was written there last. No condition (the law itself claims nothing of more than 200 writes or 64 sectors). -/
import Derived.Test.YtimhjheigejjmabDkEnvB
import Derived.Test.YtimhjheigejjmabDkN
namespace Go.Proofs.Ytimhjheigejjmab
open Go.ChangeShapes Go.WideShapes Go.ChangeAt Go.RowKit Go.Joins Go.Maps

theorem range_set {f : Nat → ByteArray} {N k : Nat} (hk : k < N) (s : ByteArray) : ((List.range N).map f).set k s = (List.range N).map (upd f k s) := by
  apply List.ext_getElem?
  intro j
  rw [List.getElem?_set]
  simp only [List.length_map, List.length_range, List.getElem?_map]
  by_cases c : k = j
  · subst c; simp [hk, upd]
  · by_cases d : j < N
    · simp [c, d, upd, Ne.symm c]
    · simp [c, d]
theorem put_now (S : DS) (k : Nat) (s : ByteArray) : ((S.put k s).did).now = upd S.now k s := cur_snoc _ _ _ _
theorem ED.setT {w W : World} {d : Nat} {S : DS} {rs : List Res} {v : Value} {l : List ByteArray} {g : Nat} (h : ED w W d S (resT v l :: rs)) (hg : v.ownBlock = some g) (k : Nat) (s : ByteArray) : ED w (W.setCell ⟨g, k, none⟩ (.string s)) d S (resT v (l.set k s) :: rs) := by
  obtain ⟨Z, h⟩ := h
  have hr : SRow W v l := h.sd
  refine ⟨Z, (h.swap.step (r' := resT v (l.set k s)) ⟨?_, fun x hx => Or.inl hx⟩ ?_).swap⟩
  · exact (Fr.refl _ W).setCell (Or.inr (by simp [resT, hg])) _
  · have := own_set hr hg (j := k) (.string s)
    show SRow _ _ _
    unfold SRow
    rw [List.length_set, List.map_set]
    exact this
/-- The disk, and beside it a row of what its sectors have. -/
def EA (w W : World) (d N : Nat) (v : Value) (i : Nat) : Prop := ∃ S, ED w W d S [resT v ((List.range N).map S.now)] ∧ S.up = true ∧ S.cut = none ∧ S.N = N ∧ S.cnt ≤ 2 * i ∧ S.since.length ≤ i
theorem EA.bel {w W : World} {d N i : Nat} {v : Value} (h : EA w W d N v i) : Below w.heap.size w W := by obtain ⟨S, h, _⟩ := h; exact h.bel
set_option maxRecDepth 100000 in
set_option maxHeartbeats 8000000 in
theorem DiskApart_walk (w : World) (n : Int) (hn1 : -9223372036854775808 ≤ n) (hn2 : n ≤ 9223372036854775807) (a1 : Option Addr) (cap1 : Nat) (l1 : List Wr) (h1 : WrsAt w a1 l1) :
    Calls Try.prog 3 #[.int .i64 n, .slice a1 l1.length cap1] w fun e w' => e = .returned (.bool true) ∧ Below w.heap.size w w' := by
  have hl1 := h1.len
  have HW := hide h1
  clear h1
  obtain ⟨M1, hM1⟩ : ∃ M, M = l1.length := ⟨_, rfl⟩
  rw [← hM1] at hl1 ⊢
  have HM := hide hM1
  clear hM1
  by_cases c1 : n < 1
  · have K := new_low n w c1
    clear hn1 hn2
    go_enter Try.func3, Try.ntmps3
    go_wp2_with fail
    refine K.mono ?_
    rintro e w ⟨rfl, rfl⟩
    go_wp2_with fail
    refine (alive5_any _).mono ?_
    rintro e w9 ⟨rfl, hb9⟩
    go_wp2_with fail
    go_ret
    exact ⟨rfl, hb9⟩
  by_cases c2 : 4096 < n
  · have K := new_high n w c2
    clear hn1 hn2
    go_enter Try.func3, Try.ntmps3
    go_wp2_with fail
    refine K.mono ?_
    rintro e w ⟨rfl, rfl⟩
    go_wp2_with fail
    refine (alive5_any _).mono ?_
    rintro e w9 ⟨rfl, hb9⟩
    go_wp2_with fail
    go_ret
    exact ⟨rfl, hb9⟩
  obtain ⟨N, rfl⟩ : ∃ N : Nat, n = (N : Int) := ⟨n.toNat, by omega⟩
  have K := ED.start (Env.nil w) N (by omega) (by omega)
  have HN : Hid (1 ≤ N ∧ N ≤ 4096) := ⟨by omega, by omega⟩
  have hNb : N ≤ 140737488355328 := by omega
  clear hn1 hn2 c1 c2
  go_enter Try.func3, Try.ntmps3
  go_wp2_with fail
  refine K.mono ?_
  rintro e w1 ⟨d, rfl, E1⟩
  clear K
  have E2 := hide (E1.new (bw_alloc w1 (.cells #[.int .i64 (M1 : Int)] 3)))
  have hc := cell_one5 w1 (.int .i64 (M1 : Int)) 3
  have KB := beyond_one w1.heap.size M1 1 (w1.alloc (.cells #[.int .i64 (M1 : Int)] 3)) (by omega) hc
  clear E1 hc
  by_cases big : 262144 < M1
  · rw [decide_eq_true big] at KB
    clear big
    go_wp2_with fail
    refine KB.mono ?_
    rintro e w2 ⟨rfl, rfl⟩
    go_wp2_with fail
    refine (alive5_any _).mono ?_
    rintro e w9 ⟨rfl, hb9⟩
    have hbb := bw_tr (unhide E2).bel hb9
    go_wp2_with fail
    go_ret
    exact ⟨rfl, hbb⟩
  rw [decide_eq_false big] at KB
  clear big
  by_cases g2 : (200 : Int) < (M1 : Int)
  · go_wp2_with fail
    refine KB.mono ?_
    rintro e w2 ⟨rfl, rfl⟩
    go_wp2_with fail
    refine (alive5_any _).mono ?_
    rintro e w9 ⟨rfl, hb9⟩
    have hbb := bw_tr (unhide E2).bel hb9
    go_wp2_with fail
    go_ret
    exact ⟨rfl, hbb⟩
  by_cases g3 : (64 : Int) < (N : Int)
  · go_wp2_with fail
    refine KB.mono ?_
    rintro e w2 ⟨rfl, rfl⟩
    go_wp2_with fail
    refine (alive5_any _).mono ?_
    rintro e w9 ⟨rfl, hb9⟩
    have hbb := bw_tr (unhide E2).bel hb9
    go_wp2_with fail
    go_ret
    exact ⟨rfl, hbb⟩
  go_wp2_with fail
  refine KB.mono ?_
  rintro e w2 ⟨rfl, rfl⟩
  clear KB
  generalize w1.alloc _ = w2 at *
  have HB : Hid (M1 ≤ 200 ∧ N ≤ 64) := ⟨by omega, by omega⟩
  have HE3 := hide (unhide E2).rows
  clear E2
  go_wp2_with fail
  clear g2 g3
  go_loopw [7, 8] (fun sv iv wr => ∃ i : Nat, i ≤ N ∧ iv = .int .i64 (i : Int) ∧ Hid (ED w wr d (DS.new N) [resT sv ((List.range i).map (DS.new N).now)])) (fun _ iv _ => (N - intOf iv).toNat)
  case atStart => exact ⟨0, by omega, rfl, HE3⟩
  case round =>
    clear HE3
    obtain ⟨i, hi, rfl, HR⟩ := hrel
    by_cases hlt : i < N
    · have hi1 : (i : Int) < (N : Int) := by omega
      go_wp2_with fail
      refine (noughts_any _).mono ?_
      rintro e w4 ⟨rfl, b4⟩
      have HE4 := hide ((unhide HR).new b4)
      clear b4 HR
      go_wp2_with (at_builtin; refine wpList_push rfl (.tmp 43) (.tmp 45) rfl rfl rfl (unhide HE4) (by have := (unhide HB).2; simp; omega) ?nx)
      case nx =>
        intro v' w5 E5
        have HE5 : Hid (ED w w5 d (DS.new N) [resT v' ((List.range (i + 1)).map (DS.new N).now)]) := by rw [List.range_succ, List.map_append]; exact E5
        clear E5 HE4
        go_wp2_with fail
        go_roundw
        case rel => exact ⟨i + 1, by omega, by go_num, HE5⟩
        case measure => simp only [intOf]; omega
    · obtain rfl : N = i := by omega
      have HE6 : Hid (EA w wr d N u7 0) := ⟨_, unhide HR, rfl, rfl, rfl, by simp [DS.new], by simp [DS.new]⟩
      clear HR hlt hi
      go_wp2_with fail
      go_loopw [9] (fun iv wr => ∃ i : Nat, i ≤ M1 ∧ iv = .int .i64 (i : Int) ∧ Hid (EA w wr d N u7 i)) (fun iv _ => (M1 - intOf iv).toNat)
      case atStart => exact ⟨0, by omega, rfl, HE6⟩
      case round =>
        clear HE6
        obtain ⟨i, hi, rfl, HR⟩ := hrel
        by_cases hlt : i < M1
        · obtain ⟨x, hx⟩ : ∃ x, l1[i]? = some x := ⟨_, List.getElem?_eq_getElem (by have := unhide HM; omega)⟩
          obtain ⟨b, off, rfl, hc⟩ := (unhide HW).get hx
          have HC := hide hc
          obtain ⟨S, ES, hu, hcu, hSN, hcnt, hsl⟩ := unhide HR
          obtain ⟨z1, z2⟩ := hc wr ES.bel
          obtain ⟨z3, z4⟩ := hc wr.drew ES.drew.bel
          have hpl := DS.write_plain hu hcu x.at_ x.s
          have hbnd := unhide HB
          have KW : Hid (Calls Try.prog 13 #[.pointer (some ⟨d, 0, none⟩), .int .i64 x.at_, .string x.s] wr.drew fun e W' => e = .returned (.int .i64 (S.write x.at_ x.s).2) ∧ ED w W' d (S.write x.at_ x.s).1 [resT u7 ((List.range N).map S.now)]) :=
            ES.drew.write (by omega) (by omega) x.at_ x.s ((unhide HW).fit x (List.mem_of_getElem? hx)).2.2
          have hxs := ((unhide HW).fit x (List.mem_of_getElem? hx)).2.2
          have hi1 : (i : Int) < (M1 : Int) := by omega
          have hmod : ((i : Int) % 3) = ((i % 3 : Nat) : Int) := by omega
          have htm : Int.tmod (i : Int) 3 = ((i % 3 : Nat) : Int) := by rw [Int.tmod_eq_emod_of_nonneg (by omega)]; omega
          obtain ⟨r, hr⟩ : ∃ r, r = i % 3 := ⟨_, rfl⟩
          rw [← hr] at hmod htm
          have HS := hide (And.intro hu (And.intro hcu (And.intro hSN (And.intro hcnt hsl))))
          clear ES hc hx HR hu hcu hcnt hsl hbnd hr
          rw [hSN] at hpl
          obtain ⟨xa, xs⟩ := x
          simp only at *
          by_cases hbad : xa < 0 ∨ (N : Int) ≤ xa ∨ xs.size ≠ 64
          · rw [if_pos hbad] at hpl
            rw [hpl] at KW
            have HBAD := hide hbad
            clear hpl hSN hbad
            go_wp2_with fail
            go_region_held3 (fun w' : World => w'.cell? ⟨b, off + i * 2, none⟩ = some (.int .i64 xa) ∧ w'.cell? ⟨b, off + i * 2 + 1, none⟩ = some (.string xs)) (first | exact ⟨z1, z2⟩ | exact ⟨z3, z4⟩ | exact ⟨z5, z6⟩) (
              (go_at_call 13; refine (unhide KW).mono ?_; rintro e w5 ⟨rfl, E5⟩; obtain ⟨z5, z6⟩ := unhide HC w5 E5.bel))
            all_goals
              have HE5 : Hid (S = S ∧ ED w w5 d S [resT u7 ((List.range N).map S.now)] ∧ S.cnt ≤ 2 * i ∧ S.since.length ≤ i ∧ S.up = true ∧ S.cut = none ∧ S.N = N) := ⟨rfl, E5, (unhide HS).2.2.2.1, (unhide HS).2.2.2.2, (unhide HS).1, (unhide HS).2.1, (unhide HS).2.2.1⟩
              clear KW E5 z1 z2 z3 z4
              by_cases q1 : xa < 0
              · have q2 : ¬ (0 ≤ xa) := by omega
                by_cases hr0 : r = 0
                · subst hr0
                  have KS := (unhide HE5).2.1.sync (by have := (unhide HE5).2.2.1; omega)
                  rw [DS.sync_plain (unhide HE5).2.2.2.2.1 (unhide HE5).2.2.2.2.2.1] at KS
                  go_wp2_with fail
                  refine KS.mono ?_
                  rintro e w6 ⟨rfl, E6⟩
                  have HE6 : Hid (EA w w6 d N u7 (i + 1)) := ⟨_, E6, (unhide HE5).2.2.2.2.1, (unhide HE5).2.2.2.2.2.1, (unhide HE5).2.2.2.2.2.2, Nat.le_trans (Nat.succ_le_succ (unhide HE5).2.2.1) (by omega), by simp [DS.did, DS.settle]⟩
                  clear KS E6 HE5
                  go_wp2_with fail
                  go_roundw
                  case rel => exact ⟨i + 1, by omega, by go_num, HE6⟩
                  case measure => simp only [intOf]; omega
                · have HE6 : Hid (EA w w5 d N u7 (i + 1)) := ⟨_, (unhide HE5).2.1, (unhide HE5).2.2.2.2.1, (unhide HE5).2.2.2.2.2.1, (unhide HE5).2.2.2.2.2.2, by have := (unhide HE5).2.2.1; omega, by have := (unhide HE5).2.2.2.1; omega⟩
                  have r1 : ((r : Nat) : Int) ≠ 0 := by omega
                  have r2 : (((r : Nat) : Int) == 0) = false := by rw [beq_eq_false_iff_ne]; exact r1
                  have r3 : decide (((r : Nat) : Int) = 0) = false := decide_eq_false r1
                  clear HE5
                  go_wp2_with fail
                  go_roundw
                  case rel => exact ⟨i + 1, by omega, by go_num, HE6⟩
                  case measure => simp only [intOf]; omega
              · by_cases q2 : (N : Int) ≤ xa
                · have q3 : ¬ (xa < (N : Int)) := by omega
                  have q4 : 0 ≤ xa := by omega
                  by_cases hr0 : r = 0
                  · subst hr0
                    have KS := (unhide HE5).2.1.sync (by have := (unhide HE5).2.2.1; omega)
                    rw [DS.sync_plain (unhide HE5).2.2.2.2.1 (unhide HE5).2.2.2.2.2.1] at KS
                    go_wp2_with fail
                    refine KS.mono ?_
                    rintro e w6 ⟨rfl, E6⟩
                    have HE6 : Hid (EA w w6 d N u7 (i + 1)) := ⟨_, E6, (unhide HE5).2.2.2.2.1, (unhide HE5).2.2.2.2.2.1, (unhide HE5).2.2.2.2.2.2, Nat.le_trans (Nat.succ_le_succ (unhide HE5).2.2.1) (by omega), by simp [DS.did, DS.settle]⟩
                    clear KS E6 HE5
                    go_wp2_with fail
                    go_roundw
                    case rel => exact ⟨i + 1, by omega, by go_num, HE6⟩
                    case measure => simp only [intOf]; omega
                  · have HE6 : Hid (EA w w5 d N u7 (i + 1)) := ⟨_, (unhide HE5).2.1, (unhide HE5).2.2.2.2.1, (unhide HE5).2.2.2.2.2.1, (unhide HE5).2.2.2.2.2.2, by have := (unhide HE5).2.2.1; omega, by have := (unhide HE5).2.2.2.1; omega⟩
                    have r1 : ((r : Nat) : Int) ≠ 0 := by omega
                    have r2 : (((r : Nat) : Int) == 0) = false := by rw [beq_eq_false_iff_ne]; exact r1
                    have r3 : decide (((r : Nat) : Int) = 0) = false := decide_eq_false r1
                    clear HE5
                    go_wp2_with fail
                    go_roundw
                    case rel => exact ⟨i + 1, by omega, by go_num, HE6⟩
                    case measure => simp only [intOf]; omega
                · have q3 : xa < (N : Int) := by omega
                  have q4 : 0 ≤ xa := by omega
                  have q5 : ((xs.size : Nat) : Int) ≠ 64 := by have := unhide HBAD; omega
                  have q6 : (((xs.size : Nat) : Int) == 64) = false := by rw [beq_eq_false_iff_ne]; exact q5
                  have q7 : decide (((xs.size : Nat) : Int) = 64) = false := decide_eq_false q5
                  by_cases hr0 : r = 0
                  · subst hr0
                    have KS := (unhide HE5).2.1.sync (by have := (unhide HE5).2.2.1; omega)
                    rw [DS.sync_plain (unhide HE5).2.2.2.2.1 (unhide HE5).2.2.2.2.2.1] at KS
                    go_wp2_with fail
                    refine KS.mono ?_
                    rintro e w6 ⟨rfl, E6⟩
                    have HE6 : Hid (EA w w6 d N u7 (i + 1)) := ⟨_, E6, (unhide HE5).2.2.2.2.1, (unhide HE5).2.2.2.2.2.1, (unhide HE5).2.2.2.2.2.2, Nat.le_trans (Nat.succ_le_succ (unhide HE5).2.2.1) (by omega), by simp [DS.did, DS.settle]⟩
                    clear KS E6 HE5
                    go_wp2_with fail
                    go_roundw
                    case rel => exact ⟨i + 1, by omega, by go_num, HE6⟩
                    case measure => simp only [intOf]; omega
                  · have HE6 : Hid (EA w w5 d N u7 (i + 1)) := ⟨_, (unhide HE5).2.1, (unhide HE5).2.2.2.2.1, (unhide HE5).2.2.2.2.2.1, (unhide HE5).2.2.2.2.2.2, by have := (unhide HE5).2.2.1; omega, by have := (unhide HE5).2.2.2.1; omega⟩
                    have r1 : ((r : Nat) : Int) ≠ 0 := by omega
                    have r2 : (((r : Nat) : Int) == 0) = false := by rw [beq_eq_false_iff_ne]; exact r1
                    have r3 : decide (((r : Nat) : Int) = 0) = false := decide_eq_false r1
                    clear HE5
                    go_wp2_with fail
                    go_roundw
                    case rel => exact ⟨i + 1, by omega, by go_num, HE6⟩
                    case measure => simp only [intOf]; omega
          · rw [if_neg hbad] at hpl
            rw [hpl] at KW
            obtain ⟨k, rfl⟩ : ∃ k : Nat, xa = (k : Int) := ⟨xa.toNat, by omega⟩
            have hk : k < N := by omega
            have q3 : ((k : Nat) : Int) < (N : Int) := by omega
            have q4 : 0 ≤ ((k : Nat) : Int) := by omega
            have q5 : ((xs.size : Nat) : Int) = 64 := by omega
            simp only [Int.toNat_natCast] at KW
            have HK := hide hk
            clear hpl hSN hbad hk
            go_wp2_with fail
            go_region_held3 (fun w' : World => w'.cell? ⟨b, off + i * 2, none⟩ = some (.int .i64 ((k : Nat) : Int)) ∧ w'.cell? ⟨b, off + i * 2 + 1, none⟩ = some (.string xs)) (first | exact ⟨z1, z2⟩ | exact ⟨z3, z4⟩ | exact ⟨z5, z6⟩) (
              (go_at_call 13; refine (unhide KW).mono ?_; rintro e w5 ⟨rfl, E5⟩; obtain ⟨z5, z6⟩ := unhide HC w5 E5.bel))
            all_goals
              obtain ⟨z7, z8⟩ := unhide HC w5.drew E5.drew.bel
              obtain ⟨g, cap, hsv, c8, hcap, hfz⟩ := E5.drew.row.cell (i := k) (s := S.now k) (by simp [unhide HK])
              rw [List.length_map, List.length_range] at hsv
              have hob : u7.ownBlock = some g := by rw [hsv]; rfl
              have E6 := E5.drew.setT hob k xs
              rw [range_set (unhide HK), ← put_now] at E6
              obtain ⟨z9, z10⟩ := unhide HC _ E6.bel
              have HE5 : Hid (S = S ∧ ED w (w5.drew.setCell ⟨g, k, none⟩ (.string xs)) d (S.put k xs).did [resT u7 ((List.range N).map (S.put k xs).did.now)] ∧ (S.put k xs).did.cnt ≤ 2 * i + 1 ∧ (S.put k xs).did.since.length ≤ i + 1 ∧ (S.put k xs).did.up = true ∧ (S.put k xs).did.cut = none ∧ (S.put k xs).did.N = N) := ⟨rfl, E6, by have := (unhide HS).2.2.2.1; simp only [DS.did, DS.put]; omega, by have := (unhide HS).2.2.2.2; simp [DS.did, DS.put]; omega, (unhide HS).1, (unhide HS).2.1, (unhide HS).2.2.1⟩
              subst hsv
              clear KW E5 E6 z1 z2 z3 z4 hob hcap
              go_wp2_with fail
              go_region_held3 (fun w' : World => w'.cell? ⟨b, off + i * 2, none⟩ = some (.int .i64 ((k : Nat) : Int)) ∧ w'.cell? ⟨b, off + i * 2 + 1, none⟩ = some (.string xs)) (first | exact ⟨z5, z6⟩ | exact ⟨z7, z8⟩ | exact ⟨z9, z10⟩) (fail)
              all_goals
                clear z5 z6 z7 z8 z9 z10 c8 hfz
                by_cases hr0 : r = 0
                · subst hr0
                  have KS := (unhide HE5).2.1.sync (by have := (unhide HE5).2.2.1; omega)
                  rw [DS.sync_plain (unhide HE5).2.2.2.2.1 (unhide HE5).2.2.2.2.2.1] at KS
                  go_wp2_with fail
                  refine KS.mono ?_
                  rintro e w6 ⟨rfl, E6⟩
                  have HE6 : Hid (EA w w6 d N (.slice (some ⟨g, 0, none⟩) N cap) (i + 1)) := ⟨_, E6, (unhide HE5).2.2.2.2.1, (unhide HE5).2.2.2.2.2.1, (unhide HE5).2.2.2.2.2.2, Nat.le_trans (Nat.succ_le_succ (unhide HE5).2.2.1) (by omega), by simp [DS.did, DS.settle]⟩
                  clear KS E6 HE5
                  go_wp2_with fail
                  go_roundw
                  case rel => exact ⟨i + 1, by omega, by go_num, HE6⟩
                  case measure => simp only [intOf]; omega
                · have HE6 : Hid (EA w _ d N (.slice (some ⟨g, 0, none⟩) N cap) (i + 1)) := ⟨_, (unhide HE5).2.1, (unhide HE5).2.2.2.2.1, (unhide HE5).2.2.2.2.2.1, (unhide HE5).2.2.2.2.2.2, by have := (unhide HE5).2.2.1; omega, by have := (unhide HE5).2.2.2.1; omega⟩
                  have r1 : ((r : Nat) : Int) ≠ 0 := by omega
                  have r2 : (((r : Nat) : Int) == 0) = false := by rw [beq_eq_false_iff_ne]; exact r1
                  have r3 : decide (((r : Nat) : Int) = 0) = false := decide_eq_false r1
                  clear HE5
                  go_wp2_with fail
                  go_roundw
                  case rel => exact ⟨i + 1, by omega, by go_num, HE6⟩
                  case measure => simp only [intOf]; omega
        · obtain rfl : M1 = i := by omega
          obtain ⟨S, ES, hu, hcu, hSN, _, _⟩ := unhide HR
          have HE7 := hide ES
          have HS := hide (And.intro hu hSN)
          clear HR ES hu hcu hSN hlt hi
          go_wp2_with fail
          go_loopw [12] (fun iv wr => ∃ k : Nat, k ≤ N ∧ iv = .int .i64 (k : Int) ∧ Hid (ED w wr d S [resT u7 ((List.range N).map S.now)])) (fun iv _ => (N - intOf iv).toNat)
          case atStart => exact ⟨0, by omega, rfl, HE7⟩
          case round =>
            clear HE7
            obtain ⟨k, hk, rfl, HR⟩ := hrel
            by_cases hlt : k < N
            · have KR := (unhide HR).read (k : Int)
              rw [now_read (unhide HS).1 (by rw [(unhide HS).2]; exact hlt)] at KR
              have hk1 : (k : Int) < (N : Int) := by omega
              go_wp2_with fail
              refine KR.mono ?_
              rintro e w8 ⟨rfl, E8, _⟩
              obtain ⟨g, cap, hsv, c8, hcap, _⟩ := E8.row.cell (i := k) (s := S.now k) (by simp [hlt])
              rw [List.length_map, List.length_range] at hsv
              subst hsv
              have HE8 := hide E8
              clear KR HR E8 hcap
              generalize S.now k = sk at *
              go_wp2_with fail
              go_roundw
              case rel => exact ⟨k + 1, by omega, by go_num, HE8⟩
              case measure => simp only [intOf]; omega
            · obtain rfl : N = k := by omega
              clear hk
              go_wp2_with fail
              refine (alive5_any _).mono ?_
              rintro e w9 ⟨rfl, hb9⟩
              have hbb := bw_tr (unhide HR).bel hb9
              go_wp2_with fail
              go_ret
              exact ⟨rfl, hbb⟩

set_option maxRecDepth 100000 in
theorem DiskApart_lifted (os : Os) (started : os.Started) (H : Type) (enc : TypeId × Value → H) :
    ReturnsInHanded {} Try.checked os 3 .any (Rows.diskApartSpec.pre6 enc Try.prog Try.f3 Rows.diskApartRow.domain false) (Rows.diskApartSpec.post enc Try.prog Try.f3 false true false false) := by
  refine returnsInHanded_of_change_sized (C := Try.checked) own started (by kernel_rfl) Try.func3
    (ChangeSpec.witness6 (enc := enc) (C := Try.checked) false ⟨#[], #[.int .i64 0, .slice none 0 0], []⟩ 8 (by kernel_rfl) (by kernel_rfl) (by kernel_rfl) (by kernel_rfl)) ?_
  intro W base args ds gs before hval0 hW hcnd hsz0 _
  have hval : ∀ (j : Nat) t v, Try.f3.params[j]? = some t → args[j]? = some v → Value.okWide Try.prog W .any base t v := hval0
  have hsz : (DataW.weightsEach Try.prog (Try.f3.params.toList ++ Rows.diskApartSpec.plain.varTypes Try.prog) (ds ++ gs)).all (· ≤ reachBytes) = true := hsz0
  have hW' := hW
  obtain ⟨p, q, hA0, hV, rfl, hfz, hnd⟩ := hW
  have hA : DataW.TrodAll enc Try.prog W 0 (fun _ => true) true Try.f3.params.toList args.toList ds p := hA0
  rw [Try.params3] at hA hval hsz
  obtain ⟨v0, vs0, d0, ds0, p0, q0, hargs, rfl, rfl, h0, r0⟩ := trodAll_cons hA
  obtain ⟨v1, vs1, d1, ds1, p1, q1, rfl, rfl, rfl, h1, r1⟩ := trodAll_cons r0
  obtain ⟨rfl, rfl, rfl⟩ := trodAll_nil r1
  obtain rfl : args = #[v0, v1] := by cases args; simp_all
  obtain ⟨rfl, rfl⟩ := trodVars_none hV
  obtain ⟨a0, rfl, rfl, rfl, w0⟩ := open_int Try.underlying3 (hval 0 3 v0 rfl rfl) h0
  have k1 := h1
  have lt1 : ∀ x ∈ p1, x.block < W.heap.size := by obtain ⟨m, hm⟩ := k1; exact DataW.trod_lt m _ _ _ hm
  obtain ⟨a1, len1, cap1, rfl⟩ := okWide_slice Try.underlying22 (hval 1 22 v1 rfl rfl)
  obtain ⟨l1, rfl, i1⟩ := open_writes h1 (fun n hn => by simpa using List.all_eq_true.1 hsz n (DataW.weights_mem_each (j := 1) (t := 22) rfl rfl n hn))
  clear hA0 hval0
  refine (DiskApart_walk W a0 (bounds64 w0).1 (bounds64 w0).2 a1 cap1 l1 i1).mono fun e W' ⟨he, bel⟩ => ?_
  subst he
  exact ⟨_, rfl, _, _, _, [], _, [], hW', trodAll_mk1 (shut_bool Try.underlying4 _), (trodAll_cons_mk (shut_int Try.underlying3 w0) (trodAll_cons_mk (Below.trod laidOut (by kernel_rfl) (of_decide_eq_true (by kernel_rfl)) k1 bel lt1) trodAll_mk0)), rfl, bel.frame _, fun h => by cases h⟩

theorem DiskApart_over : Rows.diskApartRow.holds Try.pinned (OpenSpec.ofChange Rows.diskApartSpec) :=
  OpenClaim.holds_of_wide 3 Try.f3 rfl rfl rfl rfl rfl rfl rfl ⟨rfl, rfl, rfl, rfl, rfl⟩ rfl rfl rfl rfl rfl (by kernel_rfl) Try.func3 (by kernel_rfl)
    (of_decide_eq_true (by kernel_rfl)) (by unfold Func.isWrapper; first | (rw [if_pos (by decide +kernel)]; kernel_rfl) | (rw [if_neg (by decide +kernel)]; exact ⟨rfl, rfl⟩))
    (fun os started H enc _ => DiskApart_lifted os started H enc)

theorem DiskApart_holds : Rows.DiskApartSaid := DiskApart_over
#print axioms DiskApart_holds

end Go.Proofs.Ytimhjheigejjmab
