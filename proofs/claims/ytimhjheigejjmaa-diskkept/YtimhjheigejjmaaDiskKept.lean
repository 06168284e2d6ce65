/- DiskKept: for every number of sectors and all writes, the law answers true: with the bits 0101.. all that was written stays, up to 31 writes. No condition (the law itself claims nothing of more than 2^18 writes). -/
import Derived.Test.YtimhjheigejjmaaDkEnvB
namespace Go.Proofs.Ytimhjheigejjmaa
open Go.ChangeShapes Go.WideShapes Go.ChangeAt Go.RowKit Go.Joins Go.Maps

set_option maxRecDepth 100000 in
set_option maxHeartbeats 8000000 in
theorem DiskKept_walk (w : World) (n : Int) (hn1 : -9223372036854775808 ≤ n) (hn2 : n ≤ 9223372036854775807) (a1 : Option Addr) (cap1 : Nat) (l1 : List Wr) (h1 : WrsAt w a1 l1) :
    Calls Try.prog 8 #[.int .i64 n, .slice a1 l1.length cap1] w fun e w' => e = .returned (.bool true) ∧ Below w.heap.size w w' := by
  have hl1 := h1.len
  have HW := hide h1
  clear h1
  obtain ⟨M1, hM1⟩ : ∃ M, M = l1.length := ⟨_, rfl⟩
  rw [← hM1] at hl1 ⊢
  have HM := hide hM1
  clear hM1
  by_cases c1 : n < 1
  · have K := new_low n w c1
    clear hn1 hn2
    go_enter Try.func8, Try.ntmps8
    go_wp2_with fail
    refine K.mono ?_
    rintro e w ⟨rfl, rfl⟩
    go_wp2_with fail
    refine (alive5_any _).mono ?_
    rintro e w9 ⟨rfl, hb9⟩
    go_wp2_with fail
    go_ret
    exact ⟨rfl, hb9⟩
  by_cases c2 : 4096 < n
  · have K := new_high n w c2
    clear hn1 hn2
    go_enter Try.func8, Try.ntmps8
    go_wp2_with fail
    refine K.mono ?_
    rintro e w ⟨rfl, rfl⟩
    go_wp2_with fail
    refine (alive5_any _).mono ?_
    rintro e w9 ⟨rfl, hb9⟩
    go_wp2_with fail
    go_ret
    exact ⟨rfl, hb9⟩
  obtain ⟨N, rfl⟩ : ∃ N : Nat, n = (N : Int) := ⟨n.toNat, by omega⟩
  have K := ED.start (Env.nil w) N (by omega) (by omega)
  have HN : Hid (1 ≤ N ∧ N ≤ 4096) := ⟨by omega, by omega⟩
  have hNb : N ≤ 140737488355328 := by omega
  clear hn1 hn2 c1 c2
  go_enter Try.func8, Try.ntmps8
  go_wp2_with fail
  refine K.mono ?_
  rintro e w1 ⟨d, rfl, E1⟩
  clear K
  have E2 := hide (E1.new (bw_alloc w1 (.cells #[.int .i64 (M1 : Int)] 3)))
  have hc := cell_one5 w1 (.int .i64 (M1 : Int)) 3
  have KB := beyond_one w1.heap.size M1 1 (w1.alloc (.cells #[.int .i64 (M1 : Int)] 3)) (by omega) hc
  clear E1 hc
  by_cases big : 262144 < M1
  · rw [decide_eq_true big] at KB
    clear big
    go_wp2_with fail
    refine KB.mono ?_
    rintro e w2 ⟨rfl, rfl⟩
    go_wp2_with fail
    refine (alive5_any _).mono ?_
    rintro e w9 ⟨rfl, hb9⟩
    have hbb := bw_tr (unhide E2).bel hb9
    go_wp2_with fail
    go_ret
    exact ⟨rfl, hbb⟩
  rw [decide_eq_false big] at KB
  have HB := hide big
  clear big
  go_wp2_with fail
  refine KB.mono ?_
  rintro e w2 ⟨rfl, rfl⟩
  clear KB
  generalize w1.alloc _ = w2 at *
  have HP0 := hide (wrote (S := DS.new N) rfl rfl)
  go_wp2_with fail
  go_loopw [7, 8] (fun dv iv wr => ∃ i q : Nat, i ≤ M1 ∧ iv = .int .i64 (i : Int) ∧ dv = .int .i64 (q : Int) ∧ q ≤ 31 ∧ Hid (ED w wr d (wrs (DS.new N) (l1.take i)) [] ∧ (wrs (DS.new N) (l1.take i)).since.length = q)) (fun _ iv _ => (M1 - intOf iv).toNat)
  case atStart => exact ⟨0, 0, by omega, rfl, rfl, by omega, ⟨E2, rfl⟩⟩
  case round =>
    clear E2
    obtain ⟨i, q, hi, rfl, rfl, hq, HR⟩ := hrel
    have HS0 : Hid ((wrs (DS.new N) (l1.take i)).up = true ∧ (wrs (DS.new N) (l1.take i)).cut = none ∧ (wrs (DS.new N) (l1.take i)).N = N ∧ (wrs (DS.new N) (l1.take i)).cnt ≤ 262144) := by
      have p0 := unhide HP0 (l1.take i)
      have hlen : (l1.take i).length ≤ 262144 := by have := unhide HB; have := unhide HM; simp; omega
      have n0 : (DS.new N).cnt = 0 := rfl
      exact ⟨p0.up, p0.cut, p0.N, by have := p0.cnt; omega⟩
    by_cases hgo : i < M1
    · by_cases hq1 : (q : Int) < 31
      · obtain ⟨x, hx⟩ : ∃ x, l1[i]? = some x := ⟨_, List.getElem?_eq_getElem (by have := unhide HM; omega)⟩
        obtain ⟨b, off, rfl, hc⟩ := (unhide HW).get hx
        have HC := hide hc
        obtain ⟨z1, z2⟩ := hc wr (unhide HR).1.bel
        obtain ⟨z3, z4⟩ := hc wr.drew (unhide HR).1.drew.bel
        have hnx := wrs_take (S := DS.new N) hx
        have hpl := DS.write_plain (unhide HS0).1 (unhide HS0).2.1 x.at_ x.s
        have KW : Hid (Calls Try.prog 18 #[.pointer (some ⟨d, 0, none⟩), .int .i64 x.at_, .string x.s] wr.drew fun e W' => e = .returned (.int .i64 ((wrs (DS.new N) (l1.take i)).write x.at_ x.s).2) ∧ ED w W' d ((wrs (DS.new N) (l1.take i)).write x.at_ x.s).1 []) :=
          (unhide HR).1.drew.write (by have := (unhide HS0).2.2.2; omega) (by have := (unhide HR).2; omega) x.at_ x.s ((unhide HW).fit x (List.mem_of_getElem? hx)).2.2
        have hi1 : (i : Int) < (M1 : Int) := by omega
        by_cases hbad : x.at_ < 0 ∨ ((wrs (DS.new N) (l1.take i)).N : Int) ≤ x.at_ ∨ x.s.size ≠ 64
        · rw [if_pos hbad] at hpl
          rw [hpl] at KW hnx
          have HX : Hid (∀ W, ED w W d (wrs (DS.new N) (l1.take i)) [] → ED w W d (wrs (DS.new N) (l1.take (i + 1))) [] ∧ (wrs (DS.new N) (l1.take (i + 1))).since.length = q) := fun W hW => by rw [hnx]; exact ⟨hW, (unhide HR).2⟩
          clear hc hnx hx hpl hbad HR HS0
          obtain ⟨xa, xs⟩ := x
          simp only at *
          go_wp2_with fail
          go_region_held3 (fun w' : World => w'.cell? ⟨b, off + i * 2, none⟩ = some (.int .i64 xa) ∧ w'.cell? ⟨b, off + i * 2 + 1, none⟩ = some (.string xs)) (first | exact ⟨z1, z2⟩ | exact ⟨z3, z4⟩ | exact ⟨z5, z6⟩) (
            (go_at_call 18; refine (unhide KW).mono ?_; rintro e w5 ⟨rfl, E5⟩; obtain ⟨z5, z6⟩ := unhide HC w5 E5.bel))
          all_goals
            have HE5 := hide (unhide HX w5 E5)
            clear E5 KW z5 z6 HX
            go_wp2_with fail
            go_roundw
            case rel => exact ⟨i + 1, q, by omega, by go_num, rfl, by omega, HE5⟩
            case measure => simp only [intOf]; omega
        · rw [if_neg hbad] at hpl
          rw [hpl] at KW hnx
          have HX : Hid (∀ W, ED w W d ((wrs (DS.new N) (l1.take i)).put x.at_.toNat x.s).did [] → ED w W d (wrs (DS.new N) (l1.take (i + 1))) [] ∧ (wrs (DS.new N) (l1.take (i + 1))).since.length = q + 1) := fun W hW => by
            rw [hnx]; exact ⟨hW, by have := (unhide HR).2; simp [DS.did, DS.put, this]⟩
          clear hc hnx hx hpl hbad HR HS0
          obtain ⟨xa, xs⟩ := x
          simp only at *
          go_wp2_with fail
          go_region_held3 (fun w' : World => w'.cell? ⟨b, off + i * 2, none⟩ = some (.int .i64 xa) ∧ w'.cell? ⟨b, off + i * 2 + 1, none⟩ = some (.string xs)) (first | exact ⟨z1, z2⟩ | exact ⟨z3, z4⟩ | exact ⟨z5, z6⟩) (
            (go_at_call 18; refine (unhide KW).mono ?_; rintro e w5 ⟨rfl, E5⟩; obtain ⟨z5, z6⟩ := unhide HC w5 E5.bel))
          all_goals
            have HE5 := hide (unhide HX w5 E5)
            clear E5 KW z5 z6 HX
            go_wp2_with fail
            go_roundw
            case rel => exact ⟨i + 1, q + 1, by omega, by go_num, by go_num, by omega, HE5⟩
            case measure => simp only [intOf]; omega
      · have HE3 := hide (unhide HR).1.rows
        obtain ⟨S1, hS1⟩ : ∃ S, S = wrs (DS.new N) (l1.take i) := ⟨_, rfl⟩
        have HS1 : Hid (S1.up = true ∧ S1.N = N ∧ S1.since.length ≤ 31) := by rw [hS1]; exact ⟨(unhide HS0).1, (unhide HS0).2.2.1, by have := (unhide HR).2; omega⟩
        rw [← hS1] at HE3
        have hi1 : (i : Int) < (M1 : Int) := by omega
        clear hS1 HR HS0 hq hgo
        obtain ⟨HQ, _⟩ : Hid (S1.up = true ∧ S1.N = N ∧ S1.since.length ≤ 31) ∧ True := ⟨HS1, trivial⟩
        go_wp2_with fail
        go_loopw [9, 10] (fun sv iv wr => ∃ i : Nat, i ≤ N ∧ iv = .int .i64 (i : Int) ∧ Hid (ED w wr d S1 [resT sv ((List.range i).map S1.now)])) (fun _ iv _ => (N - intOf iv).toNat)
        case atStart => exact ⟨0, by omega, rfl, HE3⟩
        case round =>
          clear HE3
          obtain ⟨i, hi, rfl, HR⟩ := hrel
          by_cases hlt : i < N
          · have KR := (unhide HR).read (i : Int)
            rw [now_read (unhide HQ).1 (by rw [(unhide HQ).2.1]; exact hlt)] at KR
            have hi1 : (i : Int) < (N : Int) := by omega
            go_wp2_with fail
            refine KR.mono ?_
            rintro e w4 ⟨rfl, E4, _⟩
            clear KR HR
            have HE4 := hide E4
            have hNN := (unhide HN).2
            clear E4
            go_wp2_with (at_builtin; refine wpList_push rfl (.tmp 66) (.tmp 68) rfl rfl rfl (unhide HE4) (by simp; omega) ?nx)
            case nx =>
              intro v' w5 E5
              have HE5 : Hid (ED w w5 d S1 [resT v' ((List.range (i + 1)).map S1.now)]) := by rw [List.range_succ, List.map_append]; exact E5
              clear E5 HE4 hNN
              go_wp2_with fail
              go_roundw
              case rel => exact ⟨i + 1, by omega, by go_num, HE5⟩
              case measure => simp only [intOf]; omega
          · obtain rfl : i = N := by omega
            clear hlt hi
            have KC := (unhide HR).crash 6148914691236517205
            rw [DS.crash_plain (unhide HQ).1] at KC
            have HG : Hid (({ S1.fall 6148914691236517205 with up := true, cut := none } : DS).N = i ∧ ({ S1.fall 6148914691236517205 with up := true, cut := none } : DS).base = S1.now) := ⟨(unhide HQ).2.1, fall_kept S1 (unhide HQ).2.2⟩
            clear HR
            go_wp2_with fail
            refine KC.mono ?_
            rintro e w6 ⟨rfl, E6⟩
            have KT := E6.begin
            rw [DS.start_down rfl] at KT
            clear E6 KC
            go_wp2_with fail
            refine KT.mono ?_
            rintro e w7 ⟨rfl, E7⟩
            have HE7 := hide E7
            clear E7 KT
            obtain ⟨S3, hS3⟩ : ∃ S : DS, S = { S1.fall 6148914691236517205 with up := true, cut := none } := ⟨_, rfl⟩
            have HS3 : Hid (S3.up = true ∧ S3.since = [] ∧ S3.N = i ∧ S3.base = S1.now) := by rw [hS3]; exact ⟨rfl, rfl, (unhide HG).1, (unhide HG).2⟩
            rw [← hS3] at HE7
            clear HG hS3
            go_wp2_with fail
            go_loopw [13] (fun iv wr => ∃ k : Nat, k ≤ i ∧ iv = .int .i64 (k : Int) ∧ Hid (ED w wr d S3 [resT u9 ((List.range i).map S1.now)])) (fun iv _ => (i - intOf iv).toNat)
            case atStart => exact ⟨0, by omega, rfl, HE7⟩
            case round =>
              clear HE7
              obtain ⟨k, hk, rfl, HR⟩ := hrel
              by_cases hlt : k < i
              · have KR := (unhide HR).read (k : Int)
                rw [synced_read (unhide HS3).1 (unhide HS3).2.1 (unhide HS3).2.2.2 (by rw [(unhide HS3).2.2.1]; exact hlt)] at KR
                have hk1 : (k : Int) < (i : Int) := by omega
                go_wp2_with fail
                refine KR.mono ?_
                rintro e w8 ⟨rfl, E8, _⟩
                obtain ⟨g, cap, hsv, c8, hcap, _⟩ := E8.row.cell (i := k) (s := S1.now k) (by simp [hlt])
                rw [List.length_map, List.length_range] at hsv
                subst hsv
                have HE8 := hide E8
                clear KR HR E8 hcap
                generalize S1.now k = sk at *
                go_wp2_with fail
                go_roundw
                case rel => exact ⟨k + 1, by omega, by go_num, HE8⟩
                case measure => simp only [intOf]; omega
              · obtain rfl : k = i := by omega
                clear hk
                go_wp2_with fail
                refine (alive5_any _).mono ?_
                rintro e w9 ⟨rfl, hb9⟩
                have hbb := bw_tr (unhide HR).bel hb9
                go_wp2_with fail
                go_ret
                exact ⟨rfl, hbb⟩
    · have HE3 := hide (unhide HR).1.rows
      obtain ⟨S1, hS1⟩ : ∃ S, S = wrs (DS.new N) (l1.take i) := ⟨_, rfl⟩
      have HS1 : Hid (S1.up = true ∧ S1.N = N ∧ S1.since.length ≤ 31) := by rw [hS1]; exact ⟨(unhide HS0).1, (unhide HS0).2.2.1, by have := (unhide HR).2; omega⟩
      rw [← hS1] at HE3
      have hi1 : ¬ ((i : Int) < (M1 : Int)) := by omega
      clear hS1 HR HS0 hq hgo
      obtain ⟨HQ, _⟩ : Hid (S1.up = true ∧ S1.N = N ∧ S1.since.length ≤ 31) ∧ True := ⟨HS1, trivial⟩
      go_wp2_with fail
      go_loopw [9, 10] (fun sv iv wr => ∃ i : Nat, i ≤ N ∧ iv = .int .i64 (i : Int) ∧ Hid (ED w wr d S1 [resT sv ((List.range i).map S1.now)])) (fun _ iv _ => (N - intOf iv).toNat)
      case atStart => exact ⟨0, by omega, rfl, HE3⟩
      case round =>
        clear HE3
        obtain ⟨i, hi, rfl, HR⟩ := hrel
        by_cases hlt : i < N
        · have KR := (unhide HR).read (i : Int)
          rw [now_read (unhide HQ).1 (by rw [(unhide HQ).2.1]; exact hlt)] at KR
          have hi1 : (i : Int) < (N : Int) := by omega
          go_wp2_with fail
          refine KR.mono ?_
          rintro e w4 ⟨rfl, E4, _⟩
          clear KR HR
          have HE4 := hide E4
          have hNN := (unhide HN).2
          clear E4
          go_wp2_with (at_builtin; refine wpList_push rfl (.tmp 66) (.tmp 68) rfl rfl rfl (unhide HE4) (by simp; omega) ?nx)
          case nx =>
            intro v' w5 E5
            have HE5 : Hid (ED w w5 d S1 [resT v' ((List.range (i + 1)).map S1.now)]) := by rw [List.range_succ, List.map_append]; exact E5
            clear E5 HE4 hNN
            go_wp2_with fail
            go_roundw
            case rel => exact ⟨i + 1, by omega, by go_num, HE5⟩
            case measure => simp only [intOf]; omega
        · obtain rfl : i = N := by omega
          clear hlt hi
          have KC := (unhide HR).crash 6148914691236517205
          rw [DS.crash_plain (unhide HQ).1] at KC
          have HG : Hid (({ S1.fall 6148914691236517205 with up := true, cut := none } : DS).N = i ∧ ({ S1.fall 6148914691236517205 with up := true, cut := none } : DS).base = S1.now) := ⟨(unhide HQ).2.1, fall_kept S1 (unhide HQ).2.2⟩
          clear HR
          go_wp2_with fail
          refine KC.mono ?_
          rintro e w6 ⟨rfl, E6⟩
          have KT := E6.begin
          rw [DS.start_down rfl] at KT
          clear E6 KC
          go_wp2_with fail
          refine KT.mono ?_
          rintro e w7 ⟨rfl, E7⟩
          have HE7 := hide E7
          clear E7 KT
          obtain ⟨S3, hS3⟩ : ∃ S : DS, S = { S1.fall 6148914691236517205 with up := true, cut := none } := ⟨_, rfl⟩
          have HS3 : Hid (S3.up = true ∧ S3.since = [] ∧ S3.N = i ∧ S3.base = S1.now) := by rw [hS3]; exact ⟨rfl, rfl, (unhide HG).1, (unhide HG).2⟩
          rw [← hS3] at HE7
          clear HG hS3
          go_wp2_with fail
          go_loopw [13] (fun iv wr => ∃ k : Nat, k ≤ i ∧ iv = .int .i64 (k : Int) ∧ Hid (ED w wr d S3 [resT u9 ((List.range i).map S1.now)])) (fun iv _ => (i - intOf iv).toNat)
          case atStart => exact ⟨0, by omega, rfl, HE7⟩
          case round =>
            clear HE7
            obtain ⟨k, hk, rfl, HR⟩ := hrel
            by_cases hlt : k < i
            · have KR := (unhide HR).read (k : Int)
              rw [synced_read (unhide HS3).1 (unhide HS3).2.1 (unhide HS3).2.2.2 (by rw [(unhide HS3).2.2.1]; exact hlt)] at KR
              have hk1 : (k : Int) < (i : Int) := by omega
              go_wp2_with fail
              refine KR.mono ?_
              rintro e w8 ⟨rfl, E8, _⟩
              obtain ⟨g, cap, hsv, c8, hcap, _⟩ := E8.row.cell (i := k) (s := S1.now k) (by simp [hlt])
              rw [List.length_map, List.length_range] at hsv
              subst hsv
              have HE8 := hide E8
              clear KR HR E8 hcap
              generalize S1.now k = sk at *
              go_wp2_with fail
              go_roundw
              case rel => exact ⟨k + 1, by omega, by go_num, HE8⟩
              case measure => simp only [intOf]; omega
            · obtain rfl : k = i := by omega
              clear hk
              go_wp2_with fail
              refine (alive5_any _).mono ?_
              rintro e w9 ⟨rfl, hb9⟩
              have hbb := bw_tr (unhide HR).bel hb9
              go_wp2_with fail
              go_ret
              exact ⟨rfl, hbb⟩

set_option maxRecDepth 100000 in
theorem DiskKept_lifted (os : Os) (started : os.Started) (H : Type) (enc : TypeId × Value → H) :
    ReturnsInHanded {} Try.checked os 8 .any (Rows.diskKeptSpec.pre6 enc Try.prog Try.f8 Rows.diskKeptRow.domain false) (Rows.diskKeptSpec.post enc Try.prog Try.f8 false true false false) := by
  refine returnsInHanded_of_change_sized (C := Try.checked) own started (by kernel_rfl) Try.func8
    (ChangeSpec.witness6 (enc := enc) (C := Try.checked) false ⟨#[], #[.int .i64 0, .slice none 0 0], []⟩ 8 (by kernel_rfl) (by kernel_rfl) (by kernel_rfl) (by kernel_rfl)) ?_
  intro W base args ds gs before hval0 hW hcnd hsz0 _
  have hval : ∀ (j : Nat) t v, Try.f8.params[j]? = some t → args[j]? = some v → Value.okWide Try.prog W .any base t v := hval0
  have hsz : (DataW.weightsEach Try.prog (Try.f8.params.toList ++ Rows.diskKeptSpec.plain.varTypes Try.prog) (ds ++ gs)).all (· ≤ reachBytes) = true := hsz0
  have hW' := hW
  obtain ⟨p, q, hA0, hV, rfl, hfz, hnd⟩ := hW
  have hA : DataW.TrodAll enc Try.prog W 0 (fun _ => true) true Try.f8.params.toList args.toList ds p := hA0
  rw [Try.params8] at hA hval hsz
  obtain ⟨v0, vs0, d0, ds0, p0, q0, hargs, rfl, rfl, h0, r0⟩ := trodAll_cons hA
  obtain ⟨v1, vs1, d1, ds1, p1, q1, rfl, rfl, rfl, h1, r1⟩ := trodAll_cons r0
  obtain ⟨rfl, rfl, rfl⟩ := trodAll_nil r1
  obtain rfl : args = #[v0, v1] := by cases args; simp_all
  obtain ⟨rfl, rfl⟩ := trodVars_none hV
  obtain ⟨a0, rfl, rfl, rfl, w0⟩ := open_int Try.underlying3 (hval 0 3 v0 rfl rfl) h0
  have k1 := h1
  have lt1 : ∀ x ∈ p1, x.block < W.heap.size := by obtain ⟨m, hm⟩ := k1; exact DataW.trod_lt m _ _ _ hm
  obtain ⟨a1, len1, cap1, rfl⟩ := okWide_slice Try.underlying36 (hval 1 36 v1 rfl rfl)
  obtain ⟨l1, rfl, i1⟩ := open_writes h1 (fun n hn => by simpa using List.all_eq_true.1 hsz n (DataW.weights_mem_each (j := 1) (t := 36) rfl rfl n hn))
  clear hA0 hval0
  refine (DiskKept_walk W a0 (bounds64 w0).1 (bounds64 w0).2 a1 cap1 l1 i1).mono fun e W' ⟨he, bel⟩ => ?_
  subst he
  exact ⟨_, rfl, _, _, _, [], _, [], hW', trodAll_mk1 (shut_bool Try.underlying4 _), (trodAll_cons_mk (shut_int Try.underlying3 w0) (trodAll_cons_mk (Below.trod laidOut (by kernel_rfl) (of_decide_eq_true (by kernel_rfl)) k1 bel lt1) trodAll_mk0)), rfl, bel.frame _, fun h => by cases h⟩

theorem DiskKept_over : Rows.diskKeptRow.holds Try.pinned (OpenSpec.ofChange Rows.diskKeptSpec) :=
  OpenClaim.holds_of_wide 8 Try.f8 rfl rfl rfl rfl rfl rfl rfl ⟨rfl, rfl, rfl, rfl, rfl⟩ rfl rfl rfl rfl rfl (by kernel_rfl) Try.func8 (by kernel_rfl)
    (of_decide_eq_true (by kernel_rfl)) (by unfold Func.isWrapper; first | (rw [if_pos (by decide +kernel)]; kernel_rfl) | (rw [if_neg (by decide +kernel)]; exact ⟨rfl, rfl⟩))
    (fun os started H enc _ => DiskKept_lifted os started H enc)

theorem DiskKept_holds : Rows.DiskKeptSaid := DiskKept_over
#print axioms DiskKept_holds

end Go.Proofs.Ytimhjheigejjmaa
