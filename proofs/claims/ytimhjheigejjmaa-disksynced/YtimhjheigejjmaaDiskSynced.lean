/- DiskSynced: for every number of sectors and all writes before and behind a sync, the law answers true: what was synced stays. No condition (the law itself claims nothing of more than 2^18 writes). -/
import Derived.Test.YtimhjheigejjmaaDkEnvB
namespace Go.Proofs.Ytimhjheigejjmaa
open Go.ChangeShapes Go.WideShapes Go.ChangeAt Go.RowKit Go.Joins Go.Maps

set_option maxRecDepth 100000 in
set_option maxHeartbeats 8000000 in
theorem DiskSynced_walk (w : World) (n : Int) (hn1 : -9223372036854775808 ≤ n) (hn2 : n ≤ 9223372036854775807) (a1 : Option Addr) (cap1 : Nat) (l1 : List Wr) (h1 : WrsAt w a1 l1) (a2 : Option Addr) (cap2 : Nat) (l2 : List Wr) (h2 : WrsAt w a2 l2) :
    Calls Try.prog 4 #[.int .i64 n, .slice a1 l1.length cap1, .slice a2 l2.length cap2] w fun e w' => e = .returned (.bool true) ∧ Below w.heap.size w w' := by
  have hl1 := h1.len
  have hl2 := h2.len
  have HW := hide (And.intro h1 h2)
  clear h1 h2
  obtain ⟨M1, hM1⟩ : ∃ M, M = l1.length := ⟨_, rfl⟩
  obtain ⟨M2, hM2⟩ : ∃ M, M = l2.length := ⟨_, rfl⟩
  rw [← hM1] at hl1 ⊢
  rw [← hM2] at hl2 ⊢
  have HM := hide (And.intro hM1 hM2)
  clear hM1 hM2
  by_cases c1 : n < 1
  · have K := new_low n w c1
    clear hn1 hn2
    go_enter Try.func4, Try.ntmps4
    go_wp2_with fail
    refine K.mono ?_
    rintro e w ⟨rfl, rfl⟩
    go_wp2_with fail
    refine (alive5_any _).mono ?_
    rintro e w9 ⟨rfl, hb9⟩
    go_wp2_with fail
    go_ret
    exact ⟨rfl, hb9⟩
  by_cases c2 : 4096 < n
  · have K := new_high n w c2
    clear hn1 hn2
    go_enter Try.func4, Try.ntmps4
    go_wp2_with fail
    refine K.mono ?_
    rintro e w ⟨rfl, rfl⟩
    go_wp2_with fail
    refine (alive5_any _).mono ?_
    rintro e w9 ⟨rfl, hb9⟩
    go_wp2_with fail
    go_ret
    exact ⟨rfl, hb9⟩
  obtain ⟨N, rfl⟩ : ∃ N : Nat, n = (N : Int) := ⟨n.toNat, by omega⟩
  have K := ED.start (Env.nil w) N (by omega) (by omega)
  have HN : Hid (1 ≤ N ∧ N ≤ 4096) := ⟨by omega, by omega⟩
  have hNb : N ≤ 140737488355328 := by omega
  clear hn1 hn2 c1 c2
  go_enter Try.func4, Try.ntmps4
  go_wp2_with fail
  refine K.mono ?_
  rintro e w1 ⟨d, rfl, E1⟩
  clear K
  have E2 := hide (E1.new (bw_alloc w1 (.cells #[.int .i64 (M1 : Int), .int .i64 (M2 : Int)] 3)))
  have hc := cell_two5 w1 (.int .i64 (M1 : Int)) (.int .i64 (M2 : Int)) 3
  have KB := beyond_two w1.heap.size M1 M2 2 (w1.alloc (.cells #[.int .i64 (M1 : Int), .int .i64 (M2 : Int)] 3)) (by omega) (by omega) hc.1 hc.2
  clear E1 hc
  by_cases big : 262144 < M1 + M2
  · rw [decide_eq_true big] at KB
    clear big
    go_wp2_with fail
    refine KB.mono ?_
    rintro e w2 ⟨rfl, rfl⟩
    go_wp2_with fail
    refine (alive5_any _).mono ?_
    rintro e w9 ⟨rfl, hb9⟩
    have hbb := bw_tr (unhide E2).bel hb9
    go_wp2_with fail
    go_ret
    exact ⟨rfl, hbb⟩
  rw [decide_eq_false big] at KB
  have HB := hide big
  clear big
  go_wp2_with fail
  refine KB.mono ?_
  rintro e w2 ⟨rfl, rfl⟩
  clear KB
  generalize w1.alloc _ = w2 at *
  have HP0 := hide (wrote (S := DS.new N) rfl rfl)
  go_wp2_with fail
  go_loopw [9] (fun iv wr => ∃ i : Nat, i ≤ M1 ∧ iv = .int .i64 (i : Int) ∧ Hid (ED w wr d (wrs (DS.new N) (l1.take i)) [])) (fun iv _ => (M1 - intOf iv).toNat)
  case atStart => exact ⟨0, by omega, rfl, E2⟩
  case round =>
    clear E2
    obtain ⟨i, hi, rfl, HR⟩ := hrel
    by_cases hlt : i < M1
    · obtain ⟨x, hx⟩ : ∃ x, l1[i]? = some x := ⟨_, List.getElem?_eq_getElem (by have := unhide HM; omega)⟩
      obtain ⟨b, off, rfl, hc⟩ := (unhide HW).1.get hx
      have HC := hide hc
      obtain ⟨z1, z2⟩ := hc wr (unhide HR).bel
      obtain ⟨z3, z4⟩ := hc wr.drew (unhide HR).drew.bel
      have p0 := unhide HP0 (l1.take i)
      have hlen : (l1.take i).length ≤ 262144 := by have := unhide HB; have := unhide HM; simp; omega
      have q1 := p0.cnt
      have q2 := p0.len
      have n0 : (DS.new N).cnt = 0 := rfl; have n1 : (DS.new N).since.length = 0 := rfl
      have KW : Hid (Calls Try.prog 18 #[.pointer (some ⟨d, 0, none⟩), .int .i64 x.at_, .string x.s] wr.drew fun e W' => e = .returned (.int .i64 ((wrs (DS.new N) (l1.take i)).write x.at_ x.s).2) ∧ ED w W' d ((wrs (DS.new N) (l1.take i)).write x.at_ x.s).1 []) :=
        (unhide HR).drew.write (by omega) (by omega) x.at_ x.s ((unhide HW).1.fit x (List.mem_of_getElem? hx)).2.2
      have hnx := wrs_take (S := (DS.new N)) hx
      have HX := hide hnx
      have hi1 : (i : Int) < (M1 : Int) := by omega
      clear hc p0 hlen q1 q2 hnx hx
      obtain ⟨xa, xs⟩ := x
      simp only at *
      go_wp2_with fail
      go_region_held3 (fun w' : World => w'.cell? ⟨b, off + i * 2, none⟩ = some (.int .i64 xa) ∧ w'.cell? ⟨b, off + i * 2 + 1, none⟩ = some (.string xs)) (first | exact ⟨z1, z2⟩ | exact ⟨z3, z4⟩ | exact ⟨z5, z6⟩) (
        (go_at_call 18; refine (unhide KW).mono ?_; rintro e w5 ⟨rfl, E5⟩; obtain ⟨z5, z6⟩ := unhide HC w5 E5.bel))
      all_goals
        have HE5 : Hid (ED w w5 d (wrs (DS.new N) (l1.take (i + 1))) []) := by rw [unhide HX]; exact E5
        clear E5 KW z5 z6
        go_wp2_with fail
        go_roundw
        case rel => exact ⟨i + 1, by omega, by go_num, HE5⟩
        case measure => simp only [intOf]; omega
    · obtain rfl : i = M1 := by omega
      have HE : Hid (ED w wr d (wrs (DS.new N) l1) []) := by
        have := unhide HR
        rwa [List.take_of_length_le (by have := unhide HM; omega)] at this
      clear HR hlt hi
      have P1 := unhide HP0 l1
      obtain ⟨S1, hS1⟩ : ∃ S, S = (wrs (DS.new N) l1).settle.did := ⟨_, rfl⟩
      have KS := (unhide HE).sync (by have := P1.cnt; have := unhide HM; have := unhide HB; have n0 : (DS.new N).cnt = 0 := rfl; omega)
      rw [DS.sync_plain P1.up P1.cut, ← hS1] at KS
      have e1 : S1.up = true := by rw [hS1]; exact P1.up
      have e2 : S1.cut = none := by rw [hS1]; exact P1.cut
      have e3 : S1.N = N := by rw [hS1]; exact P1.N
      have e4 : S1.since = [] := by rw [hS1]; rfl
      have e5 : S1.cnt ≤ 262145 := by have := P1.cnt; have := unhide HM; have := unhide HB; have n0 : (DS.new N).cnt = 0 := rfl; rw [hS1]; show (wrs (DS.new N) l1).cnt + 1 ≤ _; omega
      have HS := hide (And.intro e1 (And.intro e2 (And.intro e3 (And.intro e4 e5))))
      have HP1 := hide (wrote e1 e2)
      clear HE P1 HP0 hS1 e1 e2 e3 e4 e5
      go_wp2_with fail
      refine KS.mono ?_
      rintro e w3 ⟨rfl, E3⟩
      have HE3 := hide E3.rows
      clear KS E3
      go_wp2_with fail
      go_loopw [10, 11] (fun sv iv wr => ∃ i : Nat, i ≤ N ∧ iv = .int .i64 (i : Int) ∧ Hid (ED w wr d S1 [resT sv ((List.range i).map S1.base)])) (fun _ iv _ => (N - intOf iv).toNat)
      case atStart => exact ⟨0, by omega, rfl, HE3⟩
      case round =>
        clear HE3
        obtain ⟨i, hi, rfl, HR⟩ := hrel
        by_cases hlt : i < N
        · have KR := (unhide HR).read (i : Int)
          rw [synced_read (unhide HS).1 (unhide HS).2.2.2.1 rfl (by rw [(unhide HS).2.2.1]; exact hlt)] at KR
          have hi1 : (i : Int) < (N : Int) := by omega
          go_wp2_with fail
          refine KR.mono ?_
          rintro e w4 ⟨rfl, E4, _⟩
          clear KR HR
          have HE4 := hide E4
          have hNN := (unhide HN).2
          clear E4
          go_wp2_with (at_builtin; refine wpList_push rfl (.tmp 66) (.tmp 68) rfl rfl rfl (unhide HE4) (by simp; omega) ?nx)
          case nx =>
            intro v' w5 E5
            have HE5 : Hid (ED w w5 d S1 [resT v' ((List.range (i + 1)).map S1.base)]) := by rw [List.range_succ, List.map_append]; exact E5
            clear E5 HE4 hNN
            go_wp2_with fail
            have hNN := (unhide HN).2
            go_roundw
            case rel => exact ⟨i + 1, by omega, by go_num, HE5⟩
            case measure => simp only [intOf]; omega
        · obtain rfl : i = N := by omega
          obtain ⟨i_, hi_⟩ : ∃ q, q = i := ⟨_, rfl⟩
          subst hi_
          clear hlt hi
          have HE7 := HR
          clear HR
          go_wp2_with fail
          go_loopw [14] (fun iv wr => ∃ i : Nat, i ≤ M2 ∧ iv = .int .i64 (i : Int) ∧ Hid (ED w wr d (wrs S1 (l2.take i)) [resT u10 ((List.range i_).map S1.base)])) (fun iv _ => (M2 - intOf iv).toNat)
          case atStart => exact ⟨0, by omega, rfl, HE7⟩
          case round =>
            clear HE7
            obtain ⟨i, hi, rfl, HR⟩ := hrel
            by_cases hlt : i < M2
            · obtain ⟨x, hx⟩ : ∃ x, l2[i]? = some x := ⟨_, List.getElem?_eq_getElem (by have := unhide HM; omega)⟩
              obtain ⟨b, off, rfl, hc⟩ := (unhide HW).2.get hx
              have HC := hide hc
              obtain ⟨z1, z2⟩ := hc wr (unhide HR).bel
              obtain ⟨z3, z4⟩ := hc wr.drew (unhide HR).drew.bel
              have p0 := unhide HP1 (l2.take i)
              have hlen : (l2.take i).length ≤ 262144 := by have := unhide HB; have := unhide HM; simp; omega
              have q1 := p0.cnt
              have q2 := p0.len
              simp only [(unhide HS).2.2.2.1, List.length_nil] at q2; have q3 := (unhide HS).2.2.2.2
              have KW : Hid (Calls Try.prog 18 #[.pointer (some ⟨d, 0, none⟩), .int .i64 x.at_, .string x.s] wr.drew fun e W' => e = .returned (.int .i64 ((wrs S1 (l2.take i)).write x.at_ x.s).2) ∧ ED w W' d ((wrs S1 (l2.take i)).write x.at_ x.s).1 [resT u10 ((List.range i_).map S1.base)]) :=
                (unhide HR).drew.write (by omega) (by omega) x.at_ x.s ((unhide HW).2.fit x (List.mem_of_getElem? hx)).2.2
              have hnx := wrs_take (S := S1) hx
              have HX := hide hnx
              have hi1 : (i : Int) < (M2 : Int) := by omega
              clear hc p0 hlen q1 q2 hnx hx
              obtain ⟨xa, xs⟩ := x
              simp only at *
              go_wp2_with fail
              go_region_held3 (fun w' : World => w'.cell? ⟨b, off + i * 2, none⟩ = some (.int .i64 xa) ∧ w'.cell? ⟨b, off + i * 2 + 1, none⟩ = some (.string xs)) (first | exact ⟨z1, z2⟩ | exact ⟨z3, z4⟩ | exact ⟨z5, z6⟩) (
                (go_at_call 18; refine (unhide KW).mono ?_; rintro e w5 ⟨rfl, E5⟩; obtain ⟨z5, z6⟩ := unhide HC w5 E5.bel))
              all_goals
                have HE5 : Hid (ED w w5 d (wrs S1 (l2.take (i + 1))) [resT u10 ((List.range i_).map S1.base)]) := by rw [unhide HX]; exact E5
                clear E5 KW z5 z6
                go_wp2_with fail
                go_roundw
                case rel => exact ⟨i + 1, by omega, by go_num, HE5⟩
                case measure => simp only [intOf]; omega
            · obtain rfl : i = M2 := by omega
              have HE : Hid (ED w wr d (wrs S1 l2) [resT u10 ((List.range i_).map S1.base)]) := by
                have := unhide HR
                rwa [List.take_of_length_le (by have := unhide HM; omega)] at this
              clear HR hlt hi
              have P2 := unhide HP1 l2
              obtain ⟨S2, hS2⟩ : ∃ S, S = wrs S1 l2 := ⟨_, rfl⟩
              rw [← hS2] at HE P2
              have KC := (unhide HE).crash 0
              rw [DS.crash_plain P2.up] at KC
              have g1 : ({ S2.fall 0 with up := true, cut := none } : DS).N = i_ := P2.N.trans (unhide HS).2.2.1
              have g2 : ({ S2.fall 0 with up := true, cut := none } : DS).base = S1.base := (fall_zero S2).trans P2.base
              have HG := hide (And.intro g1 g2)
              clear P2 hS2 HP1 g1 g2 HE
              go_wp2_with fail
              refine KC.mono ?_
              rintro e w6 ⟨rfl, E6⟩
              have KT := E6.begin
              rw [DS.start_down rfl] at KT
              clear E6 KC
              go_wp2_with fail
              refine KT.mono ?_
              rintro e w7 ⟨rfl, E7⟩
              have KU := E7.unsynced
              have e0 : (({ S2.fall 0 with up := true, cut := none } : DS).since.length : Int) = 0 := rfl
              rw [e0] at KU
              have HE7 := hide E7
              clear E7 KT e0
              go_wp2_with fail
              refine KU.mono ?_
              rintro e w7 ⟨rfl, rfl⟩
              clear KU
              obtain ⟨S3, hS3⟩ : ∃ S : DS, S = { S2.fall 0 with up := true, cut := none } := ⟨_, rfl⟩
              have HS3 : Hid (S3.up = true ∧ S3.since = [] ∧ S3.N = i_ ∧ S3.base = S1.base) := by rw [hS3]; exact ⟨rfl, rfl, (unhide HG).1, (unhide HG).2⟩
              rw [← hS3] at HE7
              clear HG hS3 HS
              go_wp2_with fail
              go_loopw [15] (fun iv wr => ∃ k : Nat, k ≤ i_ ∧ iv = .int .i64 (k : Int) ∧ Hid (ED w wr d S3 [resT u10 ((List.range i_).map S1.base)])) (fun iv _ => (i_ - intOf iv).toNat)
              case atStart => exact ⟨0, by omega, rfl, HE7⟩
              case round =>
                clear HE7
                obtain ⟨k, hk, rfl, HR⟩ := hrel
                by_cases hlt : k < i_
                · have KR := (unhide HR).read (k : Int)
                  rw [synced_read (unhide HS3).1 (unhide HS3).2.1 (unhide HS3).2.2.2 (by rw [(unhide HS3).2.2.1]; exact hlt)] at KR
                  have hk1 : (k : Int) < (i_ : Int) := by omega
                  go_wp2_with fail
                  refine KR.mono ?_
                  rintro e w8 ⟨rfl, E8, _⟩
                  obtain ⟨g, cap, hsv, c8, hcap, _⟩ := E8.row.cell (i := k) (s := S1.base k) (by simp [hlt])
                  rw [List.length_map, List.length_range] at hsv
                  subst hsv
                  have HE8 := hide E8
                  clear KR HR E8 hcap
                  generalize S1.base k = sk at *
                  go_wp2_with fail
                  have hNN := (unhide HN).2
                  go_roundw
                  case rel => exact ⟨k + 1, by omega, by go_num, HE8⟩
                  case measure => simp only [intOf]; omega
                · obtain rfl : k = i_ := by omega
                  clear hk
                  go_wp2_with fail
                  refine (alive5_any _).mono ?_
                  rintro e w9 ⟨rfl, hb9⟩
                  have hbb := bw_tr (unhide HR).bel hb9
                  go_wp2_with fail
                  go_ret
                  exact ⟨rfl, hbb⟩

set_option maxRecDepth 100000 in
theorem DiskSynced_lifted (os : Os) (started : os.Started) (H : Type) (enc : TypeId × Value → H) :
    ReturnsInHanded {} Try.checked os 4 .any (Rows.diskSyncedSpec.pre6 enc Try.prog Try.f4 Rows.diskSyncedRow.domain false) (Rows.diskSyncedSpec.post enc Try.prog Try.f4 false true false false) := by
  refine returnsInHanded_of_change_sized (C := Try.checked) own started (by kernel_rfl) Try.func4
    (ChangeSpec.witness6 (enc := enc) (C := Try.checked) false ⟨#[], #[.int .i64 0, .slice none 0 0, .slice none 0 0], []⟩ 8 (by kernel_rfl) (by kernel_rfl) (by kernel_rfl) (by kernel_rfl)) ?_
  intro W base args ds gs before hval0 hW hcnd hsz0 _
  have hval : ∀ (j : Nat) t v, Try.f4.params[j]? = some t → args[j]? = some v → Value.okWide Try.prog W .any base t v := hval0
  have hsz : (DataW.weightsEach Try.prog (Try.f4.params.toList ++ Rows.diskSyncedSpec.plain.varTypes Try.prog) (ds ++ gs)).all (· ≤ reachBytes) = true := hsz0
  have hW' := hW
  obtain ⟨p, q, hA0, hV, rfl, hfz, hnd⟩ := hW
  have hA : DataW.TrodAll enc Try.prog W 0 (fun _ => true) true Try.f4.params.toList args.toList ds p := hA0
  rw [Try.params4] at hA hval hsz
  obtain ⟨v0, vs0, d0, ds0, p0, q0, hargs, rfl, rfl, h0, r0⟩ := trodAll_cons hA
  obtain ⟨v1, vs1, d1, ds1, p1, q1, rfl, rfl, rfl, h1, r1⟩ := trodAll_cons r0
  obtain ⟨v2, vs2, d2, ds2, p2, q2, rfl, rfl, rfl, h2, r2⟩ := trodAll_cons r1
  obtain ⟨rfl, rfl, rfl⟩ := trodAll_nil r2
  obtain rfl : args = #[v0, v1, v2] := by cases args; simp_all
  obtain ⟨rfl, rfl⟩ := trodVars_none hV
  obtain ⟨a0, rfl, rfl, rfl, w0⟩ := open_int Try.underlying3 (hval 0 3 v0 rfl rfl) h0
  have k1 := h1
  have lt1 : ∀ x ∈ p1, x.block < W.heap.size := by obtain ⟨m, hm⟩ := k1; exact DataW.trod_lt m _ _ _ hm
  obtain ⟨a1, len1, cap1, rfl⟩ := okWide_slice Try.underlying36 (hval 1 36 v1 rfl rfl)
  obtain ⟨l1, rfl, i1⟩ := open_writes h1 (fun n hn => by simpa using List.all_eq_true.1 hsz n (DataW.weights_mem_each (j := 1) (t := 36) rfl rfl n hn))
  have k2 := h2
  have lt2 : ∀ x ∈ p2, x.block < W.heap.size := by obtain ⟨m, hm⟩ := k2; exact DataW.trod_lt m _ _ _ hm
  obtain ⟨a2, len2, cap2, rfl⟩ := okWide_slice Try.underlying36 (hval 2 36 v2 rfl rfl)
  obtain ⟨l2, rfl, i2⟩ := open_writes h2 (fun n hn => by simpa using List.all_eq_true.1 hsz n (DataW.weights_mem_each (j := 2) (t := 36) rfl rfl n hn))
  clear hA0 hval0
  refine (DiskSynced_walk W a0 (bounds64 w0).1 (bounds64 w0).2 a1 cap1 l1 i1 a2 cap2 l2 i2).mono fun e W' ⟨he, bel⟩ => ?_
  subst he
  exact ⟨_, rfl, _, _, _, [], _, [], hW', trodAll_mk1 (shut_bool Try.underlying4 _), (trodAll_cons_mk (shut_int Try.underlying3 w0) (trodAll_cons_mk (Below.trod laidOut (by kernel_rfl) (of_decide_eq_true (by kernel_rfl)) k1 bel lt1) (trodAll_cons_mk (Below.trod laidOut (by kernel_rfl) (of_decide_eq_true (by kernel_rfl)) k2 bel lt2) trodAll_mk0))), rfl, bel.frame _, fun h => by cases h⟩

theorem DiskSynced_over : Rows.diskSyncedRow.holds Try.pinned (OpenSpec.ofChange Rows.diskSyncedSpec) :=
  OpenClaim.holds_of_wide 4 Try.f4 rfl rfl rfl rfl rfl rfl rfl ⟨rfl, rfl, rfl, rfl, rfl⟩ rfl rfl rfl rfl rfl (by kernel_rfl) Try.func4 (by kernel_rfl)
    (of_decide_eq_true (by kernel_rfl)) (by unfold Func.isWrapper; first | (rw [if_pos (by decide +kernel)]; kernel_rfl) | (rw [if_neg (by decide +kernel)]; exact ⟨rfl, rfl⟩))
    (fun os started H enc _ => DiskSynced_lifted os started H enc)

theorem DiskSynced_holds : Rows.DiskSyncedSaid := DiskSynced_over
#print axioms DiskSynced_holds

end Go.Proofs.Ytimhjheigejjmaa
