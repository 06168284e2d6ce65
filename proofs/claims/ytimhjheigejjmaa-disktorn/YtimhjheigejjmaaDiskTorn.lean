/- DiskTorn: for every number of sectors, all writes and all bits, the law answers true: behind a crash each half of a sector is what was synced last, or what one of the writes since has put there. No condition (the law itself claims nothing of more than 2^18 writes). -/
import Derived.Test.YtimhjheigejjmaaDkEnvB
import Derived.Test.YtimhjheigejjmaaDkN
namespace Go.Proofs.Ytimhjheigejjmaa
open Go.ChangeShapes Go.WideShapes Go.ChangeAt Go.RowKit Go.Joins Go.Maps

/-- What the law finds of a half, of the first so many writes. -/
def hal (c : ByteArray → ByteArray) (s : ByteArray) (i : Nat) (l : List Wr) : Bool := ((c s).toList == (c nought).toList) || l.any (fun x => decide (x.at_ = (i : Int)) && decide (x.s.size = 64) && ((c s).toList == (c x.s).toList))
def c1 (s : ByteArray) : ByteArray := s.extract 0 32
def c2 (s : ByteArray) : ByteArray := s.extract 32 s.size
theorem hal_take {c : ByteArray → ByteArray} {s : ByteArray} {i : Nat} {l : List Wr} {k : Nat} {x : Wr} (h : l[k]? = some x) : hal c s i (l.take (k + 1)) = (hal c s i (l.take k) || (decide (x.at_ = (i : Int)) && decide (x.s.size = 64) && ((c s).toList == (c x.s).toList))) := by
  unfold hal
  rw [List.take_add_one, h]
  simp [List.any_append, Bool.or_assoc]
theorem hal_of {c : ByteArray → ByteArray} {a b : Nat} (hc : ∀ s : ByteArray, s.size = 64 → c s = s.extract a b) {s : ByteArray} (hs : s.size = 64) {i N : Nat} {l : List Wr} {T : DS} (hT : Wrote (DS.new N) T l) (h : Half a b T.since T.base i s) : hal c s i l = true := by
  unfold hal
  rw [Bool.or_eq_true]
  rcases h with h | ⟨p, h1, h2, h3⟩
  · left; rw [hT.base] at h; rw [hc s hs, h, hc nought nought_size]; exact beq_self_eq_true _
  · right
    rcases hT.mem p h1 with c | ⟨x, x1, x2, x3, x4⟩
    · simp [DS.new] at c
    · rw [List.any_eq_true]
      refine ⟨x, x1, ?_⟩
      rw [Bool.and_eq_true, Bool.and_eq_true]
      exact ⟨⟨decide_eq_true (by rw [x2, h2]), decide_eq_true x4⟩, by rw [hc s hs, hc x.s x4, x3, h3]; exact beq_self_eq_true _⟩
set_option maxRecDepth 100000 in
set_option maxHeartbeats 8000000 in
theorem DiskTorn_walk (w : World) (n : Int) (hn1 : -9223372036854775808 ≤ n) (hn2 : n ≤ 9223372036854775807) (a1 : Option Addr) (cap1 : Nat) (l1 : List Wr) (h1 : WrsAt w a1 l1) (bits : Int) (_hb1 : -9223372036854775808 ≤ bits) (_hb2 : bits ≤ 9223372036854775807) :
    Calls Try.prog 5 #[.int .i64 n, .slice a1 l1.length cap1, .int .i64 bits] w fun e w' => e = .returned (.bool true) ∧ Below w.heap.size w w' := by
  clear _hb1 _hb2
  have hl1 := h1.len
  have HW := hide h1
  clear h1
  obtain ⟨M1, hM1⟩ : ∃ M, M = l1.length := ⟨_, rfl⟩
  rw [← hM1] at hl1 ⊢
  have HM := hide hM1
  clear hM1
  by_cases c1 : n < 1
  · have K := new_low n w c1
    clear hn1 hn2
    go_enter Try.func5, Try.ntmps5
    go_wp2_with fail
    refine K.mono ?_
    rintro e w ⟨rfl, rfl⟩
    go_wp2_with fail
    refine (alive5_any _).mono ?_
    rintro e w9 ⟨rfl, hb9⟩
    go_wp2_with fail
    go_ret
    exact ⟨rfl, hb9⟩
  by_cases c2 : 4096 < n
  · have K := new_high n w c2
    clear hn1 hn2
    go_enter Try.func5, Try.ntmps5
    go_wp2_with fail
    refine K.mono ?_
    rintro e w ⟨rfl, rfl⟩
    go_wp2_with fail
    refine (alive5_any _).mono ?_
    rintro e w9 ⟨rfl, hb9⟩
    go_wp2_with fail
    go_ret
    exact ⟨rfl, hb9⟩
  obtain ⟨N, rfl⟩ : ∃ N : Nat, n = (N : Int) := ⟨n.toNat, by omega⟩
  have K := ED.start (Env.nil w) N (by omega) (by omega)
  have HN : Hid (1 ≤ N ∧ N ≤ 4096) := ⟨by omega, by omega⟩
  have hNb : N ≤ 140737488355328 := by omega
  clear hn1 hn2 c1 c2
  go_enter Try.func5, Try.ntmps5
  go_wp2_with fail
  refine K.mono ?_
  rintro e w1 ⟨d, rfl, E1⟩
  clear K
  have E2 := hide (E1.new (bw_alloc w1 (.cells #[.int .i64 (M1 : Int)] 3)))
  have hc := cell_one5 w1 (.int .i64 (M1 : Int)) 3
  have KB := beyond_one w1.heap.size M1 1 (w1.alloc (.cells #[.int .i64 (M1 : Int)] 3)) (by omega) hc
  clear E1 hc
  by_cases big : 262144 < M1
  · rw [decide_eq_true big] at KB
    clear big
    go_wp2_with fail
    refine KB.mono ?_
    rintro e w2 ⟨rfl, rfl⟩
    go_wp2_with fail
    refine (alive5_any _).mono ?_
    rintro e w9 ⟨rfl, hb9⟩
    have hbb := bw_tr (unhide E2).bel hb9
    go_wp2_with fail
    go_ret
    exact ⟨rfl, hbb⟩
  rw [decide_eq_false big] at KB
  have HB := hide big
  clear big
  go_wp2_with fail
  refine KB.mono ?_
  rintro e w2 ⟨rfl, rfl⟩
  clear KB
  generalize w1.alloc _ = w2 at *
  have HP0 := hide (wrote (S := DS.new N) rfl rfl)
  go_wp2_with fail
  go_loopw [9] (fun iv wr => ∃ i : Nat, i ≤ M1 ∧ iv = .int .i64 (i : Int) ∧ Hid (ED w wr d (wrs (DS.new N) (l1.take i)) [])) (fun iv _ => (M1 - intOf iv).toNat)
  case atStart => exact ⟨0, by omega, rfl, E2⟩
  case round =>
    clear E2
    obtain ⟨i, hi, rfl, HR⟩ := hrel
    by_cases hlt : i < M1
    · obtain ⟨x, hx⟩ : ∃ x, l1[i]? = some x := ⟨_, List.getElem?_eq_getElem (by have := unhide HM; omega)⟩
      obtain ⟨b, off, rfl, hc⟩ := (unhide HW).get hx
      have HC := hide hc
      obtain ⟨z1, z2⟩ := hc wr (unhide HR).bel
      obtain ⟨z3, z4⟩ := hc wr.drew (unhide HR).drew.bel
      have p0 := unhide HP0 (l1.take i)
      have hlen : (l1.take i).length ≤ 262144 := by have := unhide HB; have := unhide HM; simp; omega
      have q1 := p0.cnt
      have q2 := p0.len
      have n0 : (DS.new N).cnt = 0 := rfl; have n1 : (DS.new N).since.length = 0 := rfl
      have KW : Hid (Calls Try.prog 18 #[.pointer (some ⟨d, 0, none⟩), .int .i64 x.at_, .string x.s] wr.drew fun e W' => e = .returned (.int .i64 ((wrs (DS.new N) (l1.take i)).write x.at_ x.s).2) ∧ ED w W' d ((wrs (DS.new N) (l1.take i)).write x.at_ x.s).1 []) :=
        (unhide HR).drew.write (by omega) (by omega) x.at_ x.s ((unhide HW).fit x (List.mem_of_getElem? hx)).2.2
      have hnx := wrs_take (S := (DS.new N)) hx
      have HX := hide hnx
      have hi1 : (i : Int) < (M1 : Int) := by omega
      clear hc p0 hlen q1 q2 hnx hx
      obtain ⟨xa, xs⟩ := x
      simp only at *
      go_wp2_with fail
      go_region_held3 (fun w' : World => w'.cell? ⟨b, off + i * 2, none⟩ = some (.int .i64 xa) ∧ w'.cell? ⟨b, off + i * 2 + 1, none⟩ = some (.string xs)) (first | exact ⟨z1, z2⟩ | exact ⟨z3, z4⟩ | exact ⟨z5, z6⟩) (
        (go_at_call 18; refine (unhide KW).mono ?_; rintro e w5 ⟨rfl, E5⟩; obtain ⟨z5, z6⟩ := unhide HC w5 E5.bel))
      all_goals
        have HE5 : Hid (ED w w5 d (wrs (DS.new N) (l1.take (i + 1))) []) := by rw [unhide HX]; exact E5
        clear E5 KW z5 z6
        go_wp2_with fail
        go_roundw
        case rel => exact ⟨i + 1, by omega, by go_num, HE5⟩
        case measure => simp only [intOf]; omega
    · obtain rfl : M1 = i := by omega
      have HE : Hid (ED w wr d (wrs (DS.new N) l1) []) := by
        have := unhide HR
        rwa [List.take_of_length_le (by have := unhide HM; omega)] at this
      clear HR hlt hi
      have P1 := unhide HP0 l1
      obtain ⟨S1, hS1⟩ : ∃ S, S = wrs (DS.new N) l1 := ⟨_, rfl⟩
      rw [← hS1] at HE P1
      have KC := (unhide HE).crash bits
      rw [DS.crash_plain P1.up] at KC
      have HH : Hid (∀ k, Half 0 32 S1.since S1.base k ((S1.fall bits).base k) ∧ Half 32 64 S1.since S1.base k ((S1.fall bits).base k)) := fun k => fall_half (unhide HE).ok bits k
      have HZ : Hid (∀ k, ((S1.fall bits).base k).size = 64) := fun k => ((unhide HE).ok.fall bits).sz k
      have HP1 := hide P1
      have e1 : ({ S1.fall bits with up := true, cut := none } : DS).N = N := P1.N
      have HG := hide e1
      clear HE hS1 HP0 P1 e1
      go_wp2_with fail
      refine KC.mono ?_
      rintro e w6 ⟨rfl, E6⟩
      have KT := E6.begin
      rw [DS.start_down rfl] at KT
      clear E6 KC
      go_wp2_with fail
      refine KT.mono ?_
      rintro e w7 ⟨rfl, E7⟩
      have HE7 := hide E7
      clear E7 KT
      obtain ⟨S3, hS3⟩ : ∃ S : DS, S = { S1.fall bits with up := true, cut := none } := ⟨_, rfl⟩
      have HS3 : Hid (S3.up = true ∧ S3.since = [] ∧ S3.N = N ∧ S3.base = (S1.fall bits).base) := by rw [hS3]; exact ⟨rfl, rfl, unhide HG, rfl⟩
      rw [← hS3] at HE7
      clear HG hS3
      go_wp2_with fail
      go_loopw [10] (fun iv wr => ∃ k : Nat, k ≤ N ∧ iv = .int .i64 (k : Int) ∧ Hid (ED w wr d S3 [])) (fun iv _ => (N - intOf iv).toNat)
      case atStart => exact ⟨0, by omega, rfl, HE7⟩
      case round =>
        clear HE7
        obtain ⟨k, hk, rfl, HR⟩ := hrel
        by_cases hlt : k < N
        · have KR := (unhide HR).read (k : Int)
          rw [synced_read (unhide HS3).1 (unhide HS3).2.1 (unhide HS3).2.2.2 (by rw [(unhide HS3).2.2.1]; exact hlt)] at KR
          have hk1 : (k : Int) < (N : Int) := by omega
          have hz := unhide HZ k
          have HF := hide (And.intro (hal_of (c := c1) (fun _ _ => rfl) hz (unhide HP1) (unhide HH k).1) (hal_of (c := c2) (fun x hx => by unfold c2; rw [hx]) hz (unhide HP1) (unhide HH k).2))
          generalize (S1.fall bits).base k = s at *
          have hs : ((s.size : Nat) : Int) = 64 := by omega
          have hno : ((nought.size : Nat) : Int) = 64 := by rw [nought_size]; rfl
          go_wp2_with fail
          refine KR.mono ?_
          rintro e w8 ⟨rfl, E8, _⟩
          have HE8 := hide E8.drew
          clear KR HR E8 hz
          go_wp2_with fail
          go_region_held3 (fun _ : World => True) (trivial) (
            (go_at_call 23; with_reducible refine (noughts_any _).mono ?_; rintro e y1 ⟨rfl, b1⟩))
          all_goals
            have HE9 := hide (((unhide HE8).new b1).drew)
            clear b1 HE8
            go_wp2_with fail
            go_region_held3 (fun _ : World => True) (trivial) (
              (go_at_call 23; with_reducible refine (noughts_any _).mono ?_; rintro e y2 ⟨rfl, b2⟩))
            all_goals
              have HE10 := hide ((unhide HE9).new b2)
              clear b2 HE9
              go_wp2_with fail
              go_loopw [13, 14, 15] (fun av bv jv wr => ∃ j : Nat, j ≤ M1 ∧ jv = .int .i64 (j : Int) ∧ av = .bool (hal c1 s k (l1.take j)) ∧ bv = .bool (hal c2 s k (l1.take j)) ∧ Hid (ED w wr d S3 [])) (fun _ _ jv _ => (M1 - intOf jv).toNat)
              case atStart => exact ⟨0, by omega, rfl, by simp [hal, c1], by simp [hal, c2], HE10⟩
              case round =>
                clear HE10
                obtain ⟨j, hj, rfl, hav, hbv, HR⟩ := hrel
                by_cases hjl : j < M1
                · obtain ⟨x, hx⟩ : ∃ x, l1[j]? = some x := ⟨_, List.getElem?_eq_getElem (by have := unhide HM; omega)⟩
                  obtain ⟨b, off, rfl, hc⟩ := (unhide HW).get hx
                  obtain ⟨z1, z2⟩ := hc wr (unhide HR).bel
                  obtain ⟨z3, z4⟩ := hc wr.drew (unhide HR).drew.bel
                  obtain ⟨z5, z6⟩ := hc wr.drew.drew (unhide HR).drew.drew.bel
                  have HD := hide (unhide HR).drew.drew
                  have HDN : Hid (∀ m, ED w (wr.drewN m) d S3 []) := fun m => (unhide HR).new (below_drewN (Below.refl _ _) m)
                  have HX := hide (And.intro (hal_take (c := c1) (s := s) (i := k) hx) (hal_take (c := c2) (s := s) (i := k) hx))
                  have hj1 : (j : Int) < (M1 : Int) := by omega
                  clear hc hx
                  obtain ⟨xa, xs⟩ := x
                  simp only at *
                  generalize hal c1 s k (l1.take j) = al at *
                  generalize hal c2 s k (l1.take j) = bl at *
                  subst hav hbv
                  by_cases hx1 : xa = (k : Int)
                  · subst hx1
                    by_cases hx2 : ((xs.size : Nat) : Int) = 64
                    · have HX2 : Hid (hal c1 s k (l1.take (j + 1)) = (al || ((s.extract 0 32).toList == (xs.extract 0 32).toList)) ∧ hal c2 s k (l1.take (j + 1)) = (bl || ((s.extract 32 s.size).toList == (xs.extract 32 xs.size).toList))) := by
                        have q : xs.size = 64 := by omega
                        have := unhide HX
                        simp only [q, decide_true, Bool.true_and, c1, c2] at this
                        rw [q]
                        exact this
                      clear HX
                      cases al
                      · cases bl
                        · go_wp2_with fail
                          go_region_held3 (fun w' : World => w'.cell? ⟨b, off + j * 2 + 1, none⟩ = some (.string xs)) (first | exact z2 | exact z4 | exact z6) (fail)
                          all_goals
                            go_wp2_with fail
                            go_region_held3 (fun w' : World => w'.cell? ⟨b, off + j * 2 + 1, none⟩ = some (.string xs)) (first | exact z2 | exact z4 | exact z6) (fail)
                            all_goals
                              go_wp2_with fail
                              go_roundw
                              case rel => exact ⟨j + 1, by omega, by go_num, by rw [(unhide HX2).1]; simp, by rw [(unhide HX2).2]; simp, by first | exact HD | exact unhide HDN _⟩
                              case measure => simp only [intOf]; omega
                        · go_wp2_with fail
                          go_region_held3 (fun w' : World => w'.cell? ⟨b, off + j * 2 + 1, none⟩ = some (.string xs)) (first | exact z2 | exact z4 | exact z6) (fail)
                          all_goals
                            go_wp2_with fail
                            go_quiet (fail)
                            all_goals
                              go_wp2_with fail
                              go_roundw
                              case rel => exact ⟨j + 1, by omega, by go_num, by rw [(unhide HX2).1]; simp, by rw [(unhide HX2).2]; simp, by first | exact HD | exact unhide HDN _⟩
                              case measure => simp only [intOf]; omega
                      · cases bl
                        · go_wp2_with fail
                          go_quiet (fail)
                          all_goals
                            go_wp2_with fail
                            go_region_held3 (fun w' : World => w'.cell? ⟨b, off + j * 2 + 1, none⟩ = some (.string xs)) (first | exact z2 | exact z4 | exact z6) (fail)
                            all_goals
                              go_wp2_with fail
                              go_roundw
                              case rel => exact ⟨j + 1, by omega, by go_num, by rw [(unhide HX2).1]; simp, by rw [(unhide HX2).2]; simp, by first | exact HD | exact unhide HDN _⟩
                              case measure => simp only [intOf]; omega
                        · go_wp2_with fail
                          go_quiet (fail)
                          all_goals
                            go_wp2_with fail
                            go_quiet (fail)
                            all_goals
                              go_wp2_with fail
                              go_roundw
                              case rel => exact ⟨j + 1, by omega, by go_num, by rw [(unhide HX2).1]; simp, by rw [(unhide HX2).2]; simp, by first | exact HD | exact unhide HDN _⟩
                              case measure => simp only [intOf]; omega
                    · have HX2 : Hid (hal c1 s k (l1.take (j + 1)) = al ∧ hal c2 s k (l1.take (j + 1)) = bl) := by
                        have q : ¬ xs.size = 64 := by omega
                        have := unhide HX
                        simp only [q, decide_false, Bool.and_false, Bool.false_and, Bool.or_false] at this
                        exact this
                      have hx3 : (((xs.size : Nat) : Int) == 64) = false := by rw [beq_eq_false_iff_ne]; exact hx2
                      have hx4 : decide (((xs.size : Nat) : Int) = 64) = false := decide_eq_false hx2
                      clear HX HD HDN
                      go_wp2_with fail
                      go_roundw
                      case rel => exact ⟨j + 1, by omega, by go_num, by rw [(unhide HX2).1], by rw [(unhide HX2).2], HR⟩
                      case measure => simp only [intOf]; omega
                  · have HX2 : Hid (hal c1 s k (l1.take (j + 1)) = al ∧ hal c2 s k (l1.take (j + 1)) = bl) := by
                      have := unhide HX
                      simp only [hx1, decide_false, Bool.false_and, Bool.or_false] at this
                      exact this
                    have hx3 : (xa == (k : Int)) = false := by rw [beq_eq_false_iff_ne]; exact hx1
                    have hx4 : decide (xa = (k : Int)) = false := decide_eq_false hx1
                    clear HX HD HDN
                    go_wp2_with fail
                    go_roundw
                    case rel => exact ⟨j + 1, by omega, by go_num, by rw [(unhide HX2).1], by rw [(unhide HX2).2], HR⟩
                    case measure => simp only [intOf]; omega
                · have e1 : hal c1 s k (l1.take j) = true := by
                    rw [List.take_of_length_le (by have := unhide HM; omega)]; exact (unhide HF).1
                  have e2 : hal c2 s k (l1.take j) = true := by
                    rw [List.take_of_length_le (by have := unhide HM; omega)]; exact (unhide HF).2
                  rw [e1] at hav
                  rw [e2] at hbv
                  subst hav hbv
                  have hj2 : ¬ ((j : Int) < (M1 : Int)) := by omega
                  clear e1 e2
                  go_wp2_with fail
                  go_roundw
                  case rel => exact ⟨k + 1, by omega, by go_num, HR⟩
                  case measure => simp only [intOf]; omega
        · obtain rfl : k = N := by omega
          clear hk
          go_wp2_with fail
          refine (alive5_any _).mono ?_
          rintro e w9 ⟨rfl, hb9⟩
          have hbb := bw_tr (unhide HR).bel hb9
          go_wp2_with fail
          go_ret
          exact ⟨rfl, hbb⟩

set_option maxRecDepth 100000 in
theorem DiskTorn_lifted (os : Os) (started : os.Started) (H : Type) (enc : TypeId × Value → H) :
    ReturnsInHanded {} Try.checked os 5 .any (Rows.diskTornSpec.pre6 enc Try.prog Try.f5 Rows.diskTornRow.domain false) (Rows.diskTornSpec.post enc Try.prog Try.f5 false true false false) := by
  refine returnsInHanded_of_change_sized (C := Try.checked) own started (by kernel_rfl) Try.func5
    (ChangeSpec.witness6 (enc := enc) (C := Try.checked) false ⟨#[], #[.int .i64 0, .slice none 0 0, .int .i64 0], []⟩ 8 (by kernel_rfl) (by kernel_rfl) (by kernel_rfl) (by kernel_rfl)) ?_
  intro W base args ds gs before hval0 hW hcnd hsz0 _
  have hval : ∀ (j : Nat) t v, Try.f5.params[j]? = some t → args[j]? = some v → Value.okWide Try.prog W .any base t v := hval0
  have hsz : (DataW.weightsEach Try.prog (Try.f5.params.toList ++ Rows.diskTornSpec.plain.varTypes Try.prog) (ds ++ gs)).all (· ≤ reachBytes) = true := hsz0
  have hW' := hW
  obtain ⟨p, q, hA0, hV, rfl, hfz, hnd⟩ := hW
  have hA : DataW.TrodAll enc Try.prog W 0 (fun _ => true) true Try.f5.params.toList args.toList ds p := hA0
  rw [Try.params5] at hA hval hsz
  obtain ⟨v0, vs0, d0, ds0, p0, q0, hargs, rfl, rfl, h0, r0⟩ := trodAll_cons hA
  obtain ⟨v1, vs1, d1, ds1, p1, q1, rfl, rfl, rfl, h1, r1⟩ := trodAll_cons r0
  obtain ⟨v2, vs2, d2, ds2, p2, q2, rfl, rfl, rfl, h2, r2⟩ := trodAll_cons r1
  obtain ⟨rfl, rfl, rfl⟩ := trodAll_nil r2
  obtain rfl : args = #[v0, v1, v2] := by cases args; simp_all
  obtain ⟨rfl, rfl⟩ := trodVars_none hV
  obtain ⟨a0, rfl, rfl, rfl, w0⟩ := open_int Try.underlying3 (hval 0 3 v0 rfl rfl) h0
  have k1 := h1
  have lt1 : ∀ x ∈ p1, x.block < W.heap.size := by obtain ⟨m, hm⟩ := k1; exact DataW.trod_lt m _ _ _ hm
  obtain ⟨a1, len1, cap1, rfl⟩ := okWide_slice Try.underlying36 (hval 1 36 v1 rfl rfl)
  obtain ⟨l1, rfl, i1⟩ := open_writes h1 (fun n hn => by simpa using List.all_eq_true.1 hsz n (DataW.weights_mem_each (j := 1) (t := 36) rfl rfl n hn))
  obtain ⟨a2, rfl, rfl, rfl, w2⟩ := open_int Try.underlying2 (hval 2 2 v2 rfl rfl) h2
  clear hA0 hval0
  refine (DiskTorn_walk W a0 (bounds64 w0).1 (bounds64 w0).2 a1 cap1 l1 i1 a2 (bounds64 w2).1 (bounds64 w2).2).mono fun e W' ⟨he, bel⟩ => ?_
  subst he
  exact ⟨_, rfl, _, _, _, [], _, [], hW', trodAll_mk1 (shut_bool Try.underlying4 _), (trodAll_cons_mk (shut_int Try.underlying3 w0) (trodAll_cons_mk (Below.trod laidOut (by kernel_rfl) (of_decide_eq_true (by kernel_rfl)) k1 bel lt1) (trodAll_cons_mk (shut_int Try.underlying2 w2) trodAll_mk0))), rfl, bel.frame _, fun h => by cases h⟩

theorem DiskTorn_over : Rows.diskTornRow.holds Try.pinned (OpenSpec.ofChange Rows.diskTornSpec) :=
  OpenClaim.holds_of_wide 5 Try.f5 rfl rfl rfl rfl rfl rfl rfl ⟨rfl, rfl, rfl, rfl, rfl⟩ rfl rfl rfl rfl rfl (by kernel_rfl) Try.func5 (by kernel_rfl)
    (of_decide_eq_true (by kernel_rfl)) (by unfold Func.isWrapper; first | (rw [if_pos (by decide +kernel)]; kernel_rfl) | (rw [if_neg (by decide +kernel)]; exact ⟨rfl, rfl⟩))
    (fun os started H enc _ => DiskTorn_lifted os started H enc)

theorem DiskTorn_holds : Rows.DiskTornSaid := DiskTorn_over
#print axioms DiskTorn_holds

end Go.Proofs.Ytimhjheigejjmaa
