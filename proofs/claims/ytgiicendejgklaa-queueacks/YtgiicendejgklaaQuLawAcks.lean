/- QueueAcks: an acknowledgement makes what is sent anew shorter from its beginning alone. mkQuAc.py writes it. -/
import Derived.Test.YtgiicendejgklaaZ31
import Derived.Test.YtgiicendejgklaaQuSm
import Derived.Test.YtgiicendejgklaaZ29
import Derived.Great.BuildSlice
namespace Go.Proofs.Ytgiicendejgklaa
open Go.RowKit Go.Maps
theorem built_ack (a s : Int) : Try.prog.built 45 [(0, .int .i64 a), (2, .bool true), (3, .int .i64 s)] = some (ptC ⟨a, 0, true, s, fdK 0 0⟩ fx00).toArray := by kernel_rfl
theorem sndL_sm {fr : Int} {l : List Lk} (h : ∀ b ∈ l, SmL b) : ∀ p ∈ sndL fr l, SmF p.fd := by
  intro p hp
  unfold sndL at hp
  obtain ⟨k, hk, hp⟩ := List.mem_flatMap.1 hp
  unfold sndT at hp
  obtain ⟨j, _, hj⟩ := List.mem_filterMap.1 hp
  unfold sndK at hj
  obtain ⟨f, hf, e⟩ := Option.map_eq_some_iff.1 hj
  rw [← e]
  exact (h k hk).qs f (List.mem_of_getElem? hf)
theorem OwL.pts {B : Nat} {w : World} {v : Value} {l : List Pt} {xs : List Fx} (h : OwL kPk B w v l xs) (hs : ∀ p ∈ l, SmF p.fd) : RdL kPk w v l xs :=
  h.rd (fun _ p _ hi _ ho => ⟨OF.rd ho (hs p (List.mem_of_getElem? hi)), hs p (List.mem_of_getElem? hi)⟩)
theorem acks_two {w : World} {v : Value} {l : List Lk} {xs : List Lx} (h : RdL kLk w v l xs) (hl : l.length ≤ 262144) (peer sq : Int) :
    Calls Try.prog 16 #[v, .int .i64 0] w fun e w' => ∃ va ea, e = .returned (.tuple #[va, .int .i64 ea]) ∧ Below w.heap.size w w' ∧ Hid (
      (ea = 0 → okLs l ∧ ∃ ya, RdL kPk w' va (sndL 0 l) ya) ∧ (ea ≠ 0 → ¬ okLs l) ∧
      ∀ u, Below w'.heap.size w' u → Calls Try.prog 12 #[v, .agg (ptC ⟨peer, 0, true, sq, fdK 0 0⟩ fx00).toArray] u fun e2 u' => ∃ vx tv bv eb, e2 = .returned (.tuple #[vx, tv, bv, .int .i64 eb]) ∧ Below u.heap.size u u' ∧ Hid (
        ((ea ≠ 0 ∨ eb ≠ 0) → vx = .slice none 0 0) ∧ (ea = 0 → eb = 0 → tv = .slice none 0 0 ∧ bv = .slice none 0 0 ∧
          ∀ z, Below u'.heap.size u' z → Calls Try.prog 16 #[vx, .int .i64 0] z fun e3 z' => ∃ vb, e3 = .returned (.tuple #[vb, .int .i64 0]) ∧ Below z.heap.size z z' ∧ Hid (∃ yb, RdL kPk z' vb ((sndL 0 l).filter (leftP peer sq)) yb)))) := by
  refine Calls.mono (sends_any h (by omega) 0) ?_
  rintro e w' ⟨va, ea, rfl, hb, hq⟩
  refine ⟨va, ea, rfl, hb, ?_, ?_, ?_⟩
  · intro h0
    rcases hq with ⟨c, _⟩ | ⟨_, ho, _, ya, hO⟩
    · omega
    · exact ⟨ho, ya, OwL.pts hO (sndL_sm h.sms)⟩
  · intro h0
    rcases hq with ⟨_, c, _⟩ | ⟨c, _⟩
    · exact fun d => c ⟨d, by decide⟩
    · exact absurd c h0
  · intro u hu
    have hbu := bw_tr hb hu
    refine Calls.mono (take_any (p := ⟨peer, 0, true, sq, fdK 0 0⟩) (h.bw hbu) (by omega) (fdK_r u 0 0) (fdK_s 0 0)) ?_
    rintro e2 u' ⟨vx, tv, bv, eb, rfl, hb2, hq2⟩
    refine ⟨vx, tv, bv, eb, rfl, hb2, ?_, ?_⟩
    · intro hor
      rcases hq2 with ⟨_, _, c, _⟩ | ⟨c, ho, _⟩
      · exact c
      · rcases hor with d | d
        · rcases hq with ⟨_, c2, _⟩ | ⟨c2, _⟩
          · exact absurd ⟨ho, by decide⟩ c2
          · exact absurd c2 d
        · exact absurd c d
    · intro h0 h1
      rcases hq2 with ⟨c, _⟩ | ⟨_, ho, ht, k, L, q, hL, hk, hq2⟩
      · omega
      · rcases hq2 with ⟨_, hsq, rfl, rfl, xs', hO⟩ | ⟨c, _⟩
        · replace hO := hO.rd
          refine ⟨rfl, rfl, fun z hz => ?_⟩
          have hok2 : okLs (L.set k (ackL q sq)) := ack_ok ho ht.1 hL hk
          have hlen : (L.set k (ackL q sq)).length ≤ 1000000 := by
            have := okLs_len hok2; omega
          refine Calls.mono (sends_any (hO.bw hz) hlen 0) ?_
          rintro e3 z' ⟨vb, ec, rfl, hb3, hq3⟩
          rcases hq3 with ⟨_, c, _⟩ | ⟨rfl, _, _, yb, hO3⟩
          · exact absurd ⟨hok2, by decide⟩ c
          · have e4 : sndL 0 (L.set k (ackL q sq)) = (sndL 0 l).filter (leftP peer sq) := ack_snd ho ht.1 hL hk hsq
            rw [e4] at hO3
            refine ⟨vb, rfl, hb3, yb, OwL.pts hO3 (fun p hp => sndL_sm h.sms p (List.mem_filter.1 hp).1)⟩
        · cases c
set_option maxRecDepth 100000 in
set_option maxHeartbeats 1000000 in
theorem acks_any {w : World} {v : Value} {l : List Lk} {xs : List Lx} (h : RdL kLw w v l xs) (hl : l.length ≤ 140737488355328) (peer sq : Int) :
    Calls Try.prog 6 #[v, .int .i64 peer, .int .i64 sq] w fun e w' => e = .returned (.bool true) ∧ Below w.heap.size w w' := by
  have KZ : Hid (Calls Try.prog 9 #[v] w fun e w' => ∃ n : Nat, e = .returned (.int .i64 (n : Int)) ∧ n ≤ 9007199254740992 ∧ (n ≤ 262144 → n = l.length + lsN17 l) ∧ Below w.heap.size w w') := size17_any h hl
  have KAL : Hid (∀ V2, Calls Try.prog 14 #[] V2 fun e w' => e = .returned (.bool true) ∧ Below V2.heap.size V2 w') := fun V2 => alive17_any V2
  have HIN := hide h
  obtain ⟨av, cv, rfl⟩ := rdl_slice h
  obtain ⟨N, hN⟩ : ∃ z, z = l.length := ⟨_, rfl⟩
  rw [← hN] at KZ HIN ⊢
  have HN := hide hN
  clear h hl hN
  go_enter Try.func6, Try.ntmps6
  go_wp2_with fail
  refine (unhide KZ).mono ?_
  rintro e w1 ⟨n1, rfl, hn1, hm1, b1⟩
  have HB1 := hide b1
  have HM1 := hide hm1
  have KBY := hide (beyond17a w1.heap.size n1 1 (w1.alloc (.cells #[.int .i64 (n1 : Int)] 3)) hn1 (blk_c (heap_alloc_new _ _) rfl))
  clear KZ hm1 b1
  go_wp2_with fail
  refine (unhide KBY).mono ?_
  rintro e w2 ⟨rfl, rfl⟩
  generalize hV : World.alloc w1 _ = V
  have HV : Hid (Below w.heap.size w V) := by rw [← hV]; exact bw_tr (unhide HB1) (bwA w1 _)
  clear hV KBY HB1
  by_cases hbig : 262144 < n1
  · have hd : decide (262144 < n1) = true := decide_eq_true hbig
    have hd2 : decide ((262144 : Int) < (n1 : Int)) = true := decide_eq_true (by omega)
    clear HIN HM1
    go_wp2_with fail
    refine (unhide KAL _).mono ?_
    rintro e w9 ⟨rfl, b9⟩
    clear KAL
    go_wp2_with fail
    go_ret
    exact ⟨rfl, bw_tr (unhide HV) b9⟩
  · have hd : decide (262144 < n1) = false := decide_eq_false hbig
    have HKL : Hid (RdL kLk w (.slice av N cv) l xs ∧ l.length ≤ 262144) := by
      have e1 := unhide HM1 (by omega)
      have e2 := unhide HN
      exact ⟨lks_of (unhide HIN) (by omega), by omega⟩
    clear HIN HM1 hbig hn1
    by_cases hp0 : peer < 0
    · go_wp2_with fail
      refine (unhide KAL _).mono ?_
      rintro e w9 ⟨rfl, b9⟩
      clear KAL
      go_wp2_with fail
      go_ret
      exact ⟨rfl, bw_tr (unhide HV) b9⟩
    · by_cases hp3 : 3 < peer
      · go_wp2_with fail
        refine (unhide KAL _).mono ?_
        rintro e w9 ⟨rfl, b9⟩
        clear KAL
        go_wp2_with fail
        go_ret
        exact ⟨rfl, bw_tr (unhide HV) b9⟩
      · have KS := hide (acks_two ((unhide HKL).1.bw (unhide HV)) (unhide HKL).2 peer sq)
        go_wp2_with fail
        refine (unhide KS).mono ?_
        rintro e w3 ⟨va, ea, rfl, b3, HA⟩
        have HB3 := hide (bw_tr (unhide HV) b3)
        obtain ⟨PK, hPK⟩ : ∃ z, z = ptC ⟨peer, 0, true, sq, fdK 0 0⟩ fx00 := ⟨_, rfl⟩
        have HBU : Hid (Try.prog.built 45 [(0, .int .i64 peer), (2, .bool true), (3, .int .i64 sq)] = some PK.toArray) := by rw [hPK]; exact built_ack peer sq
        have KT := hide ((unhide HA).2.2 w3 (Below.refl _ _))
        rw [← hPK] at KT
        have HA1 := hide (unhide HA).1
        clear KS b3 HV hPK HA
        go_upto_region 4 with fail
        go_step
        go_step
        go_step
        go_step
        go_step
        go_step
        go_step
        go_step
        go_step
        go_step
        refine wpList_buildTo (P := Try.prog) ?_ 45 #[(0, .tmp 37), (2, .const (.bool true)), (3, .tmp 38)] ?_ (some 39) ?_ PK.toArray ?_ ?_
        · rfl
        · rfl
        · rfl
        · simp only [List.map_toArray, List.map_cons, List.map_nil, List.toList_toArray]
          exact (unhide HBU)
        go_wp2_with fail
        refine (unhide KT).mono ?_
        rintro e w4 ⟨vx, tv, bv, eb, rfl, b4, HX⟩
        have HB4 := hide (bw_tr (unhide HB3) b4)
        have HB34 := hide b4
        clear KT HBU b4 HB3
        by_cases h1 : ea = 0
        · by_cases h2 : eb = 0
          · subst h1 h2
            obtain ⟨hok, ya, hya⟩ := unhide HA1 rfl
            obtain ⟨rfl, rfl, hS2⟩ := (unhide HX).2 rfl rfl
            have KS2 := hide (hS2 w4 (Below.refl _ _))
            have hyb := hya.bw (unhide HB34)
            obtain ⟨A, hA⟩ : ∃ z, z = sndL 0 l := ⟨_, rfl⟩
            have hAn : A.length ≤ 4096 := by
              rw [hA]
              have h3 := @sndL_len 0 l (fun k hk => by
                obtain ⟨i, hi, e⟩ := List.getElem_of_mem hk
                exact (hok i k (by rw [← e]; exact List.getElem?_eq_getElem hi)).1.2.1.2.1)
              have := okLs_len hok
              omega
            rw [← hA] at hyb KS2
            have HYA := hide hyb
            clear HX HA1 hok hya hS2 hyb hA HKL HB34
            go_wp2_with fail
            refine (unhide KS2).mono ?_
            rintro e w5 ⟨vb, rfl, b5, HYB⟩
            have HB5 := hide (bw_tr (unhide HB4) b5)
            have HY5 := hide ((unhide HYA).bw b5)
            obtain ⟨aA, cA, rfl⟩ := rdl_slice (unhide HYA)
            obtain ⟨NA, hNA⟩ : ∃ z, z = A.length := ⟨_, rfl⟩
            rw [← hNA] at HY5 hAn ⊢
            have HNA := hide hNA
            obtain ⟨j0, hj, hy0, hy1, hyb⟩ := info_parts infoKPacket
            have HJ := hide (And.intro hj (And.intro hy0 (And.intro hy1 hyb)))
            clear KS2 HYA b5 HB4 hNA hj hy0 hy1 hyb
            go_wp2_with fail
            go_loopw [15, 16] (fun sv iv wr => ∃ (i m : Nat) (sa : Option Addr) (sc : Nat), i ≤ NA ∧ m ≤ i ∧ iv = .int .i64 (i : Int) ∧ sv = .slice sa m sc ∧ Hid (Below w5.heap.size w5 wr ∧ ∃ xs' : List Fx, xs'.length = m ∧ m = ((A.take i).filter (leftP peer sq)).length ∧ wr.ownsRow w5.heap.size 45 57 (.slice sa m sc) m (cellK kPk ((A.take i).filter (leftP peer sq)) xs') ∧ ∀ (j : Nat) a x, ((A.take i).filter (leftP peer sq))[j]? = some a → xs'[j]? = some x → FdR w5 a.fd x ∧ SmF a.fd)) (fun _ iv _ => (NA - intOf iv).toNat)
            case atStart => exact ⟨0, 0, none, 0, Nat.zero_le _, Nat.le_refl _, rfl, rfl, Below.refl _ _, [], rfl, by simp, World.ownsRow_nil _ _ _ _, by simp⟩
            case round =>
              obtain ⟨i, m, sa, sc, hi, hmi, rfl, rfl, HI⟩ := hrel
              have hi0 : (0 : Int) ≤ (i : Int) := by omega
              by_cases hlt : i < NA
              · have hiI : (i : Int) < (NA : Int) := by omega
                obtain ⟨hbr, xs0, hx1, hx2, hx3, hx4⟩ := unhide HI
                obtain ⟨p, x, g, o, rfl, hp, _, hpR, hprg⟩ := rdl_at (unhide HY5) (i := i) (by rw [← unhide HNA]; exact hlt)
                have hrg : wr.rangeAt g (o + i * 57) (ptC p x) := rng_bw hprg hbr
                have e1 : wr.cell? ⟨g, o + i * 57 + 1, none⟩ = some (.int .i64 p.tu) := hrg 1 _ rfl
                have e3 : wr.cell? ⟨g, o + i * 57 + 3, none⟩ = some (.int .i64 p.sq) := hrg 3 _ rfl
                obtain ⟨PS, hPS⟩ : ∃ z, z = ptC p x := ⟨_, rfl⟩
                have HPS : Hid (wr.rangeAt g (o + i * 57) PS ∧ PS.length = 57 ∧ ∀ u ∈ PS, u.oneCell' = true) := by rw [hPS]; exact ⟨hrg, rfl, pt_one hpR.1⟩
                obtain ⟨CW, hCW⟩ : ∃ z, z = cellK kPk ((A.take i).filter (leftP peer sq)) xs0 := ⟨_, rfl⟩
                rw [← hCW] at hx3
                have HROW : Hid (∀ ob : Obj, (wr.alloc ob).ownsRow w5.heap.size 45 57 (.slice sa m sc) m CW ∧ w5.heap.size ≤ (wr.alloc ob).heap.size) := fun ob => ⟨World.ownsRow.alloc hx3 _, Nat.le_trans hbr.size (bwA wr ob).size⟩
                have htk : A.take (i + 1) = A.take i ++ [p] := by rw [List.take_add_one, hp]; rfl
                have HSKIP : Hid (leftP peer sq p = false → Below w5.heap.size w5 wr ∧ ∃ xs' : List Fx, xs'.length = m ∧ m = ((A.take (i + 1)).filter (leftP peer sq)).length ∧ wr.ownsRow w5.heap.size 45 57 (.slice sa m sc) m (cellK kPk ((A.take (i + 1)).filter (leftP peer sq)) xs') ∧ ∀ (j : Nat) a x, ((A.take (i + 1)).filter (leftP peer sq))[j]? = some a → xs'[j]? = some x → FdR w5 a.fd x ∧ SmF a.fd) := fun hk => by
                  have e : (A.take (i + 1)).filter (leftP peer sq) = (A.take i).filter (leftP peer sq) := by
                    rw [htk, List.filter_append, List.filter_cons_of_neg (by rw [hk]; decide), List.filter_nil, List.append_nil]
                  rw [e]
                  exact ⟨hbr, xs0, hx1, hx2, by rw [← hCW]; exact hx3, hx4⟩
                have HNX0 : Hid (leftP peer sq p = true → ∀ (v5 : Value) (w6 : World), w6.ownsRow w5.heap.size 45 57 v5 (m + 1) (CW ++ PS) → (wr.alloc (.cells PS.toArray 45)).grownBy w6 (Value.slice sa m sc).ownBlock → Below w5.heap.size w5 w6 ∧ ∃ xs' : List Fx, xs'.length = m + 1 ∧ m + 1 = ((A.take (i + 1)).filter (leftP peer sq)).length ∧ w6.ownsRow w5.heap.size 45 57 v5 (m + 1) (cellK kPk ((A.take (i + 1)).filter (leftP peer sq)) xs') ∧ ∀ (j : Nat) a x, ((A.take (i + 1)).filter (leftP peer sq))[j]? = some a → xs'[j]? = some x → FdR w5 a.fd x ∧ SmF a.fd) := fun hk v5 w6 hr hg => by
                  have e : (A.take (i + 1)).filter (leftP peer sq) = (A.take i).filter (leftP peer sq) ++ [p] := by
                    rw [htk, List.filter_append, List.filter_cons_of_pos hk, List.filter_nil]
                  rw [e]
                  refine ⟨?_, xs0 ++ [x], by simp [hx1], by rw [List.length_append, ← hx2]; rfl, ?_, fun j a z ha hz => ?_⟩
                  · refine fr_bel (bw_tr hbr (bwA wr _)) (Fr.ofGrown hg) (fun z hz => ?_) (by have := hbr.size; have := (bwA wr (.cells PS.toArray 45)).size; omega)
                    exact (World.ownsRow.lt hx3 z (by simpa using hz)).1
                  · rw [cellK_snocM (K := kPk) (by rw [hx1, hx2])]
                    rw [hCW, hPS] at hr
                    exact hr
                  · rcases get_snocM ha with ⟨h5, h6⟩ | ⟨h5, h6⟩
                    · refine hx4 j a z h6 ?_
                      rw [List.getElem?_append_left (by rw [hx1, hx2]; exact h5)] at hz
                      exact hz
                    · subst h6
                      rw [h5, ← hx2, ← hx1, List.getElem?_append_right (Nat.le_refl _), Nat.sub_self] at hz
                      simp only [List.getElem?_cons_zero, Option.some.injEq] at hz
                      subst hz
                      exact hpR
                obtain ⟨tu, htu⟩ : ∃ z, z = p.tu := ⟨_, rfl⟩
                obtain ⟨ps, hps⟩ : ∃ z, z = p.sq := ⟨_, rfl⟩
                have HLP : Hid (leftP peer sq p = (!decide (tu = peer) || decide (sq ≤ ps))) := by rw [htu, hps]; rfl
                rw [← htu] at e1
                rw [← hps] at e3
                clear hbr hx1 hx2 hx3 hx4 hp hpR hprg hrg hPS hCW htk htu hps HI
                by_cases ht : tu = peer
                · have t1 : (tu == peer) = true := by simp [ht]
                  have t2 : decide (tu = peer) = true := decide_eq_true ht
                  by_cases hs : sq ≤ ps
                  · have HNEXT := hide (unhide HNX0 (by rw [unhide HLP]; simp [hs]))
                    clear HNX0 HSKIP HLP
                    go_wp2_with (first | refine wpList_load_mid rfl 45 (.tmp 99) rfl g (o + i * 57) (by simp [Act.eval]) PS _ (unhide HPS).1 Try.underlying45 rfl (by rw [(unhide HPS).2.1]; exact infoPkS) ?_ | refine wpList_step (fun K hK => step_buildM rfl 53 45 (.tmp 100) rfl PS (by first | rfl | simp [Act.eval]) j0 (.agg pt0) Try.underlying53 (unhide HJ).1 (unhide HJ).2.1 (by rw [(unhide HPS).2.1]; exact (unhide HJ).2.2.1) (by rw [(unhide HPS).2.1]; decide) (by rw [(unhide HPS).2.1]; decide) (hK _ _ ?_)) | (at_builtin; refine wpList_step (fun K hK => step_appM rfl (.tmp 96) (.tmp 101) 53 rfl w5.heap.size 45 j0 (.agg pt0) 57 632 Try.underlying53 (unhide HJ).1 (unhide HJ).2.1 (unhide HJ).2.2.1 (unhide HJ).2.2.2 rfl (by decide) (.slice sa m sc) m CW (by first | rfl | simp [Act.eval]) (unhide HROW _).1 ⟨wr.heap.size, 0, none⟩ 1 1 PS (by first | rfl | simp [Act.eval]) (by rw [(unhide HPS).2.1]) (cells_newM wr PS 45) (unhide HPS).2.2 (by unfold maxLen; omega) (by omega) (unhide HROW _).2 (fun v5 w6 hr5 hg5 hv5 => hK _ _ ?nx))))
                    obtain ⟨a5_, c5_, e5_⟩ := own_slice hr5
                    have HNX := hide (unhide HNEXT v5 w6 hr5 hg5)
                    clear hr5 hg5 hv5
                    subst e5_
                    go_roundw
                    case rel => exact ⟨i + 1, m + 1, a5_, c5_, by omega, by omega, by go_num, rfl, unhide HNX⟩
                    case measure => simp only [intOf]; omega
                  · have hs2 : decide (sq ≤ ps) = false := decide_eq_false hs
                    have HNX := hide (unhide HSKIP (by rw [unhide HLP]; simp [hs, ht]))
                    clear HNX0 HSKIP HLP HPS HROW HJ
                    go_wp2_with fail
                    go_roundw
                    case rel => exact ⟨i + 1, m, sa, sc, by omega, by omega, by go_num, rfl, unhide HNX⟩
                    case measure => simp only [intOf]; omega
                · have t1 : (tu == peer) = false := by simp [ht]
                  have t2 : decide (tu = peer) = false := decide_eq_false ht
                  have HNEXT := hide (unhide HNX0 (by rw [unhide HLP]; simp [ht]))
                  clear HNX0 HSKIP HLP
                  go_wp2_with (first | refine wpList_load_mid rfl 45 (.tmp 99) rfl g (o + i * 57) (by simp [Act.eval]) PS _ (unhide HPS).1 Try.underlying45 rfl (by rw [(unhide HPS).2.1]; exact infoPkS) ?_ | refine wpList_step (fun K hK => step_buildM rfl 53 45 (.tmp 100) rfl PS (by first | rfl | simp [Act.eval]) j0 (.agg pt0) Try.underlying53 (unhide HJ).1 (unhide HJ).2.1 (by rw [(unhide HPS).2.1]; exact (unhide HJ).2.2.1) (by rw [(unhide HPS).2.1]; decide) (by rw [(unhide HPS).2.1]; decide) (hK _ _ ?_)) | (at_builtin; refine wpList_step (fun K hK => step_appM rfl (.tmp 96) (.tmp 101) 53 rfl w5.heap.size 45 j0 (.agg pt0) 57 632 Try.underlying53 (unhide HJ).1 (unhide HJ).2.1 (unhide HJ).2.2.1 (unhide HJ).2.2.2 rfl (by decide) (.slice sa m sc) m CW (by first | rfl | simp [Act.eval]) (unhide HROW _).1 ⟨wr.heap.size, 0, none⟩ 1 1 PS (by first | rfl | simp [Act.eval]) (by rw [(unhide HPS).2.1]) (cells_newM wr PS 45) (unhide HPS).2.2 (by unfold maxLen; omega) (by omega) (unhide HROW _).2 (fun v5 w6 hr5 hg5 hv5 => hK _ _ ?nxb))))
                  obtain ⟨a5_, c5_, e5_⟩ := own_slice hr5
                  have HNX := hide (unhide HNEXT v5 w6 hr5 hg5)
                  clear hr5 hg5 hv5
                  subst e5_
                  go_roundw
                  case rel => exact ⟨i + 1, m + 1, a5_, c5_, by omega, by omega, by go_num, rfl, unhide HNX⟩
                  case measure => simp only [intOf]; omega
              · obtain rfl : i = NA := by omega
                have hni : ¬ (i : Int) < (i : Int) := by omega
                have KSP : Hid (Calls Try.prog 18 #[vb, .slice sa m sc] wr fun e w' => e = .returned (.bool true) ∧ Below wr.heap.size wr w') := by
                  obtain ⟨hbr, xs0, hx1, hx2, hx3, hx4⟩ := unhide HI
                  obtain ⟨yb, hyb⟩ := unhide HYB
                  have e : A.take i = A := by rw [unhide HNA]; simp
                  rw [e] at hx2 hx3 hx4
                  rw [hx2] at hx3
                  have hw := rd_own (K := kPk) (by rw [hx1, hx2]) hx3 (fun j a x ha hx => ⟨(hx4 j a x ha hx).1.bw hbr, (hx4 j a x ha hx).2⟩)
                  rw [← hx2] at hw
                  exact samePts_any (hyb.bw hbr) hw (by rw [← hx2]; have := hmi; omega)
                have HBR := hide (bw_tr (unhide HB5) (unhide HI).1)
                clear HI HYB HY5 HJ
                go_wp2_with fail
                refine (unhide KSP).mono ?_
                rintro e w7 ⟨rfl, b7⟩
                have HB7 := hide (bw_tr (unhide HBR) b7)
                clear KSP b7 HBR
                go_wp2_with fail
                refine (unhide KAL _).mono ?_
                rintro e w9 ⟨rfl, b9⟩
                clear KAL
                go_wp2_with fail
                go_ret
                exact ⟨rfl, bw_tr (unhide HB7) b9⟩
          · have hv : vx = .slice none 0 0 := (unhide HX).1 (Or.inr h2)
            subst hv h1
            have q1 : (eb == 0) = false := by simp; exact h2
            have q2 : decide (eb = 0) = false := decide_eq_false h2
            clear HX HA1 HKL HB34
            go_wp2_with fail
            refine (unhide KAL _).mono ?_
            rintro e w9 ⟨rfl, b9⟩
            clear KAL
            go_wp2_with fail
            go_ret
            exact ⟨rfl, bw_tr (unhide HB4) b9⟩
        · have hv : vx = .slice none 0 0 := (unhide HX).1 (Or.inl h1)
          subst hv
          have p1 : (ea == 0) = false := by simp; exact h1
          have p2 : decide (ea = 0) = false := decide_eq_false h1
          clear HX HA1 HKL HB34
          go_wp2_with fail
          refine (unhide KAL _).mono ?_
          rintro e w9 ⟨rfl, b9⟩
          clear KAL
          go_wp2_with fail
          go_ret
          exact ⟨rfl, bw_tr (unhide HB4) b9⟩
end Go.Proofs.Ytgiicendejgklaa
