/- DeduceGrows: for every list of terms, of known numbers, and every number, the law answers true: what is known follows, who knows more does not work out less, and what follows adds nothing when it is learned. No condition (the law itself claims nothing of more than 600 terms or 1000 known ones). -/
import Derived.Test.YtfpimmbjjcpobaaTmFrameN
import Derived.Test.YtfpimmbjjcpobaaDdI
import Derived.Test.YtfpimmbjjcpobaaDdPureB
import Derived.Test.YtfpimmbjjcpobaaDdJ
namespace Go.Proofs.Ytfpimmbjjcpobaa
open Go.ChangeShapes Go.WideShapes Go.ChangeAt Go.RowKit Go.Joins Go.Maps

/-- The numbers up to a bound that a test takes. -/
def upto (f : Int → Bool) (n : Nat) : List Nat := ((List.range n).map (· + 1)).filter (fun m => f (m : Int))
theorem mem_upto {f : Int → Bool} {n m : Nat} : m ∈ upto f n ↔ (1 ≤ m ∧ m ≤ n) ∧ f (m : Int) = true := by
  unfold upto
  rw [List.mem_filter]
  have : m ∈ (List.range n).map (· + 1) ↔ 1 ≤ m ∧ m ≤ n := by
    simp only [List.mem_map, List.mem_range]
    constructor
    · rintro ⟨k, h, rfl⟩; omega
    · intro h; exact ⟨m - 1, by omega, by omega⟩
  rw [this]
theorem upto_len (f : Int → Bool) (n : Nat) : (upto f n).length ≤ n := by
  unfold upto
  exact Nat.le_trans (List.length_filter_le _ _) (by simp)
theorem upto_succ (f : Int → Bool) (n : Nat) : upto f (n + 1) = if f ((n + 1 : Nat) : Int) = true then upto f n ++ [n + 1] else upto f n := by
  unfold upto
  rw [List.range_succ, List.map_append, List.filter_append]
  simp only [List.map_cons, List.map_nil]
  split
  · rename_i c; simp only [List.filter_cons, List.filter_nil, c, if_true]
  · rename_i c
    have c2 : f ((n + 1 : Nat) : Int) = false := by simpa using c
    simp only [List.filter_cons, List.filter_nil, c2]; simp
/-- What follows from what follows. -/
theorem again_fol {L : List Tm} {K : Nat → Prop} (hG : Good L) (x : Int) : hasB L (fun m => m ∈ upto (hasB L K) L.length) x = hasB L K x := by
  refine hasB_eq hG (fun m h1 h2 h3 => ?_) (fun m h1 h2 h3 => ?_) x
  · exact (hasB_nat hG).1 (mem_upto.1 h3).2
  · exact .known h1 h2 (mem_upto.2 ⟨⟨h1, h2⟩, (hasB_nat hG).2 (.known h1 h2 h3)⟩)
theorem more_fol {L : List Tm} {K : Nat → Prop} (hG : Good L) (more x : Int) (h : hasB L K x = true) : hasB L (fun m => K m ∨ (thr L.length more = true ∧ m = more.toNat)) x = true :=
  hasB_sub hG (fun _ h1 h2 h3 => .known h1 h2 (Or.inl h3)) h
theorem had_fol {L : List Tm} {K : Nat → Prop} (hG : Good L) (more x : Int) (h : hasB L K more = true) : hasB L (fun m => K m ∨ (thr L.length more = true ∧ m = more.toNat)) x = hasB L K x := by
  refine hasB_eq hG (fun m h1 h2 h3 => ?_) (fun _ h1 h2 h3 => .known h1 h2 (Or.inl h3)) x
  rcases h3 with c | ⟨_, c⟩
  · exact .known h1 h2 c
  · rw [c]; exact (hasB_iff.1 h).2

set_option maxRecDepth 100000 in
set_option maxHeartbeats 20000000 in
theorem DeduceGrows_walk (w : World) (a1 : Option Addr) (cap1 : Nat) (l : List Tm) (h1 : Tms w (.slice a1 l.length cap1) l) (hok1 : ∀ t ∈ l, t.ok) (a2 : Option Addr) (cap2 : Nat) (lk : List Int) (h2 : NIs w (.slice a2 lk.length cap2) lk) (more : Int) (_m1 : -9223372036854775808 ≤ more) (_m2 : more ≤ 9223372036854775807) :
    Calls Try.prog 6 #[.slice a1 l.length cap1, .slice a2 lk.length cap2, .int .i64 more] w fun e w' => e = .returned (.bool true) ∧ Below w.heap.size w w' := by
  obtain ⟨hl1, _⟩ := h1.get
  have hl2 := h2.len
  have hcl := trivial
  by_cases big0 : 600 < l.length
  · have g0 : (600 : Int) < (l.length : Int) := by omega
    have t0 : (l.length : Int) ≤ 140737488355328 := by omega
    have t1 : (lk.length : Int) ≤ 140737488355328 := by omega
    generalize l.length = N0 at *
    generalize lk.length = N1 at *
    clear big0  hcl
    go_enter Try.func6, Try.ntmps6
    go_wp2_with fail
    go_ret
    exact ⟨rfl, Below.refl _ _⟩
  by_cases big1 : 1000 < lk.length
  · have g1 : (1000 : Int) < (lk.length : Int) := by omega
    have s0 : ¬ ((600 : Int) < (l.length : Int)) := by omega
    have t0 : (l.length : Int) ≤ 140737488355328 := by omega
    have t1 : (lk.length : Int) ≤ 140737488355328 := by omega
    generalize l.length = N0 at *
    generalize lk.length = N1 at *
    clear big1 big0 hcl
    go_enter Try.func6, Try.ntmps6
    go_wp2_with fail
    go_ret
    exact ⟨rfl, Below.refl _ _⟩
  have s0 : ¬ ((600 : Int) < (l.length : Int)) := by omega
  have s1 : ¬ ((1000 : Int) < (lk.length : Int)) := by omega
  have KB := build_any w a1 cap1 l h1 hok1 (by omega)
  have hfl := fillL_len l []
  simp only [List.length_nil, Nat.zero_add] at hfl
  have HI := hide (And.intro h2 (And.intro (Nat.le_trans hfl (Nat.le_of_not_lt big0)) (And.intro (fill_good l [] good_nil) big1)))
  have hLn : ((fillL [] l).length : Int) ≤ 600 := by omega
  clear h1 hok1 h2 hl1 hl2 hcl big0 big1 hfl _m1 _m2
  obtain ⟨N1, hN1⟩ : ∃ N1, N1 = l.length := ⟨_, rfl⟩
  obtain ⟨N2, hN2⟩ : ∃ N2, N2 = lk.length := ⟨_, rfl⟩
  rw [← hN1] at s0 KB ⊢
  rw [← hN2] at s1 ⊢
  have HN := hide hN2
  clear hN1 hN2
  generalize fillL [] l = L at *
  obtain ⟨j0, hj, hy0, hy1, hyb⟩ := info_parts Try.infoInt
  obtain ⟨M, hM⟩ : ∃ M, M = L.length := ⟨_, rfl⟩
  rw [← hM] at hLn
  have HM := hide hM
  clear hM
  go_enter Try.func6, Try.ntmps6
  go_wp2_with fail
  refine KB.mono ?_
  rintro e w1 ⟨b, sv, mb, rb, rv, rfl, two⟩
  have E1 := (Env.ofTwo two)
  clear KB two s0
  have KN := env_new E1 a2 cap2 lk ((unhide HI).1.bw E1.bel) (by have := (unhide HI).2.2.2; omega)
  rw [← (unhide HN)] at KN
  clear E1
  go_wp2_with fail
  refine KN.mono ?_
  rintro e w2 ⟨p, rfl, hp⟩
  clear KN
  rcases hp with ⟨e1, rfl, E2'⟩ | ⟨e1, ka, Z, rfl, E2'⟩
  · rw [e1]
    have hb := E2'.bel
    clear e1 E2'
    go_wp2_with fail
    refine (dlives_any _).mono ?_
    rintro e w9 ⟨rfl, hb9⟩
    have hbb := bw_tr hb hb9
    go_wp2_with fail
    go_ret
    exact ⟨rfl, hbb⟩
  · rw [e1]
    have hin := newE_zero e1
    obtain ⟨K, hK⟩ : ∃ K : Nat → Prop, K = (fun (m : Nat) => (m : Int) ∈ lk) := ⟨_, rfl⟩
    rw [← hK] at E2'
    have hkn : ∀ z ∈ lk, hasB L K z = true := fun z hz => by
      have := thr_iff.1 (hin z hz)
      refine hasB_iff.2 ⟨this.1, .known (by omega) (by omega) ?_⟩
      rw [hK]
      show ((z.toNat : Nat) : Int) ∈ lk
      rw [Int.toNat_of_nonneg (by omega)]; exact hz
    have HK := hide hkn
    have HE : Hid (EN w w2 ka b sv mb rb rv L L K (.slice none 0 0) []) := EN.start E2'
    clear e1 E2' hin hkn hK
    go_wp2_with fail
    go_loopw [12] (fun iv wr => ∃ i : Nat, i ≤ N2 ∧ iv = .int .i64 (i : Int) ∧ Hid (EN w wr ka b sv mb rb rv L L K (.slice none 0 0) [])) (fun iv _ => (N2 - intOf iv).toNat)
    case atStart => exact ⟨0, by omega, rfl, HE⟩
    case round =>
      clear HE
      obtain ⟨i, hi, rfl, HR⟩ := hrel
      by_cases hlt : i < N2
      · obtain ⟨z, hz⟩ : ∃ z, lk[i]? = some z := ⟨_, List.getElem?_eq_getElem (by have := unhide HN; omega)⟩
        obtain ⟨g, o, hg, hc⟩ := (unhide HI).1.get hz
        subst hg
        have cz := hc wr (unhide HR).bel
        have KH := (unhide HR).has z
        rw [unhide HK z (List.mem_of_getElem? hz)] at KH
        have hi1 : (i : Int) < (N2 : Int) := by omega
        clear hz hc
        go_wp2_with fail
        refine KH.mono ?_
        rintro e w5 ⟨rfl, E5⟩
        have HE5 := hide E5
        clear E5 KH cz HR
        go_wp2_with fail
        go_roundw
        case rel => exact ⟨i + 1, by omega, by go_num, HE5⟩
        case measure => simp only [intOf]; omega
      · obtain rfl : i = N2 := by omega
        clear hlt hi
        go_wp2_with fail
        have HE2 : Hid (EN w wr ka b sv mb rb rv L L K (.slice none 0 0) (upto (hasB L K) 0)) := by
          have e : upto (hasB L K) 0 = [] := rfl
          rw [e]; exact unhide HR
        go_loopw [13, 14] (fun vv nv wr => ∃ n : Nat, n ≤ M ∧ nv = .int .i64 ((n + 1 : Nat) : Int) ∧ Hid (EN w wr ka b sv mb rb rv L L K vv (upto (hasB L K) n))) (fun _ nv _ => (M + 1 - intOf nv).toNat)
        case atStart => exact ⟨0, by omega, rfl, HE2⟩
        case round =>
          clear HE2 HR
          obtain ⟨n, hn, rfl, HR⟩ := hrel
          have KL := (unhide HR).len
          rw [← unhide HM] at KL
          by_cases hlt : n < M
          · have KH := (unhide HR).has ((n + 1 : Nat) : Int)
            have hup := upto_succ (hasB L K) n
            have hn1 : ((n + 1 : Nat) : Int) ≤ (M : Int) := by omega
            obtain ⟨ua, uc, hv⟩ := own_slice (unhide HR).row
            obtain ⟨q, hq⟩ : ∃ q, q = (upto (hasB L K) n).length := ⟨_, rfl⟩
            rw [← hq] at hv
            subst hv
            have hrow : Hid (NRow 0 wr (.slice ua q uc) (upto (hasB L K) n)) := (unhide HR).row
            have hqb := upto_len (hasB L K) n
            rw [← hq] at hqb
            have HQ := hide (And.intro hq hqb)
            cases hh : hasB L K ((n + 1 : Nat) : Int)
            · rw [hh] at KH hup
              have hup2 : upto (hasB L K) (n + 1) = upto (hasB L K) n := by rw [hup]; simp
              have HU := hide hup2
              clear hup hup2 hh hq hqb
              go_wp2_with fail
              refine KL.mono ?_
              rintro e wr ⟨rfl, rfl⟩
              clear KL
              go_wp2_with fail
              refine KH.mono ?_
              rintro e w5 ⟨rfl, E5⟩
              have HE5 := hide E5
              clear E5 KH
              go_wp2_with fail
              go_roundw
              case rel => exact ⟨n + 1, by omega, by go_num, by rw [unhide HU]; exact HE5⟩
              case measure => simp only [intOf]; omega
            · rw [hh] at KH hup
              have hup2 : upto (hasB L K) (n + 1) = upto (hasB L K) n ++ [n + 1] := by rw [hup]; simp
              have HU := hide hup2
              clear hup hup2 hh hq hqb
              go_wp2_with fail
              refine KL.mono ?_
              rintro e wr ⟨rfl, rfl⟩
              clear KL
              go_wp2_with fail
              refine KH.mono ?_
              rintro e w5 ⟨rfl, E5⟩
              have HE5 := hide E5
              have hr5 : w5.ownsRow 0 3 1 (.slice ua q uc) q ((upto (hasB L K) n).map (fun m => .int .i64 ((m : Nat) : Int))) := by
                have := E5.row; unfold NRow at this; rw [← (unhide HQ).1] at this; exact this
              clear E5 KH
              go_wp2_with (at_builtin; refine wpList_append_own_at _ rfl (.tmp 69) (.tmp 71) 23 rfl 0 3 j0 (.int .i64 0) 1 8 Try.underlying23 hj hy0 hy1 hyb rfl (by decide) _ q _ rfl (World.ownsRow.alloc hr5 _) ⟨w5.heap.size, 0, none⟩ 1 1 [_] rfl rfl (cell_one_new _ _ _) ?c2 ?c3 ?c4 ?c5 ?nx)
              case c2 => exact one_int _
              case c3 => have := (unhide HQ).2; unfold maxLen; omega
              case c4 => have := (unhide HQ).2; omega
              case c5 => exact Nat.zero_le _
              case nx =>
                intro v' w6 hown' hgrow _ hat
                have E6 : Hid (EN w w6 ka b sv mb rb rv L L K v' (upto (hasB L K) (n + 1))) := by
                  unfold Hid
                  rw [unhide HU]
                  rw [(unhide HQ).1] at hown'
                  have := unhide HE5
                  exact this.push hown' hgrow (by simpa using hat)
                clear hown' hgrow hat
                go_wp2_with fail
                go_roundw
                case rel => exact ⟨n + 1, by omega, by go_num, E6⟩
                case measure => simp only [intOf]; omega
          · obtain rfl : n = M := by omega
            have KN2 := (unhide HR).new (fun m hm => by have := (mem_upto.1 hm).1; have := unhide HM; omega) (by have := upto_len (hasB L K) n; omega)
            have hn1 : ¬ (((n + 1 : Nat) : Int) ≤ (n : Int)) := by omega
            have hag := again_fol (K := K) (unhide HI).2.2.1
            rw [← unhide HM] at hag
            have HA := hide hag
            clear hlt hag
            go_wp2_with fail
            refine KL.mono ?_
            rintro e wr ⟨rfl, rfl⟩
            clear KL
            go_wp2_with fail
            refine KN2.mono ?_
            rintro e w6 ⟨kb, rfl, E6⟩
            obtain ⟨B, hB⟩ : ∃ B : Nat → Prop, B = (fun m => m ∈ upto (hasB L K) n) := ⟨_, rfl⟩
            rw [← hB] at E6 HA
            clear hB KN2 HR
            have KH := E6.hasA more
            obtain ⟨hd, hhd⟩ : ∃ hd, hd = hasB L K more := ⟨_, rfl⟩
            rw [← hhd] at KH
            have HH := hide hhd
            clear hhd E6
            go_wp2_with fail
            refine KH.mono ?_
            rintro e w7 ⟨rfl, E7⟩
            have KE := E7.learnA more
            obtain ⟨A', hA'⟩ : ∃ A' : Nat → Prop, A' = (fun m => K m ∨ (thr L.length more = true ∧ m = more.toNat)) := ⟨_, rfl⟩
            rw [← hA'] at KE
            have HF : Hid (∀ x, (hasB L B x = true → hasB L A' x = true) ∧ (hd = true → hasB L A' x = hasB L B x)) := by
              intro x
              rw [unhide HA x, hA']
              exact ⟨more_fol (unhide HI).2.2.1 more x, fun c => had_fol (unhide HI).2.2.1 more x (by rw [← unhide HH]; exact c)⟩
            clear hA' E7 KH
            generalize (if thr L.length more = true then (0 : Int) else 1) = er at *
            go_wp2_with fail
            refine KE.mono ?_
            rintro e w8 ⟨rfl, E8⟩
            have HE8 := hide E8
            clear E8 KE
            go_wp2_with fail
            go_loopw [17] (fun nv wr => ∃ m : Nat, m ≤ n ∧ nv = .int .i64 ((m + 1 : Nat) : Int) ∧ Hid (E2 w wr ka kb b sv mb rb rv L L A' B)) (fun nv _ => (n + 1 - intOf nv).toNat)
            case atStart => exact ⟨0, by omega, rfl, HE8⟩
            case round =>
              clear HE8
              obtain ⟨m, hm, rfl, HR⟩ := hrel
              have KL := (unhide HR).len
              rw [← unhide HM] at KL
              by_cases hlt : m < n
              · have hn2 : ((m + 1 : Nat) : Int) ≤ (n : Int) := by omega
                obtain ⟨x, hx⟩ : ∃ x : Int, x = ((m + 1 : Nat) : Int) := ⟨_, rfl⟩
                obtain ⟨f1, f2⟩ := unhide HF x
                have KB0 : ∀ W, E2 w W ka kb b sv mb rb rv L L A' B → _ := fun W h => h.hasB x
                have KA0 : ∀ W, E2 w W ka kb b sv mb rb rv L L A' B → _ := fun W h => h.hasA x
                obtain ⟨bv, hbv⟩ : ∃ bv, bv = hasB L B x := ⟨_, rfl⟩
                obtain ⟨av, hav⟩ : ∃ av, av = hasB L A' x := ⟨_, rfl⟩
                rw [← hbv, ← hav] at f1 f2
                rw [← hbv] at KB0
                rw [← hav] at KA0
                rw [hx] at KB0 KA0
                have HKB := hide KB0
                have HKA := hide KA0
                clear hbv hav hx KB0 KA0
                have KB1 := unhide HKB wr (unhide HR)
                go_wp2_with fail
                refine KL.mono ?_
                rintro e wr ⟨rfl, rfl⟩
                clear KL HR
                cases bv
                · cases hd
                  · clear f1 f2
                    go_wp2_with fail
                    refine KB1.mono ?_
                    rintro e w9 ⟨rfl, E9⟩
                    have HE9 := hide E9
                    clear E9 KB1
                    go_wp2_with fail
                    go_roundw
                    case rel => exact ⟨m + 1, by omega, by go_num, HE9⟩
                    case measure => simp only [intOf]; omega
                  · obtain rfl : av = false := f2 rfl
                    clear f1 f2
                    go_wp2_with fail
                    refine KB1.mono ?_
                    rintro e w9 ⟨rfl, E9⟩
                    have KA1 := unhide HKA w9 E9
                    clear E9 KB1
                    go_wp2_with fail
                    refine KA1.mono ?_
                    rintro e w10 ⟨rfl, E10⟩
                    have KB2 := unhide HKB w10 E10
                    clear E10 KA1
                    go_wp2_with fail
                    refine KB2.mono ?_
                    rintro e w11 ⟨rfl, E11⟩
                    have HE11 := hide E11
                    clear E11 KB2
                    go_wp2_with fail
                    go_roundw
                    case rel => exact ⟨m + 1, by omega, by go_num, HE11⟩
                    case measure => simp only [intOf]; omega
                · obtain rfl : av = true := f1 rfl
                  cases hd
                  · clear f1 f2
                    go_wp2_with fail
                    refine KB1.mono ?_
                    rintro e w9 ⟨rfl, E9⟩
                    have KA1 := unhide HKA w9 E9
                    clear E9 KB1
                    go_wp2_with fail
                    refine KA1.mono ?_
                    rintro e w10 ⟨rfl, E10⟩
                    have HE10 := hide E10
                    clear E10 KA1
                    go_wp2_with fail
                    go_roundw
                    case rel => exact ⟨m + 1, by omega, by go_num, HE10⟩
                    case measure => simp only [intOf]; omega
                  · clear f1 f2
                    go_wp2_with fail
                    refine KB1.mono ?_
                    rintro e w9 ⟨rfl, E9⟩
                    have KA1 := unhide HKA w9 E9
                    clear E9 KB1
                    go_wp2_with fail
                    refine KA1.mono ?_
                    rintro e w10 ⟨rfl, E10⟩
                    have KA2 := unhide HKA w10 E10
                    clear E10 KA1
                    go_wp2_with fail
                    refine KA2.mono ?_
                    rintro e w11 ⟨rfl, E11⟩
                    have KB2 := unhide HKB w11 E11
                    clear E11 KA2
                    go_wp2_with fail
                    refine KB2.mono ?_
                    rintro e w12 ⟨rfl, E12⟩
                    have HE12 := hide E12
                    clear E12 KB2
                    go_wp2_with fail
                    go_roundw
                    case rel => exact ⟨m + 1, by omega, by go_num, HE12⟩
                    case measure => simp only [intOf]; omega
              · obtain rfl : m = n := by omega
                have hb := (unhide HR).bel
                clear hlt HR
                go_wp2_with fail
                refine KL.mono ?_
                rintro e wr ⟨rfl, rfl⟩
                go_wp2_with fail
                refine (dlives_any _).mono ?_
                rintro e w9 ⟨rfl, hb9⟩
                have hbb := bw_tr hb hb9
                go_wp2_with fail
                go_ret
                exact ⟨rfl, hbb⟩

set_option maxRecDepth 100000 in
theorem DeduceGrows_lifted (os : Os) (started : os.Started) (H : Type) (enc : TypeId × Value → H) :
    ReturnsInHanded {} Try.checked os 6 .any (Rows.deduceGrowsSpec.pre6 enc Try.prog Try.f6 Rows.deduceGrowsRow.domain false) (Rows.deduceGrowsSpec.post enc Try.prog Try.f6 false true false false) := by
  refine returnsInHanded_of_change_sized (C := Try.checked) own started (by kernel_rfl) Try.func6
    (ChangeSpec.witness6 (enc := enc) (C := Try.checked) false ⟨#[], #[.slice none 0 0, .slice none 0 0, .int .i64 0], []⟩ 8 (by kernel_rfl) (by kernel_rfl) (by kernel_rfl) (by kernel_rfl)) ?_
  intro W base args ds gs before hval0 hW hcnd hsz0 _
  have hval : ∀ (j : Nat) t v, Try.f6.params[j]? = some t → args[j]? = some v → Value.okWide Try.prog W .any base t v := hval0
  have hsz : (DataW.weightsEach Try.prog (Try.f6.params.toList ++ Rows.deduceGrowsSpec.plain.varTypes Try.prog) (ds ++ gs)).all (· ≤ reachBytes) = true := hsz0
  have hW' := hW
  obtain ⟨p, q, hA0, hV, rfl, hfz, hnd⟩ := hW
  have hA : DataW.TrodAll enc Try.prog W 0 (fun _ => true) true Try.f6.params.toList args.toList ds p := hA0
  rw [Try.params6] at hA hval hsz
  obtain ⟨v0, vs0, d0, ds0, p0, q0, hargs, rfl, rfl, h0, r0⟩ := trodAll_cons hA
  obtain ⟨v1, vs1, d1, ds1, p1, q1, rfl, rfl, rfl, h1, r1⟩ := trodAll_cons r0
  obtain ⟨v2, vs2, d2, ds2, p2, q2, rfl, rfl, rfl, h2, r2⟩ := trodAll_cons r1
  obtain ⟨rfl, rfl, rfl⟩ := trodAll_nil r2
  obtain rfl : args = #[v0, v1, v2] := by cases args; simp_all
  obtain ⟨rfl, rfl⟩ := trodVars_none hV
  have k0 := h0
  have lt0 : ∀ x ∈ p0, x.block < W.heap.size := by obtain ⟨m, hm⟩ := k0; exact DataW.trod_lt m _ _ _ hm
  obtain ⟨a0, len0, cap0, rfl⟩ := okWide_slice Try.underlying22 (hval 0 22 v0 rfl rfl)
  obtain ⟨l0, rfl, i0, o0⟩ := open_terms h0 (fun n hn => by simpa using List.all_eq_true.1 hsz n (DataW.weights_mem_each (j := 0) (t := 22) rfl rfl n hn))
  have k1 := h1
  have lt1 : ∀ x ∈ p1, x.block < W.heap.size := by obtain ⟨m, hm⟩ := k1; exact DataW.trod_lt m _ _ _ hm
  obtain ⟨a1, len1, cap1, rfl⟩ := okWide_slice Try.underlying23 (hval 1 23 v1 rfl rfl)
  obtain ⟨l1, rfl, i1⟩ := open_nums h1 (fun n hn => by simpa using List.all_eq_true.1 hsz n (DataW.weights_mem_each (j := 1) (t := 23) rfl rfl n hn))
  obtain ⟨a2, rfl, rfl, rfl, w2⟩ := open_int Try.underlying3 (hval 2 3 v2 rfl rfl) h2
  clear hA0 hval0
  refine (DeduceGrows_walk W a0 cap0 l0 i0 o0 a1 cap1 l1 i1 a2 (bounds64 w2).1 (bounds64 w2).2).mono fun e W' ⟨he, bel⟩ => ?_
  subst he
  exact ⟨_, rfl, _, _, _, [], _, [], hW', trodAll_mk1 (shut_bool Try.underlying4 _), (trodAll_cons_mk (Below.trod laidOut (by kernel_rfl) (of_decide_eq_true (by kernel_rfl)) k0 bel lt0) (trodAll_cons_mk (Below.trod laidOut (by kernel_rfl) (of_decide_eq_true (by kernel_rfl)) k1 bel lt1) (trodAll_cons_mk (shut_int Try.underlying3 w2) trodAll_mk0))), rfl, bel.frame _, fun h => by cases h⟩

theorem DeduceGrows_over : Rows.deduceGrowsRow.holds Try.pinned (OpenSpec.ofChange Rows.deduceGrowsSpec) :=
  OpenClaim.holds_of_wide 6 Try.f6 rfl rfl rfl rfl rfl rfl rfl ⟨rfl, rfl, rfl, rfl, rfl⟩ rfl rfl rfl rfl rfl (by kernel_rfl) Try.func6 (by kernel_rfl)
    (of_decide_eq_true (by kernel_rfl)) (by unfold Func.isWrapper; first | (rw [if_pos (by decide +kernel)]; kernel_rfl) | (rw [if_neg (by decide +kernel)]; exact ⟨rfl, rfl⟩))
    (fun os started H enc _ => DeduceGrows_lifted os started H enc)

theorem DeduceGrows_holds : Rows.DeduceGrowsSaid := DeduceGrows_over
#print axioms DeduceGrows_holds

end Go.Proofs.Ytfpimmbjjcpobaa
