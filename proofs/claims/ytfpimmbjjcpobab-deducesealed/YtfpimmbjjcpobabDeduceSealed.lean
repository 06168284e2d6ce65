/- DeduceSealed: for every list of terms, of known numbers, every number and every flag, the law answers true: what is sealed with a key that nobody knows tells nothing more than the seal. No condition (the law itself claims nothing of more than 300 terms or 500 known ones, nor where the key's number stands in the store). -/
import Derived.Test.YtfpimmbjjcpobabTmFrameN
import Derived.Test.YtfpimmbjjcpobabDdI
import Derived.Test.YtfpimmbjjcpobabDdPureB
import Derived.Test.YtfpimmbjjcpobabDdK
import Derived.Test.YtfpimmbjjcpobabDdSeal
namespace Go.Proofs.Ytfpimmbjjcpobab
open Go.ChangeShapes Go.WideShapes Go.ChangeAt Go.RowKit Go.Joins Go.Maps

theorem env_mk {w W : World} {b : Nat} {sv : Value} {mb : Nat} {L : List Tm} {rs : List Res} (h : Env w W (resS b sv mb L :: rs)) (kd n x y : Int) (ht : (⟨kd, n, x, y⟩ : Tm).ok) :
    Calls Try.prog 9 #[.pointer (some ⟨b, 0, none⟩), .agg #[.int .u8 kd, .int .i64 n, .int .i64 x, .int .i64 y]] W fun e W' => e = .returned (.tuple #[.int .i64 (mkN L ⟨kd, n, x, y⟩ : Nat), .int .i64 (mkE L ⟨kd, n, x, y⟩)]) ∧ ∃ sv', Env w W' (resS b sv' mb (mkL L ⟨kd, n, x, y⟩) :: rs) := env_make h ⟨kd, n, x, y⟩ ht
theorem tm_ok {kd n a b : Int} (k1 : 0 ≤ kd) (k2 : kd ≤ 255) (n1 : -9223372036854775808 ≤ n) (n2 : n ≤ 9223372036854775807) (a1 : -9223372036854775808 ≤ a) (a2 : a ≤ 9223372036854775807) (b1 : -9223372036854775808 ≤ b) (b2 : b ≤ 9223372036854775807) : (⟨kd, n, a, b⟩ : Tm).ok := ⟨k1, k2, n1, n2, a1, a2, b1, b2⟩
theorem nats_of {L : List Tm} {l : List Int} (h : ∀ x ∈ l, thr L.length x = true) : ∃ nl : List Nat, l = nl.map (fun (m : Nat) => (m : Int)) ∧ ∀ m ∈ nl, 1 ≤ m ∧ m ≤ L.length := by
  refine ⟨l.map Int.toNat, ?_, fun m hm => ?_⟩
  · rw [List.map_map]
    conv => lhs; rw [← List.map_id l]
    exact List.map_congr_left fun x hx => by have := thr_iff.1 (h x hx); simp; omega
  · obtain ⟨x, hx, rfl⟩ := List.mem_map.1 hm
    have := thr_iff.1 (h x hx); omega
/-- What the seal is, in the store then. -/
structure SealP (L L3 : List Tm) (sl : Nat) : Prop where
  good : Good L3
  ext : ∃ r, L3 = L ++ r
  gt : L.length + 1 < sl
  last : sl = L3.length
  kinds : ∀ m, L.length < m → m ≤ L3.length → kdOf L3 m = 1 ∨ (kdOf L3 m = 5 ∧ pA L3 m = L.length + 1) ∨ (m = sl ∧ kdOf L3 m = 6 ∧ opn L3 m = L.length + 1)
theorem plain_pack {L : List Tm} (hG : Good L) (hl : L.length ≤ 300) (hn : rKey ∉ L) {wn : Nat} (h1 : 1 ≤ wn) (h2 : wn ≤ L.length) : ∃ (k1 sl : Nat) (L1 L3 : List Tm),
    mkL L ⟨1, 1125899906842624, 0, 0⟩ = L1 ∧ mkN L ⟨1, 1125899906842624, 0, 0⟩ = k1 ∧ mkE L ⟨1, 1125899906842624, 0, 0⟩ = 0 ∧ mkL L1 ⟨6, 0, (k1 : Int), (wn : Int)⟩ = L3 ∧ mkN L1 ⟨6, 0, (k1 : Int), (wn : Int)⟩ = sl ∧ mkE L1 ⟨6, 0, (k1 : Int), (wn : Int)⟩ = 0 ∧ k1 ≤ 310 ∧ sl ≤ 310 ∧ SealP L L3 sl := by
  obtain ⟨a1, a2, a3, a4, b1, b2, b3, b4, b5⟩ := seal_plain hG hl hn h1 h2
  exact ⟨L.length + 1, L.length + 2, L ++ [rKey], L ++ [rKey] ++ [sKey (L.length + 1) wn], a1, a2, a3, b1, b2, b3, by omega, by omega, b4, ⟨[rKey] ++ [sKey (L.length + 1) wn], by rw [List.append_assoc]⟩, by omega, by simp, b5⟩
theorem public_pack {L : List Tm} (hG : Good L) (hl : L.length ≤ 300) (hn : rKey ∉ L) {wn : Nat} (h1 : 1 ≤ wn) (h2 : wn ≤ L.length) : ∃ (k1 k2 sl : Nat) (L1 L2 L3 : List Tm),
    mkL L ⟨1, 1125899906842624, 0, 0⟩ = L1 ∧ mkN L ⟨1, 1125899906842624, 0, 0⟩ = k1 ∧ mkE L ⟨1, 1125899906842624, 0, 0⟩ = 0 ∧ mkL L1 ⟨5, 0, (k1 : Int), 0⟩ = L2 ∧ mkN L1 ⟨5, 0, (k1 : Int), 0⟩ = k2 ∧ mkE L1 ⟨5, 0, (k1 : Int), 0⟩ = 0 ∧ mkL L2 ⟨6, 0, (k2 : Int), (wn : Int)⟩ = L3 ∧ mkN L2 ⟨6, 0, (k2 : Int), (wn : Int)⟩ = sl ∧ mkE L2 ⟨6, 0, (k2 : Int), (wn : Int)⟩ = 0 ∧ k1 ≤ 310 ∧ k2 ≤ 310 ∧ sl ≤ 310 ∧ SealP L L3 sl := by
  obtain ⟨a1, a2, a3, a4, b1, b2, b3, b4, c1, c2, c3, c4, c5⟩ := seal_public hG hl hn h1 h2
  exact ⟨L.length + 1, L.length + 2, L.length + 3, L ++ [rKey], L ++ [rKey] ++ [pKey (L.length + 1)], L ++ [rKey] ++ [pKey (L.length + 1)] ++ [sKey (L.length + 2) wn], a1, a2, a3, b1, b2, b3, c1, c2, c3, by omega, by omega, by omega, c4, ⟨[rKey] ++ [pKey (L.length + 1)] ++ [sKey (L.length + 2) wn], by simp⟩, by omega, by simp, c5⟩

set_option maxRecDepth 100000 in
set_option maxHeartbeats 20000000 in
theorem DeduceSealed_walk (w : World) (a1 : Option Addr) (cap1 : Nat) (l : List Tm) (h1 : Tms w (.slice a1 l.length cap1) l) (hok1 : ∀ t ∈ l, t.ok) (a2 : Option Addr) (cap2 : Nat) (lk : List Int) (h2 : NIs w (.slice a2 lk.length cap2) lk) (what : Int) (_m1 : -9223372036854775808 ≤ what) (_m2 : what ≤ 9223372036854775807) (pub : Bool) :
    Calls Try.prog 3 #[.slice a1 l.length cap1, .slice a2 lk.length cap2, .int .i64 what, .bool pub] w fun e w' => e = .returned (.bool true) ∧ Below w.heap.size w w' := by
  obtain ⟨hl1, _⟩ := h1.get
  have hl2 := h2.len
  have hcl := trivial
  by_cases big0 : 300 < l.length
  · have g0 : (300 : Int) < (l.length : Int) := by omega
    have t0 : (l.length : Int) ≤ 140737488355328 := by omega
    have t1 : (lk.length : Int) ≤ 140737488355328 := by omega
    generalize l.length = N0 at *
    generalize lk.length = N1 at *
    clear big0  hcl
    go_enter Try.func3, Try.ntmps3
    go_wp2_with fail
    go_ret
    exact ⟨rfl, Below.refl _ _⟩
  by_cases big1 : 500 < lk.length
  · have g1 : (500 : Int) < (lk.length : Int) := by omega
    have s0 : ¬ ((300 : Int) < (l.length : Int)) := by omega
    have t0 : (l.length : Int) ≤ 140737488355328 := by omega
    have t1 : (lk.length : Int) ≤ 140737488355328 := by omega
    generalize l.length = N0 at *
    generalize lk.length = N1 at *
    clear big1 big0 hcl
    go_enter Try.func3, Try.ntmps3
    go_wp2_with fail
    go_ret
    exact ⟨rfl, Below.refl _ _⟩
  have s0 : ¬ ((300 : Int) < (l.length : Int)) := by omega
  have s1 : ¬ ((500 : Int) < (lk.length : Int)) := by omega
  have KB := build_any w a1 cap1 l h1 hok1 (by omega)
  have hfl := fillL_len l []
  simp only [List.length_nil, Nat.zero_add] at hfl
  have HI := hide (And.intro h2 (And.intro (Nat.le_trans hfl (Nat.le_of_not_lt big0)) (And.intro (fill_good l [] good_nil) big1)))
  have hLn : ((fillL [] l).length : Int) ≤ 300 := by omega
  clear h1 hok1 h2 hl1 hl2 hcl big0 big1 hfl _m1 _m2
  obtain ⟨N1, hN1⟩ : ∃ N1, N1 = l.length := ⟨_, rfl⟩
  obtain ⟨N2, hN2⟩ : ∃ N2, N2 = lk.length := ⟨_, rfl⟩
  rw [← hN1] at s0 KB ⊢
  rw [← hN2] at s1 ⊢
  have HN := hide hN2
  clear hN1 hN2
  generalize fillL [] l = L at *
  obtain ⟨M, hM⟩ : ∃ M, M = L.length := ⟨_, rfl⟩
  rw [← hM] at hLn
  have HM := hide hM
  clear hM
  go_enter Try.func3, Try.ntmps3
  go_wp2_with fail
  refine KB.mono ?_
  rintro e w1 ⟨b, sv, mb, rb, rv, rfl, two⟩
  have E1 := (Env.ofTwo two)
  clear KB two s0
  have KL := len_any b sv mb L w1 E1.hd
  rw [← unhide HM] at KL
  have HE1 := hide E1
  clear E1
  go_wp2_with fail
  refine KL.mono ?_
  rintro e w1 ⟨rfl, rfl⟩
  clear KL
  by_cases hw : what < 1 ∨ (M : Int) < what
  · have hb := (unhide HE1).bel
    clear HE1
    by_cases hw1 : what < 1
    · clear hw
      go_wp2_with fail
      refine (dlives_any _).mono ?_
      rintro e w9 ⟨rfl, hb9⟩
      have hbb := bw_tr hb hb9
      go_wp2_with fail
      go_ret
      exact ⟨rfl, hbb⟩
    · have hw2 : (M : Int) < what := by omega
      clear hw
      go_wp2_with fail
      refine (dlives_any _).mono ?_
      rintro e w9 ⟨rfl, hb9⟩
      have hbb := bw_tr hb hb9
      go_wp2_with fail
      go_ret
      exact ⟨rfl, hbb⟩
  · obtain ⟨wn, rfl⟩ : ∃ wn : Nat, what = (wn : Int) := ⟨what.toNat, by omega⟩
    have hw1 : ¬ ((wn : Int) < 1) := by omega
    have hw2 : ¬ ((M : Int) < (wn : Int)) := by omega
    have hw3 : decide ((wn : Int) < 1) = false := by simp only [decide_eq_false_iff_not]; exact hw1
    have hw5 : decide (M < wn) = false := by simp only [decide_eq_false_iff_not]; omega
    have hw4 : decide ((M : Int) < (wn : Int)) = false := by simp only [decide_eq_false_iff_not]; exact hw2
    clear hw
    go_wp2_with fail
    go_loopw [13] (fun iv wr => ∃ i : Nat, i ≤ M ∧ iv = .int .i64 ((i + 1 : Nat) : Int) ∧ Hid (Env w wr [resS b sv mb L, resR rb rv L] ∧ ∀ m, 1 ≤ m → m ≤ i → ¬ (kdOf L m = 1 ∧ (tmAt L m).n = 1125899906842624))) (fun iv _ => (M + 1 - intOf iv).toNat)
    case atStart => exact ⟨0, by omega, rfl, unhide HE1, fun m h1 h2 => by omega⟩
    case round =>
      clear HE1
      obtain ⟨i, hi, rfl, HR⟩ := hrel
      by_cases hlt : i < M
      · have KG := get_nat b sv mb L (i + 1) wr (unhide HR).1.hd (by omega) (by have := unhide HM; omega)
        have hi1 : ((i + 1 : Nat) : Int) ≤ (M : Int) := by omega
        have HK : Hid (∀ kd nn, kdOf L (i + 1) = kd → (tmAt L (i + 1)).n = nn → ¬ (kd = 1 ∧ nn = 1125899906842624) → ∀ m, 1 ≤ m → m ≤ i + 1 → ¬ (kdOf L m = 1 ∧ (tmAt L m).n = 1125899906842624)) := by
          intro kd nn e1 e2 hno m q1 q2
          by_cases em : m = i + 1
          · subst em; rw [e1, e2]; exact hno
          · exact (unhide HR).2 m q1 (by omega)
        obtain ⟨kd, hkd⟩ : ∃ kd, kd = kdOf L (i + 1) := ⟨_, rfl⟩
        obtain ⟨nn, hnn⟩ : ∃ nn, nn = (tmAt L (i + 1)).n := ⟨_, rfl⟩
        rw [← hkd, ← hnn] at KG
        have HD := hide (And.intro hkd.symm hnn.symm)
        clear hkd hnn hlt
        generalize pA L (i + 1) = A at *
        generalize pB L (i + 1) = B at *
        go_wp2_with fail
        refine KG.mono ?_
        rintro e w3 ⟨rfl, b3⟩
        have E3 := (unhide HR).1.new (b3.alloc b3.size (.cells #[.int .u8 kd, .int .i64 nn, .int .i64 (A : Int), .int .i64 (B : Int)] 32))
        have HE3 := hide E3
        clear E3 KG b3 HR
        by_cases k1 : kd = 1
        · by_cases k2 : nn = 1125899906842624
          · have hb := (unhide HE3).bel
            subst k1 k2
            clear HE3 HK
            go_wp2_with fail
            refine (dlives_any _).mono ?_
            rintro e w9 ⟨rfl, hb9⟩
            have hbb := bw_tr hb hb9
            go_wp2_with fail
            go_ret
            exact ⟨rfl, hbb⟩
          · have z1 : (nn == 1125899906842624) = false := by simp [k2]
            have z2 : decide (nn = 1125899906842624) = false := by simp [k2]
            have HE4 := hide (unhide HK kd nn (unhide HD).1 (unhide HD).2 (fun c => k2 c.2))
            clear HK HD
            subst k1
            go_wp2_with fail
            go_roundw
            case rel => exact ⟨i + 1, by omega, by go_num, unhide HE3, unhide HE4⟩
            case measure => simp only [intOf]; omega
        · have z1 : (kd == 1) = false := by simp [k1]
          have z2 : decide (kd = 1) = false := by simp [k1]
          have HE4 := hide (unhide HK kd nn (unhide HD).1 (unhide HD).2 (fun c => k1 c.1))
          clear HK HD
          go_wp2_with fail
          go_roundw
          case rel => exact ⟨i + 1, by omega, by go_num, unhide HE3, unhide HE4⟩
          case measure => simp only [intOf]; omega
      · obtain rfl : i = M := by omega
        have hi1 : ¬ (((i + 1 : Nat) : Int) ≤ (i : Int)) := by omega
        have hnk : rKey ∉ L := by
          intro c
          obtain ⟨j, hj, e⟩ := List.getElem_of_mem c
          have ht : tmAt L (j + 1) = rKey := by simp [tmAt, List.getD, List.getElem?_eq_getElem hj, e]
          refine (unhide HR).2 (j + 1) (by omega) (by have := unhide HM; omega) ?_
          unfold kdOf
          rw [ht]
          exact ⟨rfl, rfl⟩
        have HW : Hid (rKey ∉ L ∧ 1 ≤ wn ∧ wn ≤ L.length ∧ L.length ≤ 300) := ⟨hnk, by omega, by have := unhide HM; omega, (unhide HI).2.1⟩
        have E3 := (unhide HR).1
        have KN := env_new E3 a2 cap2 lk ((unhide HI).1.bw E3.bel) (by have := (unhide HI).2.2.2; omega)
        rw [← (unhide HN)] at KN
        clear E3 HR hnk hlt hi
        go_wp2_with fail
        refine KN.mono ?_
        rintro e w4 ⟨p, rfl, hp⟩
        clear KN
        have wb : -9223372036854775808 ≤ (wn : Int) ∧ (wn : Int) ≤ 9223372036854775807 := by have := unhide HW; omega
        have HWB := hide wb
        clear wb
        rcases hp with ⟨e1, rfl, E4⟩ | ⟨e1, ka, Z, rfl, E4⟩
        · rw [e1]
          clear e1
          cases pub
          · skip
            obtain ⟨k1, sl, L1, L3, f1, f2, f3, f7, f8, f9, bk1, bsl, SP⟩ := plain_pack (unhide HI).2.2.1 (unhide HW).2.2.2 (unhide HW).1 (unhide HW).2.1 (unhide HW).2.2.1
            have KM1 := env_mk E4 1 1125899906842624 0 0 (tm_ok (by decide) (by decide) (by decide) (by decide) (by decide) (by decide) (by decide) (by decide))
            rw [f1, f2, f3] at KM1
            have HB := hide (And.intro bk1 (And.intro bsl SP))
            have HF := hide (And.intro f7 (And.intro f8 f9))
            clear f1 f2 f3 f7 f8 f9 bk1 bsl SP
            clear E4
            go_wp2_with fail
            refine KM1.mono ?_
            rintro e w5 ⟨rfl, sv5, E5⟩
            clear KM1
            have KM3 := env_mk E5 6 0 (k1 : Int) (wn : Int) (tm_ok (by decide) (by decide) (by decide) (by decide) (by omega) (by have := (unhide HB).1; omega) (unhide HWB).1 (unhide HWB).2)
            rw [(unhide HF).1, (unhide HF).2.1, (unhide HF).2.2] at KM3
            clear E5
            go_wp2_with fail
            refine KM3.mono ?_
            rintro e w7 ⟨rfl, sv7, E7⟩
            clear KM3 HF
            have hb := E7.bel
            clear E7
            go_wp2_with fail
            refine (dlives_any _).mono ?_
            rintro e w9 ⟨rfl, hb9⟩
            have hbb := bw_tr hb hb9
            go_wp2_with fail
            go_ret
            exact ⟨rfl, hbb⟩
          · skip
            obtain ⟨k1, k2, sl, L1, L2, L3, f1, f2, f3, f4, f5, f6, f7, f8, f9, bk1, bk2, bsl, SP⟩ := public_pack (unhide HI).2.2.1 (unhide HW).2.2.2 (unhide HW).1 (unhide HW).2.1 (unhide HW).2.2.1
            have KM1 := env_mk E4 1 1125899906842624 0 0 (tm_ok (by decide) (by decide) (by decide) (by decide) (by decide) (by decide) (by decide) (by decide))
            rw [f1, f2, f3] at KM1
            have HB := hide (And.intro bk1 (And.intro bsl SP))
            have HB2 := hide bk2
            have HF := hide (And.intro f4 (And.intro f5 (And.intro f6 (And.intro f7 (And.intro f8 f9)))))
            clear f1 f2 f3 f4 f5 f6 f7 f8 f9 bk1 bk2 bsl SP
            clear E4
            go_wp2_with fail
            refine KM1.mono ?_
            rintro e w5 ⟨rfl, sv5, E5⟩
            clear KM1
            have KM2 := env_mk E5 5 0 (k1 : Int) 0 (tm_ok (by decide) (by decide) (by decide) (by decide) (by omega) (by have := (unhide HB).1; omega) (by decide) (by decide))
            rw [(unhide HF).1, (unhide HF).2.1, (unhide HF).2.2.1] at KM2
            clear E5
            go_wp2_with fail
            refine KM2.mono ?_
            rintro e w6 ⟨rfl, sv6, E6⟩
            clear KM2
            have KM3 := env_mk E6 6 0 (k2 : Int) (wn : Int) (tm_ok (by decide) (by decide) (by decide) (by decide) (by omega) (by have := unhide HB2; omega) (unhide HWB).1 (unhide HWB).2)
            rw [(unhide HF).2.2.2.1, (unhide HF).2.2.2.2.1, (unhide HF).2.2.2.2.2] at KM3
            clear E6
            go_wp2_with fail
            refine KM3.mono ?_
            rintro e w7 ⟨rfl, sv7, E7⟩
            clear KM3 HF
            have hb := E7.bel
            clear E7
            go_wp2_with fail
            refine (dlives_any _).mono ?_
            rintro e w9 ⟨rfl, hb9⟩
            have hbb := bw_tr hb hb9
            go_wp2_with fail
            go_ret
            exact ⟨rfl, hbb⟩
        · rw [e1]
          have HNL := hide (nats_of (newE_zero e1))
          have E4' := E4.swap
          clear e1 E4
          cases pub
          · skip
            obtain ⟨k1, sl, L1, L3, f1, f2, f3, f7, f8, f9, bk1, bsl, SP⟩ := plain_pack (unhide HI).2.2.1 (unhide HW).2.2.2 (unhide HW).1 (unhide HW).2.1 (unhide HW).2.2.1
            have KM1 := env_mk E4' 1 1125899906842624 0 0 (tm_ok (by decide) (by decide) (by decide) (by decide) (by decide) (by decide) (by decide) (by decide))
            rw [f1, f2, f3] at KM1
            have HB := hide (And.intro bk1 (And.intro bsl SP))
            have HF := hide (And.intro f7 (And.intro f8 f9))
            clear f1 f2 f3 f7 f8 f9 bk1 bsl SP
            clear E4'
            go_wp2_with fail
            refine KM1.mono ?_
            rintro e w5 ⟨rfl, sv5, E5⟩
            clear KM1
            have KM3 := env_mk E5 6 0 (k1 : Int) (wn : Int) (tm_ok (by decide) (by decide) (by decide) (by decide) (by omega) (by have := (unhide HB).1; omega) (unhide HWB).1 (unhide HWB).2)
            rw [(unhide HF).1, (unhide HF).2.1, (unhide HF).2.2] at KM3
            clear E5
            go_wp2_with fail
            refine KM3.mono ?_
            rintro e w7 ⟨rfl, sv7, E7⟩
            clear KM3 HF
            obtain ⟨nl, hnl, hnr⟩ := unhide HNL
            obtain ⟨K, hK⟩ : ∃ K : Nat → Prop, K = (fun (m : Nat) => (m : Int) ∈ lk) := ⟨_, rfl⟩
            rw [← hK] at E7
            have E8 := EN.start (E7.grownK (unhide HI).2.2.1 (unhide HB).2.2.ext)
            have hnn : NIs w7 (.slice a2 N2 cap2) (nl.map fun (m : Nat) => (m : Int)) := by
              have := (unhide HI).1.bw E7.bel
              rw [← unhide HN] at this
              rw [← hnl]; exact this
            have hnlen : nl.length ≤ 500 := by have := (unhide HI).2.2.2; rw [hnl] at this; simp at this; omega
            have HJ := hide (And.intro hnl (And.intro hnr (And.intro E8 (And.intro hnn (And.intro hnlen hK)))))
            have hrow0 : (w7.alloc (.cells #[] 3)).ownsRow 0 3 1 (.slice (some ⟨w7.heap.size, 0, none⟩) 0 0) ([] : List Nat).length (([] : List Nat).map (fun m => Value.int .i64 ((m : Nat) : Int))) :=
              World.ownsRow_made (base := 0) (e := 3) (size := 1) w7 #[] 0 (Nat.zero_le _) (by unfold maxLen; omega) rfl
            clear E7 E8 hnl hnr hnn hnlen hK HNL
            go_wp2_with (at_builtin; refine wpList_joinN rfl (.tmp 113) (.tmp 114) rfl (.slice (some ⟨w7.heap.size, 0, none⟩) 0 0) (.slice a2 N2 cap2) [] nl rfl hrow0 rfl ((unhide HJ).2.2.2.1.bw (bw_alloc _ _)) ?c3 ?nx)
            case c3 => have := (unhide HJ).2.2.2.2.1; simp only [List.length_nil]; omega
            case nx =>
              intro v8 w8 hown8 hgrow8 hat8
              have hb8 : Below w7.heap.size w7 w8 := (bw_alloc w7 _).grown hgrow8 (by simp) (fun k hk => by simp [Value.ownBlock] at hk; omega)
              have hp8 : ∀ k, v8.ownBlock = some k → w7.heap.size ≤ k := by
                intro k hk
                rcases hat8 with c | c
                · rw [c] at hk; simp [Value.ownBlock] at hk; omega
                · rw [c] at hk; simp at hk; omega
              have hr8 : w8.ownsRow 0 3 1 v8 nl.length (nl.map (fun m => .int .i64 ((m : Nat) : Int))) := by simpa using hown8
              have HP8 := hide (And.intro hb8 hp8)
              clear hown8 hgrow8 hat8 hrow0 hb8 hp8
              go_wp2_with (at_builtin; refine wpList_joinN rfl (.tmp 115) (.tmp 117) rfl v8 (.slice (some ⟨w8.heap.size, 0, none⟩) 1 1) nl [sl] rfl (World.ownsRow.alloc hr8 _) rfl (nis_one w8 (sl : Int) 3 ?c2) ?c3 ?nx)
              case c2 => have := (unhide HB).2.1; omega
              case c3 => have := (unhide HJ).2.2.2.2.1; simp only [List.length_cons, List.length_nil]; omega
              case nx =>
                intro v9 w9 hown9 hgrow9 hat9
                have E9 : EN w w9 ka b sv7 mb rb rv L3 L K v9 (nl ++ [sl]) := by
                  refine (unhide HJ).2.2.1.fresh ?_ (by unfold NRow; simpa using hown9) (fun k hk => ?_)
                  · exact (((unhide HP8).1.alloc (unhide HP8).1.size _).grown hgrow9 (by have := (unhide HP8).1.size; simp; omega) (fun k hk => (unhide HP8).2 k hk))
                  · rcases hat9 with c | c
                    · rw [c] at hk; exact (unhide HP8).2 k hk
                    · rw [c] at hk; simp at hk; have := (unhide HP8).1.size; omega
                have KN9 := E9.new (fun m hm => by
                  have hle : L.length ≤ L3.length := by obtain ⟨r, hr⟩ := (unhide HB).2.2.ext; rw [hr]; simp
                  rcases List.mem_append.1 hm with c | c
                  · have := (unhide HJ).2.1 m c; omega
                  · simp at c; subst c; have := (unhide HB).2.2.last; have := (unhide HB).2.2.gt; omega) (by have := (unhide HJ).2.2.2.2.1; simp; omega)
                obtain ⟨B, hB⟩ : ∃ B : Nat → Prop, B = (fun m => m ∈ nl ++ [sl]) := ⟨_, rfl⟩
                rw [← hB] at KN9
                have HS : Hid ((∀ m : Nat, m ≤ i → hasB L3 K (m : Int) = hasB L3 B (m : Int)) ∧ hasB L3 B (sl : Int) = true) := by
                  obtain ⟨hnl, hnr, _, _, _, hK⟩ := unhide HJ
                  obtain ⟨_, _, SP⟩ := unhide HB
                  have hBe : B = fun m => K m ∨ m = sl := by
                    rw [hB]
                    funext m
                    apply propext
                    rw [hK, hnl]
                    simp only [List.mem_append, List.mem_singleton, List.mem_map]
                    constructor
                    · rintro (c | c)
                      · exact Or.inl ⟨m, c, rfl⟩
                      · exact Or.inr c
                    · rintro (⟨y, hy, e⟩ | c)
                      · have : y = m := by omega
                        exact Or.inl (by rw [← this]; exact hy)
                      · exact Or.inr c
                  refine ⟨fun m hm => ?_, ?_⟩
                  · rw [hBe]
                    refine sealed_has (unhide HI).2.2.1 SP.good SP.ext SP.gt SP.kinds (fun x hx => ?_) m (by have := unhide HM; omega)
                    rw [hK, hnl] at hx
                    obtain ⟨y, hy, e⟩ := List.mem_map.1 hx
                    have := hnr y hy; omega
                  · rw [hBe]
                    exact (hasB_nat SP.good).2 (.known (by have := SP.gt; omega) (by have := SP.last; omega) (Or.inr rfl))
                clear E9 hown9 hgrow9 hat9 hr8 HP8 hB HJ
                go_wp2_with fail
                refine KN9.mono ?_
                rintro e w10 ⟨kb, rfl, E10⟩
                have KH := E10.hasB (sl : Int)
                rw [(unhide HS).2] at KH
                clear KN9 E10
                go_wp2_with fail
                refine KH.mono ?_
                rintro e w11 ⟨rfl, E11⟩
                have HE11 := hide E11
                clear KH E11
                go_wp2_with fail
                go_loopw [23] (fun nv wr => ∃ m : Nat, m ≤ i ∧ nv = .int .i64 ((m + 1 : Nat) : Int) ∧ Hid (E2 w wr ka kb b sv7 mb rb rv L3 L K B)) (fun nv _ => (i + 1 - intOf nv).toNat)
                case atStart => exact ⟨0, by omega, rfl, HE11⟩
                case round =>
                  clear HE11
                  obtain ⟨m, hm, rfl, HR⟩ := hrel
                  by_cases hlt : m < i
                  · have hn2 : ((m + 1 : Nat) : Int) ≤ (i : Int) := by omega
                    have KA := (unhide HR).hasA ((m + 1 : Nat) : Int)
                    rw [(unhide HS).1 (m + 1) (by omega)] at KA
                    have KB0 : Hid (∀ W, E2 w W ka kb b sv7 mb rb rv L3 L K B → Calls Try.prog 10 #[.pointer (some ⟨kb, 0, none⟩), .int .i64 ((m + 1 : Nat) : Int)] W fun e W' => e = .returned (.bool (hasB L3 B ((m + 1 : Nat) : Int))) ∧ E2 w W' ka kb b sv7 mb rb rv L3 L K B) := fun W h => h.hasB ((m + 1 : Nat) : Int)
                    generalize hasB L3 B ((m + 1 : Nat) : Int) = rbv at *
                    clear HR
                    go_wp2_with fail
                    refine KA.mono ?_
                    rintro e w12 ⟨rfl, E12⟩
                    have KB1 := unhide KB0 w12 E12
                    clear E12 KA KB0
                    go_wp2_with fail
                    refine KB1.mono ?_
                    rintro e w13 ⟨rfl, E13⟩
                    have HE13 := hide E13
                    have hbe : (rbv == rbv) = true := by simp
                    have hbn : (rbv != rbv) = false := by simp
                    clear E13 KB1
                    go_wp2_with fail
                    go_roundw
                    case rel => exact ⟨m + 1, by omega, by go_num, HE13⟩
                    case measure => simp only [intOf]; omega
                  · obtain rfl : m = i := by omega
                    have hb := (unhide HR).bel
                    clear hlt HR
                    go_wp2_with fail
                    refine (dlives_any _).mono ?_
                    rintro e w9 ⟨rfl, hb9⟩
                    have hbb := bw_tr hb hb9
                    go_wp2_with fail
                    go_ret
                    exact ⟨rfl, hbb⟩
          · skip
            obtain ⟨k1, k2, sl, L1, L2, L3, f1, f2, f3, f4, f5, f6, f7, f8, f9, bk1, bk2, bsl, SP⟩ := public_pack (unhide HI).2.2.1 (unhide HW).2.2.2 (unhide HW).1 (unhide HW).2.1 (unhide HW).2.2.1
            have KM1 := env_mk E4' 1 1125899906842624 0 0 (tm_ok (by decide) (by decide) (by decide) (by decide) (by decide) (by decide) (by decide) (by decide))
            rw [f1, f2, f3] at KM1
            have HB := hide (And.intro bk1 (And.intro bsl SP))
            have HB2 := hide bk2
            have HF := hide (And.intro f4 (And.intro f5 (And.intro f6 (And.intro f7 (And.intro f8 f9)))))
            clear f1 f2 f3 f4 f5 f6 f7 f8 f9 bk1 bk2 bsl SP
            clear E4'
            go_wp2_with fail
            refine KM1.mono ?_
            rintro e w5 ⟨rfl, sv5, E5⟩
            clear KM1
            have KM2 := env_mk E5 5 0 (k1 : Int) 0 (tm_ok (by decide) (by decide) (by decide) (by decide) (by omega) (by have := (unhide HB).1; omega) (by decide) (by decide))
            rw [(unhide HF).1, (unhide HF).2.1, (unhide HF).2.2.1] at KM2
            clear E5
            go_wp2_with fail
            refine KM2.mono ?_
            rintro e w6 ⟨rfl, sv6, E6⟩
            clear KM2
            have KM3 := env_mk E6 6 0 (k2 : Int) (wn : Int) (tm_ok (by decide) (by decide) (by decide) (by decide) (by omega) (by have := unhide HB2; omega) (unhide HWB).1 (unhide HWB).2)
            rw [(unhide HF).2.2.2.1, (unhide HF).2.2.2.2.1, (unhide HF).2.2.2.2.2] at KM3
            clear E6
            go_wp2_with fail
            refine KM3.mono ?_
            rintro e w7 ⟨rfl, sv7, E7⟩
            clear KM3 HF
            obtain ⟨nl, hnl, hnr⟩ := unhide HNL
            obtain ⟨K, hK⟩ : ∃ K : Nat → Prop, K = (fun (m : Nat) => (m : Int) ∈ lk) := ⟨_, rfl⟩
            rw [← hK] at E7
            have E8 := EN.start (E7.grownK (unhide HI).2.2.1 (unhide HB).2.2.ext)
            have hnn : NIs w7 (.slice a2 N2 cap2) (nl.map fun (m : Nat) => (m : Int)) := by
              have := (unhide HI).1.bw E7.bel
              rw [← unhide HN] at this
              rw [← hnl]; exact this
            have hnlen : nl.length ≤ 500 := by have := (unhide HI).2.2.2; rw [hnl] at this; simp at this; omega
            have HJ := hide (And.intro hnl (And.intro hnr (And.intro E8 (And.intro hnn (And.intro hnlen hK)))))
            have hrow0 : (w7.alloc (.cells #[] 3)).ownsRow 0 3 1 (.slice (some ⟨w7.heap.size, 0, none⟩) 0 0) ([] : List Nat).length (([] : List Nat).map (fun m => Value.int .i64 ((m : Nat) : Int))) :=
              World.ownsRow_made (base := 0) (e := 3) (size := 1) w7 #[] 0 (Nat.zero_le _) (by unfold maxLen; omega) rfl
            clear E7 E8 hnl hnr hnn hnlen hK HNL
            go_wp2_with (at_builtin; refine wpList_joinN rfl (.tmp 113) (.tmp 114) rfl (.slice (some ⟨w7.heap.size, 0, none⟩) 0 0) (.slice a2 N2 cap2) [] nl rfl hrow0 rfl ((unhide HJ).2.2.2.1.bw (bw_alloc _ _)) ?c3 ?nx)
            case c3 => have := (unhide HJ).2.2.2.2.1; simp only [List.length_nil]; omega
            case nx =>
              intro v8 w8 hown8 hgrow8 hat8
              have hb8 : Below w7.heap.size w7 w8 := (bw_alloc w7 _).grown hgrow8 (by simp) (fun k hk => by simp [Value.ownBlock] at hk; omega)
              have hp8 : ∀ k, v8.ownBlock = some k → w7.heap.size ≤ k := by
                intro k hk
                rcases hat8 with c | c
                · rw [c] at hk; simp [Value.ownBlock] at hk; omega
                · rw [c] at hk; simp at hk; omega
              have hr8 : w8.ownsRow 0 3 1 v8 nl.length (nl.map (fun m => .int .i64 ((m : Nat) : Int))) := by simpa using hown8
              have HP8 := hide (And.intro hb8 hp8)
              clear hown8 hgrow8 hat8 hrow0 hb8 hp8
              go_wp2_with (at_builtin; refine wpList_joinN rfl (.tmp 115) (.tmp 117) rfl v8 (.slice (some ⟨w8.heap.size, 0, none⟩) 1 1) nl [sl] rfl (World.ownsRow.alloc hr8 _) rfl (nis_one w8 (sl : Int) 3 ?c2) ?c3 ?nx)
              case c2 => have := (unhide HB).2.1; omega
              case c3 => have := (unhide HJ).2.2.2.2.1; simp only [List.length_cons, List.length_nil]; omega
              case nx =>
                intro v9 w9 hown9 hgrow9 hat9
                have E9 : EN w w9 ka b sv7 mb rb rv L3 L K v9 (nl ++ [sl]) := by
                  refine (unhide HJ).2.2.1.fresh ?_ (by unfold NRow; simpa using hown9) (fun k hk => ?_)
                  · exact (((unhide HP8).1.alloc (unhide HP8).1.size _).grown hgrow9 (by have := (unhide HP8).1.size; simp; omega) (fun k hk => (unhide HP8).2 k hk))
                  · rcases hat9 with c | c
                    · rw [c] at hk; exact (unhide HP8).2 k hk
                    · rw [c] at hk; simp at hk; have := (unhide HP8).1.size; omega
                have KN9 := E9.new (fun m hm => by
                  have hle : L.length ≤ L3.length := by obtain ⟨r, hr⟩ := (unhide HB).2.2.ext; rw [hr]; simp
                  rcases List.mem_append.1 hm with c | c
                  · have := (unhide HJ).2.1 m c; omega
                  · simp at c; subst c; have := (unhide HB).2.2.last; have := (unhide HB).2.2.gt; omega) (by have := (unhide HJ).2.2.2.2.1; simp; omega)
                obtain ⟨B, hB⟩ : ∃ B : Nat → Prop, B = (fun m => m ∈ nl ++ [sl]) := ⟨_, rfl⟩
                rw [← hB] at KN9
                have HS : Hid ((∀ m : Nat, m ≤ i → hasB L3 K (m : Int) = hasB L3 B (m : Int)) ∧ hasB L3 B (sl : Int) = true) := by
                  obtain ⟨hnl, hnr, _, _, _, hK⟩ := unhide HJ
                  obtain ⟨_, _, SP⟩ := unhide HB
                  have hBe : B = fun m => K m ∨ m = sl := by
                    rw [hB]
                    funext m
                    apply propext
                    rw [hK, hnl]
                    simp only [List.mem_append, List.mem_singleton, List.mem_map]
                    constructor
                    · rintro (c | c)
                      · exact Or.inl ⟨m, c, rfl⟩
                      · exact Or.inr c
                    · rintro (⟨y, hy, e⟩ | c)
                      · have : y = m := by omega
                        exact Or.inl (by rw [← this]; exact hy)
                      · exact Or.inr c
                  refine ⟨fun m hm => ?_, ?_⟩
                  · rw [hBe]
                    refine sealed_has (unhide HI).2.2.1 SP.good SP.ext SP.gt SP.kinds (fun x hx => ?_) m (by have := unhide HM; omega)
                    rw [hK, hnl] at hx
                    obtain ⟨y, hy, e⟩ := List.mem_map.1 hx
                    have := hnr y hy; omega
                  · rw [hBe]
                    exact (hasB_nat SP.good).2 (.known (by have := SP.gt; omega) (by have := SP.last; omega) (Or.inr rfl))
                clear E9 hown9 hgrow9 hat9 hr8 HP8 hB HJ
                go_wp2_with fail
                refine KN9.mono ?_
                rintro e w10 ⟨kb, rfl, E10⟩
                have KH := E10.hasB (sl : Int)
                rw [(unhide HS).2] at KH
                clear KN9 E10
                go_wp2_with fail
                refine KH.mono ?_
                rintro e w11 ⟨rfl, E11⟩
                have HE11 := hide E11
                clear KH E11
                go_wp2_with fail
                go_loopw [23] (fun nv wr => ∃ m : Nat, m ≤ i ∧ nv = .int .i64 ((m + 1 : Nat) : Int) ∧ Hid (E2 w wr ka kb b sv7 mb rb rv L3 L K B)) (fun nv _ => (i + 1 - intOf nv).toNat)
                case atStart => exact ⟨0, by omega, rfl, HE11⟩
                case round =>
                  clear HE11
                  obtain ⟨m, hm, rfl, HR⟩ := hrel
                  by_cases hlt : m < i
                  · have hn2 : ((m + 1 : Nat) : Int) ≤ (i : Int) := by omega
                    have KA := (unhide HR).hasA ((m + 1 : Nat) : Int)
                    rw [(unhide HS).1 (m + 1) (by omega)] at KA
                    have KB0 : Hid (∀ W, E2 w W ka kb b sv7 mb rb rv L3 L K B → Calls Try.prog 10 #[.pointer (some ⟨kb, 0, none⟩), .int .i64 ((m + 1 : Nat) : Int)] W fun e W' => e = .returned (.bool (hasB L3 B ((m + 1 : Nat) : Int))) ∧ E2 w W' ka kb b sv7 mb rb rv L3 L K B) := fun W h => h.hasB ((m + 1 : Nat) : Int)
                    generalize hasB L3 B ((m + 1 : Nat) : Int) = rbv at *
                    clear HR
                    go_wp2_with fail
                    refine KA.mono ?_
                    rintro e w12 ⟨rfl, E12⟩
                    have KB1 := unhide KB0 w12 E12
                    clear E12 KA KB0
                    go_wp2_with fail
                    refine KB1.mono ?_
                    rintro e w13 ⟨rfl, E13⟩
                    have HE13 := hide E13
                    have hbe : (rbv == rbv) = true := by simp
                    have hbn : (rbv != rbv) = false := by simp
                    clear E13 KB1
                    go_wp2_with fail
                    go_roundw
                    case rel => exact ⟨m + 1, by omega, by go_num, HE13⟩
                    case measure => simp only [intOf]; omega
                  · obtain rfl : m = i := by omega
                    have hb := (unhide HR).bel
                    clear hlt HR
                    go_wp2_with fail
                    refine (dlives_any _).mono ?_
                    rintro e w9 ⟨rfl, hb9⟩
                    have hbb := bw_tr hb hb9
                    go_wp2_with fail
                    go_ret
                    exact ⟨rfl, hbb⟩

set_option maxRecDepth 100000 in
theorem DeduceSealed_lifted (os : Os) (started : os.Started) (H : Type) (enc : TypeId × Value → H) :
    ReturnsInHanded {} Try.checked os 3 .any (Rows.deduceSealedSpec.pre6 enc Try.prog Try.f3 Rows.deduceSealedRow.domain false) (Rows.deduceSealedSpec.post enc Try.prog Try.f3 false true false false) := by
  refine returnsInHanded_of_change_sized (C := Try.checked) own started (by kernel_rfl) Try.func3
    (ChangeSpec.witness6 (enc := enc) (C := Try.checked) false ⟨#[], #[.slice none 0 0, .slice none 0 0, .int .i64 0, .bool false], []⟩ 8 (by kernel_rfl) (by kernel_rfl) (by kernel_rfl) (by kernel_rfl)) ?_
  intro W base args ds gs before hval0 hW hcnd hsz0 _
  have hval : ∀ (j : Nat) t v, Try.f3.params[j]? = some t → args[j]? = some v → Value.okWide Try.prog W .any base t v := hval0
  have hsz : (DataW.weightsEach Try.prog (Try.f3.params.toList ++ Rows.deduceSealedSpec.plain.varTypes Try.prog) (ds ++ gs)).all (· ≤ reachBytes) = true := hsz0
  have hW' := hW
  obtain ⟨p, q, hA0, hV, rfl, hfz, hnd⟩ := hW
  have hA : DataW.TrodAll enc Try.prog W 0 (fun _ => true) true Try.f3.params.toList args.toList ds p := hA0
  rw [Try.params3] at hA hval hsz
  obtain ⟨v0, vs0, d0, ds0, p0, q0, hargs, rfl, rfl, h0, r0⟩ := trodAll_cons hA
  obtain ⟨v1, vs1, d1, ds1, p1, q1, rfl, rfl, rfl, h1, r1⟩ := trodAll_cons r0
  obtain ⟨v2, vs2, d2, ds2, p2, q2, rfl, rfl, rfl, h2, r2⟩ := trodAll_cons r1
  obtain ⟨v3, vs3, d3, ds3, p3, q3, rfl, rfl, rfl, h3, r3⟩ := trodAll_cons r2
  obtain ⟨rfl, rfl, rfl⟩ := trodAll_nil r3
  obtain rfl : args = #[v0, v1, v2, v3] := by cases args; simp_all
  obtain ⟨rfl, rfl⟩ := trodVars_none hV
  have k0 := h0
  have lt0 : ∀ x ∈ p0, x.block < W.heap.size := by obtain ⟨m, hm⟩ := k0; exact DataW.trod_lt m _ _ _ hm
  obtain ⟨a0, len0, cap0, rfl⟩ := okWide_slice Try.underlying22 (hval 0 22 v0 rfl rfl)
  obtain ⟨l0, rfl, i0, o0⟩ := open_terms h0 (fun n hn => by simpa using List.all_eq_true.1 hsz n (DataW.weights_mem_each (j := 0) (t := 22) rfl rfl n hn))
  have k1 := h1
  have lt1 : ∀ x ∈ p1, x.block < W.heap.size := by obtain ⟨m, hm⟩ := k1; exact DataW.trod_lt m _ _ _ hm
  obtain ⟨a1, len1, cap1, rfl⟩ := okWide_slice Try.underlying23 (hval 1 23 v1 rfl rfl)
  obtain ⟨l1, rfl, i1⟩ := open_nums h1 (fun n hn => by simpa using List.all_eq_true.1 hsz n (DataW.weights_mem_each (j := 1) (t := 23) rfl rfl n hn))
  obtain ⟨a2, rfl, rfl, rfl, w2⟩ := open_int Try.underlying3 (hval 2 3 v2 rfl rfl) h2
  obtain ⟨a3, rfl, rfl, rfl⟩ := open_bool Try.underlying4 (hval 3 4 v3 rfl rfl) h3
  clear hA0 hval0
  refine (DeduceSealed_walk W a0 cap0 l0 i0 o0 a1 cap1 l1 i1 a2 (bounds64 w2).1 (bounds64 w2).2 a3).mono fun e W' ⟨he, bel⟩ => ?_
  subst he
  exact ⟨_, rfl, _, _, _, [], _, [], hW', trodAll_mk1 (shut_bool Try.underlying4 _), (trodAll_cons_mk (Below.trod laidOut (by kernel_rfl) (of_decide_eq_true (by kernel_rfl)) k0 bel lt0) (trodAll_cons_mk (Below.trod laidOut (by kernel_rfl) (of_decide_eq_true (by kernel_rfl)) k1 bel lt1) (trodAll_cons_mk (shut_int Try.underlying3 w2) (trodAll_cons_mk (shut_bool Try.underlying4 a3) trodAll_mk0)))), rfl, bel.frame _, fun h => by cases h⟩

theorem DeduceSealed_over : Rows.deduceSealedRow.holds Try.pinned (OpenSpec.ofChange Rows.deduceSealedSpec) :=
  OpenClaim.holds_of_wide 3 Try.f3 rfl rfl rfl rfl rfl rfl rfl ⟨rfl, rfl, rfl, rfl, rfl⟩ rfl rfl rfl rfl rfl (by kernel_rfl) Try.func3 (by kernel_rfl)
    (of_decide_eq_true (by kernel_rfl)) (by unfold Func.isWrapper; first | (rw [if_pos (by decide +kernel)]; kernel_rfl) | (rw [if_neg (by decide +kernel)]; exact ⟨rfl, rfl⟩))
    (fun os started H enc _ => DeduceSealed_lifted os started H enc)

theorem DeduceSealed_holds : Rows.DeduceSealedSaid := DeduceSealed_over
#print axioms DeduceSealed_holds

end Go.Proofs.Ytfpimmbjjcpobab
