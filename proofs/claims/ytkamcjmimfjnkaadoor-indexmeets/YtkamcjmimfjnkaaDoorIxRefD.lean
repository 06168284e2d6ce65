/- Contracts of the document's own answers for layer 2: who is below whom, and the rows of nodes above. -/
import Derived.Test.YtkamcjmimfjnkaaDoorIxRefC
import Derived.Test.YtkamcjmimfjnkaaDoorIxJoin
namespace Go.Proofs.YtkamcjmimfjnkaaDoor
open Go.RowKit

theorem wi_max {x : Int} (h : 0 ≤ x) (h2 : x ≤ 9223372036854775807) : wi x 9223372036854775807 = true := by
  have hl : lvl 9223372036854775807 = ((63 : Nat) : Int) := by
    have := lvl_nd (k := 63) (m := 0) (by decide)
    exact this
  unfold wi
  rw [hl, Int.toNat_natCast]
  have e : ((2 ^ 63 : Nat) : Int) = 9223372036854775808 := by decide
  rw [e]
  simp only [Bool.and_eq_true, decide_eq_true_eq]
  omega

set_option maxRecDepth 100000 in
set_option maxHeartbeats 1000000 in
theorem rwithin_any (x y : Int) (w : World) (h1 : x ≤ 9223372036854775807) (h2 : y ≤ 9223372036854775807) :
    Calls Tryd.prog 24 #[.int .i64 x, .int .i64 y] w fun e w' => e = .returned (.bool (wi x y)) ∧ w' = w := by
  by_cases hx : x < 0
  · rw [wi_neg (Or.inl hx)]
    go_enter Tryd.func24, Tryd.ntmps24
    go_wp2
    go_ret
    exact ⟨rfl, rfl⟩
  · by_cases hy : y < 0
    · rw [wi_neg (Or.inr hy)]
      go_enter Tryd.func24, Tryd.ntmps24
      go_wp2
      go_ret
      exact ⟨rfl, rfl⟩
    · by_cases hm : y = 9223372036854775807
      · subst hm
        rw [wi_max (by omega) h1]
        go_enter Tryd.func24, Tryd.ntmps24
        go_wp2
        go_ret
        exact ⟨rfl, rfl⟩
      · have hm' : (y == 9223372036854775807) = false := by simpa using hm
        have K := rhalf_any y w h2
        rcases hf_cases y h2 with ⟨hl, hh⟩ | ⟨k, m, rfl, hb, hl, hh, hl2⟩
        · have hl0 : (lvl y).toNat = 0 := by omega
          have hr : wi x y = (x == y) := by
            rw [Bool.eq_iff_iff]
            unfold wi
            rw [hl0]
            simp only [Bool.and_eq_true, decide_eq_true_eq, beq_iff_eq]
            have : ((2 ^ 0 : Nat) : Int) = 1 := rfl
            rw [this]
            omega
          rw [hr]
          rw [hh] at K
          clear hr hh hl hl0 hm
          go_enter Tryd.func24, Tryd.ntmps24
          go_wp2_with fail
          refine (K).mono ?_
          rintro e w ⟨rfl, rfl⟩
          go_wp2
          go_ret
          exact ⟨rfl, rfl⟩
        · have hk := nd_lt hb
          have hk2 : k + 1 < 63 := by
            rcases Nat.lt_or_ge (k + 1) 63 with h | h
            · exact h
            · have e1 : k + 1 = 63 := by omega
              have e2 := hk.2 e1
              rw [e1, e2] at hm
              exact absurd rfl hm
          have hq := two_pow_62 hk2
          have hs := span_room hb hk2
          have e := nd_odd k m
          have e2 := nd_eq k m
          have hpos := Nat.two_pow_pos k
          unfold wi
          rw [hl2, Int.toNat_natCast, Nat.pow_succ]
          rw [Nat.pow_succ] at hq hs
          rw [hh] at K
          have hge : 2 * 2 ^ k ≤ nd (k + 1) m + 1 := by
            generalize 2 ^ k * m = q at *; generalize 2 ^ k = p at *; omega
          clear hh hl hl2 hk hk2 e e2 hm
          generalize 2 ^ k = p at *
          generalize nd (k + 1) m = Z at *
          obtain ⟨n, rfl⟩ : ∃ n : Nat, x = n := ⟨x.toNat, by omega⟩
          have hwa : wrap64 (2 * (p : Int)) = 2 * (p : Int) := wrap64_id (by omega) (by omega)
          have hwb : wrap64 (2 * (p : Int) - 1) = 2 * (p : Int) - 1 := wrap64_id (by omega) (by omega)
          have hwc : wrap64 ((Z : Int) - (2 * (p : Int) - 1)) = (Z : Int) - (2 * (p : Int) - 1) := wrap64_id (by omega) (by omega)
          have hwd : wrap64 ((n : Int) - (Z : Int)) = (n : Int) - (Z : Int) := wrap64_id (by omega) (by omega)
          have n0 : ((2 * (p : Int)) == 0) = false := by rw [beq_eq_false_iff_ne]; omega
          by_cases g1 : (Z : Int) - (2 * (p : Int) - 1) ≤ (n : Int)
          · by_cases g2 : (n : Int) - (Z : Int) ≤ 2 * (p : Int) - 1
            · have hr : (decide (0 ≤ (n : Int)) && decide (0 ≤ (Z : Int)) && decide ((Z : Int) + 1 - ((p * 2 : Nat) : Int) ≤ (n : Int)) && decide ((n : Int) + 1 ≤ (Z : Int) + ((p * 2 : Nat) : Int))) = true := by
                simp only [Bool.and_eq_true, decide_eq_true_eq]; omega
              rw [hr]
              clear hr hs hq hge hb
              go_enter Tryd.func24, Tryd.ntmps24
              go_wp2_with fail
              refine (K).mono ?_
              rintro e w ⟨rfl, rfl⟩
              go_wp2
              go_ret
              exact ⟨rfl, rfl⟩
            · have hr : (decide (0 ≤ (n : Int)) && decide (0 ≤ (Z : Int)) && decide ((Z : Int) + 1 - ((p * 2 : Nat) : Int) ≤ (n : Int)) && decide ((n : Int) + 1 ≤ (Z : Int) + ((p * 2 : Nat) : Int))) = false := by
                rw [Bool.and_eq_false_iff]; right; simp only [decide_eq_false_iff_not]; omega
              rw [hr]
              clear hr hs hq hge hb
              go_enter Tryd.func24, Tryd.ntmps24
              go_wp2_with fail
              refine (K).mono ?_
              rintro e w ⟨rfl, rfl⟩
              go_wp2
              simp only [decide_eq_false (Int.not_le.2 g2)]
              go_ret
              exact ⟨rfl, rfl⟩
          · have hr : (decide (0 ≤ (n : Int)) && decide (0 ≤ (Z : Int)) && decide ((Z : Int) + 1 - ((p * 2 : Nat) : Int) ≤ (n : Int)) && decide ((n : Int) + 1 ≤ (Z : Int) + ((p * 2 : Nat) : Int))) = false := by
              rw [Bool.and_eq_false_iff]; left; rw [Bool.and_eq_false_iff]; right; simp only [decide_eq_false_iff_not]; omega
            rw [hr]
            clear hr hs hq hge hb
            go_enter Tryd.func24, Tryd.ntmps24
            go_wp2_with fail
            refine (K).mono ?_
            rintro e w ⟨rfl, rfl⟩
            go_wp2
            go_ret
            exact ⟨rfl, rfl⟩

set_option maxRecDepth 100000 in
set_option maxHeartbeats 1000000 in
theorem rdirect_any (x L : Int) (w : World) :
    Calls Tryd.prog 39 #[.int .i64 x, .int .i64 L] w fun e w' => ∃ v, e = .returned v ∧ Ints w.heap.size w' v (dir x L) ∧ Below w.heap.size w w' := by
  obtain ⟨i0, hi, hz0, hz1, hz2⟩ := info_parts Tryd.infoInt
  have K := rparent_any x L w
  go_enter Tryd.func39, Tryd.ntmps39
  go_wp2_with fail
  refine K.mono ?_
  rintro e w ⟨rfl, rfl⟩
  go_wp2_with fail
  go_loopw [5, 6, 7] (fun sv pv ov wr => ∃ (f : Nat) (y : Int) (cur : List Int), Room f y L ∧ pv = .int .i64 (parV y L) ∧ ov = .bool (parB y L) ∧ cur.length + f ≤ 31 ∧ Hid (cur ++ dirF f y L = dir x L) ∧ Ints w.heap.size wr sv cur ∧ Below w.heap.size w wr) (fun _ pv ov _ => stepsLeft pv ov)
  case atStart => exact ⟨31, x, [], room_start x L, rfl, rfl, by simp, by simp [Hid, dir], ints_nil _ _, Below.refl _ _⟩
  case round =>
    obtain ⟨f, y, cur, hr, rfl, rfl, hlen, hdn, hown, hbel⟩ := hrel
    have hsz := hbel.size
    cases hp : parB y L
    · have hd : cur = dir x L := by
        rw [← unhide hdn]
        cases f <;> simp [dirF, hp]
      rw [hd] at hown
      clear hdn hd hr
      go_wp2_with fail
      go_ret
      exact ⟨_, rfl, hown, hbel⟩
    · obtain ⟨g, rfl, hr', hl1, hl2, hl3, _⟩ := room_next hr hp
      have hpv : parV y L = abv y := by simp [parV, hp]
      rw [hpv]
      have K1 := fun wr => rparent_any (abv y) L wr
      have HL := hide (And.intro hl1 (And.intro hl2 hl3))
      have hdn' : Hid ((cur ++ [abv y]) ++ dirF g (abv y) L = dir x L) := by
        unfold Hid; rw [← unhide hdn]; simp [dirF, hp]
      clear hl1 hl2 hl3 hdn hr hpv
      generalize abv y = A at *
      go_wp2_with (at_builtin; refine wpList_append_own _ rfl (.tmp 15) (.tmp 17) 32 rfl w.heap.size 3 i0 (.int .i64 0) 1 8 Tryd.underlying32 hi hz0 hz1 hz2 rfl (by decide) _ cur.length _ rfl (World.ownsRow.alloc hown _) ⟨wr.heap.size, 0, none⟩ 1 1 [_] rfl rfl (cell_one_new _ _ _) ?c2 ?c3 ?c4 ?c5 ?nx)
      case c2 => intro u hu; simp at hu; subst hu; rfl
      case c3 => unfold maxLen; omega
      case c4 => omega
      case c5 => simp; omega
      case nx =>
        intro v' w1 hown' hgrow _
        obtain ⟨R1, R2⟩ := ints_snoc A hbel hown hown' hgrow
        clear hown' hgrow
        have K2 := K1 w1
        clear K1
        go_wp2_with fail
        refine K2.mono ?_
        rintro e w1 ⟨rfl, rfl⟩
        go_wp2_with fail
        go_roundw
        case rel => exact ⟨g, A, cur ++ [A], hr', rfl, rfl, by simp; omega, hdn', R1, R2⟩
        case measure => exact steps_down (unhide HL) hr'

theorem dirF_len (f : Nat) (x L : Int) : (dirF f x L).length ≤ f := by
  induction f generalizing x with
  | zero => simp [dirF]
  | succ f ih => unfold dirF; split <;> simp; exact ih _

theorem dirF_le (f : Nat) (x L : Int) : ∀ z ∈ dirF f x L, z ≤ 9223372036854775807 := by
  induction f generalizing x with
  | zero => intro z hz; simp [dirF] at hz
  | succ f ih =>
    intro z hz
    unfold dirF at hz
    split at hz
    · rename_i hp
      rcases List.mem_cons.1 hz with h | h
      · obtain ⟨d, k, m, hd, _, rfl, hk, hm, hb⟩ := parB_open hp
        have := (abv_parent hd hk hm).1
        rw [h, abv_nd (by omega)]; omega
      · exact ih _ z h
    · cases hz

/-- The row from a up, in which the first that has b is what Common says. -/
theorem com_find (b L : Int) (hb : inn b L = true) : ∀ (f : Nat) (a : Int), inn a L = true → Room f a L → ∃ i : Nat, (a :: dirF f a L)[i]? = some (comF f a b) ∧ wi b (comF f a b) = true ∧ ∀ j z, j < i → (a :: dirF f a L)[j]? = some z → wi b z = false := by
  intro f
  induction f with
  | zero =>
    intro a ha hr
    cases hw : wi b a
    · obtain ⟨k, m, e, h⟩ := hr (par_of_not_wi ha hb hw)
      obtain ⟨d, k', m', hd, _, e', hk, _⟩ := parB_open (par_of_not_wi ha hb hw)
      rw [e] at e'
      obtain ⟨rfl, rfl⟩ := nd_inj (Int.ofNat.inj e')
      omega
    · exact ⟨0, rfl, hw, fun j _ hj => by omega⟩
  | succ f ih =>
    intro a ha hr
    cases hw : wi b a
    · have hp := par_of_not_wi ha hb hw
      obtain ⟨g, hg, hr', _⟩ := room_next hr hp
      obtain rfl : f = g := by omega
      obtain ⟨i, h1, h2, h3⟩ := ih (abv a) (inn_abv hp) hr'
      have ec : comF (f + 1) a b = comF f (abv a) b := by simp [comF, hw]
      have ed : dirF (f + 1) a L = abv a :: dirF f (abv a) L := by simp [dirF, hp]
      rw [ec, ed]
      refine ⟨i + 1, by simpa using h1, h2, fun j z hj hz => ?_⟩
      cases j with
      | zero => simp at hz; subst hz; exact hw
      | succ j => exact h3 j z (by omega) (by simpa using hz)
    · have ec : comF (f + 1) a b = a := by simp [comF, hw]
      rw [ec]
      exact ⟨0, rfl, hw, fun j _ hj => by omega⟩

set_option maxRecDepth 100000 in
set_option maxHeartbeats 1000000 in
theorem rcommon_any (a b L : Int) (w : World) (hb : b ≤ 9223372036854775807) :
    Calls Tryd.prog 22 #[.int .i64 a, .int .i64 b, .int .i64 L] w fun e w' => e = .returned (.int .i64 (com a b L)) ∧ Below w.heap.size w w' := by
  have K1 := rin_any a L w
  have K2 := rin_any b L w
  cases ia : inn a L
  · simp only [com, ia, Bool.false_eq_true, false_and, if_false]
    rw [ia] at K1
    clear ia K2
    go_enter Tryd.func22, Tryd.ntmps22
    go_wp2_with fail
    refine (K1).mono ?_
    rintro e w ⟨rfl, rfl⟩
    go_wp2
    go_ret
    exact ⟨rfl, Below.refl _ _⟩
  · cases ib : inn b L
    · simp only [com, ia, ib, Bool.false_eq_true, and_false, if_false]
      rw [ia] at K1
      rw [ib] at K2
      clear ia ib
      go_enter Tryd.func22, Tryd.ntmps22
      go_wp2_with fail
      refine (K1).mono ?_
      rintro e w ⟨rfl, rfl⟩
      go_wp2_with fail
      refine (K2).mono ?_
      rintro e w ⟨rfl, rfl⟩
      go_wp2
      go_ret
      exact ⟨rfl, Below.refl _ _⟩
    · simp only [com, ia, ib, true_and, if_true]
      rw [ia] at K1
      rw [ib] at K2
      have HF := hide (com_find b L ib 31 a ia (room_start a L))
      have hn := dirF_len 31 a L
      have hz : ∀ z ∈ (a :: dirF 31 a L), z ≤ 9223372036854775807 := fun z hz => by
        rcases List.mem_cons.1 hz with h | h
        · obtain ⟨d, k, m, _, _, e, _, _, h4⟩ := inn_open ia
          omega
        · exact dirF_le 31 a L z h
      obtain ⟨ND, hND⟩ : ∃ l, l = a :: dirF 31 a L := ⟨_, rfl⟩
      have hnl : ND.length ≤ 32 := by rw [hND]; simp; omega
      rw [← hND] at hz HF
      have HN := hide hND
      clear ia ib hND
      generalize comF 31 a b = R at *
      go_enter Tryd.func22, Tryd.ntmps22
      go_wp2_with fail
      refine (K1).mono ?_
      rintro e w ⟨rfl, rfl⟩
      go_wp2_with fail
      refine (K2).mono ?_
      rintro e w ⟨rfl, rfl⟩
      have hb0 : Below w.heap.size w (w.alloc (.cells #[.int .i64 a] 3)) := (Below.refl _ _).alloc (Nat.le_refl _) _
      go_wp2_with fail
      refine (rdirect_any a L (w.alloc (.cells #[.int .i64 a] 3))).mono ?_
      rintro e w1 ⟨u, rfl, hu, hb1⟩
      have b1 : Below w.heap.size w w1 := bw_tr hb0 hb1
      have hone := (one_own w a).bw hb1
      have hsz := b1.size
      go_wp2_with (at_builtin; refine wpList_join rfl (.tmp 20) (.tmp 23) rfl w.heap.size _ _ _ [a] (dir a L) rfl hone rfl hu ?c1 hsz ?nx)
      case c1 => simp [dir]; omega
      case nx =>
        intro v w2 hv hb2
        have b2 : Below w.heap.size w w2 := b1.trans hb2
        have e1 : a :: dir a L = ND := by rw [unhide HN]; rfl
        rw [e1] at hv
        have hnum := hv.nums
        clear e1 hv hu hone hb1 hb2 hb0 b1
        obtain ⟨g, o, cap, rfl, hcell⟩ := hnum.open (by rw [unhide HN]; simp)
        clear hnum
        have HC : ∀ wr, Below w2.heap.size w2 wr → ∀ j z, ND[j]? = some z → wr.cell? ⟨g, o + j, none⟩ = some (.int .i64 z) := by
          intro wr hbel j z hj
          have := hcell j z hj
          rw [hbel.cell (p := ⟨g, o + j, none⟩)]
          · exact this
          · rcases Nat.lt_or_ge g w2.heap.size with h1 | h1
            · exact h1
            · simp [World.cell?, Array.getElem?_eq_none h1] at this
        clear hcell
        obtain ⟨N, hN⟩ : ∃ N, N = ND.length := ⟨_, rfl⟩
        rw [← hN] at hnl ⊢
        have HL := hide hN
        clear hN
        go_wp2_with fail
        go_loopw [8] (fun iv wr => ∃ i : Nat, iv = .int .i64 i ∧ i ≤ N ∧ Hid (∀ j z, j < i → ND[j]? = some z → wi b z = false) ∧ wr = w2) (fun iv _ => (N - intOf iv).toNat)
        case atStart => exact ⟨0, rfl, by omega, fun j z hj => by omega, rfl⟩
        case round =>
          obtain ⟨i, rfl, hi, hno, rfl⟩ := hrel
          by_cases hin : i < N
          · obtain ⟨z, hzi⟩ : ∃ z, ND[i]? = some z := ⟨_, List.getElem?_eq_getElem (by have := unhide HL; omega)⟩
            have c := HC wr (Below.refl _ _) i z hzi
            have G := rwithin_any b z wr hb (hz z (List.mem_of_getElem? hzi))
            have HZ := hide hzi
            clear hzi
            cases hw : wi b z
            · rw [hw] at G
              have HW := hide hw
              clear hw
              go_wp2_with fail
              refine (G).mono ?_
              rintro e wr ⟨rfl, rfl⟩
              go_wp2_with fail
              go_roundw
              case rel =>
                refine ⟨i + 1, by go_num, by omega, ?_, trivial⟩
                intro j y hj hy
                rcases Nat.lt_or_eq_of_le (Nat.le_of_lt_succ hj) with h | h
                · exact unhide hno j y h hy
                · subst h
                  rw [unhide HZ] at hy
                  cases hy
                  exact unhide HW
              case measure => simp only [intOf]; omega
            · rw [hw] at G
              have hRz : z = R := by
                obtain ⟨i', h1, h2, h3⟩ := unhide HF
                rcases Nat.lt_trichotomy i i' with h | h | h
                · have := h3 i z h (unhide HZ); rw [hw] at this; cases this
                · subst h; rw [unhide HZ] at h1; exact Option.some.inj h1
                · have := unhide hno i' _ h h1; rw [h2] at this; cases this
              have HR := hide hRz
              clear hRz hw
              go_wp2_with fail
              refine (G).mono ?_
              rintro e wr ⟨rfl, rfl⟩
              go_wp2
              go_ret
              rw [← unhide HR]
              exact ⟨rfl, b2⟩
          · obtain ⟨i', h1, h2, h3⟩ := unhide HF
            have hlt : i' < N := by
              rw [unhide HL]
              rcases Nat.lt_or_ge i' ND.length with h | h
              · exact h
              · rw [List.getElem?_eq_none h] at h1; cases h1
            have := unhide hno i' _ (by omega) h1
            rw [h2] at this
            cases this

end Go.Proofs.YtkamcjmimfjnkaaDoor
