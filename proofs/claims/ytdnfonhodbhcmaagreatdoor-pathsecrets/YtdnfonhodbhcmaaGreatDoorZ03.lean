/- Texts joined: IxJoin IxRefD. -/
import Derived.Test.YtdnfonhodbhcmaaGreatDoorZ02
import Derived.Laws.AppendOwnNone
/- The append of one row of numbers to another, as a law of the walk. -/
namespace Go.Proofs.YtdnfonhodbhcmaaGreatDoor
open Go.RowKit

theorem wpList_join {w : World} {ops : Array Oper} {rest : List Oper} {o : Oper} {a : Act} {Q : Exit → Act → World → Prop} (hgd : o.guard = none) (s x : Operand)
    (ho : o.op = .call { callee := .builtin .append, args := #[s, x], argTypes := #[27, 27] })
    (base b' : Nat) (v u : Value) (l l' : List Int) (hs : a.eval s = v) (hown : Ints base w v l) (hx : a.eval x = u) (hu : Ints b' w u l') (hlen : l.length + l'.length ≤ 100000) (hbase : base ≤ w.heap.size)
    (h : ∀ v' w', Ints base w' v' (l ++ l') → Below base w w' → wpList Tryz.prog ops Q rest (a.put o.dst v') w') : wpList Tryz.prog ops Q (o :: rest) a w := by
  obtain ⟨i0, hi, hz0, hz1, hz2⟩ := info_parts Tryz.infoInt
  rcases hu.2 with ⟨rfl, h0⟩ | ⟨g, cap, cur, rfl, _⟩
  · obtain rfl := List.length_eq_zero_iff.1 h0
    refine wpList_append_own_none hgd s x 27 ho base 3 i0 1 Tryz.underlying27 hi v l.length _ hs hown hx ?_
    have := h v w (by simpa using hown) (Below.refl _ _)
    exact this
  · refine wpList_append_own _ hgd s x 27 ho base 3 i0 (.int .i64 0) 1 8 Tryz.underlying27 hi hz0 hz1 hz2 rfl (by decide) v l.length _ hs hown ⟨g, 0, none⟩ l'.length cap (l'.map I64) hx (by simp) (World.ownsRow.cells hu rfl) ?_ ?_ ?_ hbase ?_
    · intro y hy
      obtain ⟨z, _, rfl⟩ := List.mem_map.1 hy
      rfl
    · unfold maxLen; omega
    · omega
    · intro v' w' h1 h2 _
      refine h v' w' ?_ ((Below.refl base w).grown h2 hbase (fun k hk => (World.ownsRow.lt hown k hk).1))
      simpa [Ints] using h1

theorem one_own (w : World) (a : Int) : Ints w.heap.size (w.alloc (.cells #[.int .i64 a] 3)) (.slice (some ⟨w.heap.size, 0, none⟩) 1 1) [a] :=
  ⟨rfl, Or.inr ⟨w.heap.size, 1, #[.int .i64 a], rfl, Nat.le_refl _, heap_alloc_new w _, Nat.le_refl _, by unfold maxLen; omega, rfl, rfl⟩⟩
theorem Ints.mono {B B' : Nat} {w : World} {v : Value} {l : List Int} (h : Ints B w v l) (hb : B' ≤ B) : Ints B' w v l := by
  refine ⟨h.1, ?_⟩
  rcases h.2 with h | ⟨g, cap, cur, hv, h0, r⟩
  · exact Or.inl h
  · exact Or.inr ⟨g, cap, cur, hv, Nat.le_trans hb h0, r⟩

end Go.Proofs.YtdnfonhodbhcmaaGreatDoor

/- Contracts of the document's own answers for layer 2: who is below whom, and the rows of nodes above. -/
namespace Go.Proofs.YtdnfonhodbhcmaaGreatDoor
open Go.RowKit

theorem wi_max {x : Int} (h : 0 ≤ x) (h2 : x ≤ 9223372036854775807) : wi x 9223372036854775807 = true := by
  have hl : lvl 9223372036854775807 = ((63 : Nat) : Int) := by
    have := lvl_nd (k := 63) (m := 0) (by decide)
    exact this
  unfold wi
  rw [hl, Int.toNat_natCast]
  have e : ((2 ^ 63 : Nat) : Int) = 9223372036854775808 := by decide
  rw [e]
  simp only [Bool.and_eq_true, decide_eq_true_eq]
  omega

set_option maxRecDepth 100000 in
set_option maxHeartbeats 1000000 in
theorem rwithin_any (x y : Int) (w : World) (h1 : x ≤ 9223372036854775807) (h2 : y ≤ 9223372036854775807) :
    Calls Tryz.prog 170 #[.int .i64 x, .int .i64 y] w fun e w' => e = .returned (.bool (wi x y)) ∧ w' = w := by
  by_cases hx : x < 0
  · rw [wi_neg (Or.inl hx)]
    go_enter Tryz.func170, Tryz.ntmps170
    go_wp2
    go_ret
    exact ⟨rfl, rfl⟩
  · by_cases hy : y < 0
    · rw [wi_neg (Or.inr hy)]
      go_enter Tryz.func170, Tryz.ntmps170
      go_wp2
      go_ret
      exact ⟨rfl, rfl⟩
    · by_cases hm : y = 9223372036854775807
      · subst hm
        rw [wi_max (by omega) h1]
        go_enter Tryz.func170, Tryz.ntmps170
        go_wp2
        go_ret
        exact ⟨rfl, rfl⟩
      · have hm' : (y == 9223372036854775807) = false := by simpa using hm
        have K := rhalf_any y w h2
        rcases hf_cases y h2 with ⟨hl, hh⟩ | ⟨k, m, rfl, hb, hl, hh, hl2⟩
        · have hl0 : (lvl y).toNat = 0 := by omega
          have hr : wi x y = (x == y) := by
            rw [Bool.eq_iff_iff]
            unfold wi
            rw [hl0]
            simp only [Bool.and_eq_true, decide_eq_true_eq, beq_iff_eq]
            have : ((2 ^ 0 : Nat) : Int) = 1 := rfl
            rw [this]
            omega
          rw [hr]
          rw [hh] at K
          clear hr hh hl hl0 hm
          go_enter Tryz.func170, Tryz.ntmps170
          go_wp2_with fail
          refine (K).mono ?_
          rintro e w ⟨rfl, rfl⟩
          go_wp2
          go_ret
          exact ⟨rfl, rfl⟩
        · have hk := nd_lt hb
          have hk2 : k + 1 < 63 := by
            rcases Nat.lt_or_ge (k + 1) 63 with h | h
            · exact h
            · have e1 : k + 1 = 63 := by omega
              have e2 := hk.2 e1
              rw [e1, e2] at hm
              exact absurd rfl hm
          have hq := two_pow_62 hk2
          have hs := span_room hb hk2
          have e := nd_odd k m
          have e2 := nd_eq k m
          have hpos := Nat.two_pow_pos k
          unfold wi
          rw [hl2, Int.toNat_natCast, Nat.pow_succ]
          rw [Nat.pow_succ] at hq hs
          rw [hh] at K
          have hge : 2 * 2 ^ k ≤ nd (k + 1) m + 1 := by
            generalize 2 ^ k * m = q at *; generalize 2 ^ k = p at *; omega
          clear hh hl hl2 hk hk2 e e2 hm
          generalize 2 ^ k = p at *
          generalize nd (k + 1) m = Z at *
          obtain ⟨n, rfl⟩ : ∃ n : Nat, x = n := ⟨x.toNat, by omega⟩
          have hwa : wrap64 (2 * (p : Int)) = 2 * (p : Int) := wrap64_id (by omega) (by omega)
          have hwb : wrap64 (2 * (p : Int) - 1) = 2 * (p : Int) - 1 := wrap64_id (by omega) (by omega)
          have hwc : wrap64 ((Z : Int) - (2 * (p : Int) - 1)) = (Z : Int) - (2 * (p : Int) - 1) := wrap64_id (by omega) (by omega)
          have hwd : wrap64 ((n : Int) - (Z : Int)) = (n : Int) - (Z : Int) := wrap64_id (by omega) (by omega)
          have n0 : ((2 * (p : Int)) == 0) = false := by rw [beq_eq_false_iff_ne]; omega
          by_cases g1 : (Z : Int) - (2 * (p : Int) - 1) ≤ (n : Int)
          · by_cases g2 : (n : Int) - (Z : Int) ≤ 2 * (p : Int) - 1
            · have hr : (decide (0 ≤ (n : Int)) && decide (0 ≤ (Z : Int)) && decide ((Z : Int) + 1 - ((p * 2 : Nat) : Int) ≤ (n : Int)) && decide ((n : Int) + 1 ≤ (Z : Int) + ((p * 2 : Nat) : Int))) = true := by
                simp only [Bool.and_eq_true, decide_eq_true_eq]; omega
              rw [hr]
              clear hr hs hq hge hb
              go_enter Tryz.func170, Tryz.ntmps170
              go_wp2_with fail
              refine (K).mono ?_
              rintro e w ⟨rfl, rfl⟩
              go_wp2
              go_ret
              exact ⟨rfl, rfl⟩
            · have hr : (decide (0 ≤ (n : Int)) && decide (0 ≤ (Z : Int)) && decide ((Z : Int) + 1 - ((p * 2 : Nat) : Int) ≤ (n : Int)) && decide ((n : Int) + 1 ≤ (Z : Int) + ((p * 2 : Nat) : Int))) = false := by
                rw [Bool.and_eq_false_iff]; right; simp only [decide_eq_false_iff_not]; omega
              rw [hr]
              clear hr hs hq hge hb
              go_enter Tryz.func170, Tryz.ntmps170
              go_wp2_with fail
              refine (K).mono ?_
              rintro e w ⟨rfl, rfl⟩
              go_wp2
              simp only [decide_eq_false (Int.not_le.2 g2)]
              go_ret
              exact ⟨rfl, rfl⟩
          · have hr : (decide (0 ≤ (n : Int)) && decide (0 ≤ (Z : Int)) && decide ((Z : Int) + 1 - ((p * 2 : Nat) : Int) ≤ (n : Int)) && decide ((n : Int) + 1 ≤ (Z : Int) + ((p * 2 : Nat) : Int))) = false := by
              rw [Bool.and_eq_false_iff]; left; rw [Bool.and_eq_false_iff]; right; simp only [decide_eq_false_iff_not]; omega
            rw [hr]
            clear hr hs hq hge hb
            go_enter Tryz.func170, Tryz.ntmps170
            go_wp2_with fail
            refine (K).mono ?_
            rintro e w ⟨rfl, rfl⟩
            go_wp2
            go_ret
            exact ⟨rfl, rfl⟩

set_option maxRecDepth 100000 in
set_option maxHeartbeats 1000000 in
theorem rdirect_any (x L : Int) (w : World) :
    Calls Tryz.prog 76 #[.int .i64 x, .int .i64 L] w fun e w' => ∃ v, e = .returned v ∧ Ints w.heap.size w' v (dir x L) ∧ Below w.heap.size w w' := by
  obtain ⟨i0, hi, hz0, hz1, hz2⟩ := info_parts Tryz.infoInt
  have K := rparent_any x L w
  go_enter Tryz.func76, Tryz.ntmps76
  go_wp2_with fail
  refine K.mono ?_
  rintro e w ⟨rfl, rfl⟩
  go_wp2_with fail
  go_loopw [5, 6, 7] (fun sv pv ov wr => ∃ (f : Nat) (y : Int) (cur : List Int), Room f y L ∧ pv = .int .i64 (parV y L) ∧ ov = .bool (parB y L) ∧ cur.length + f ≤ 31 ∧ Hid (cur ++ dirF f y L = dir x L) ∧ Ints w.heap.size wr sv cur ∧ Below w.heap.size w wr) (fun _ pv ov _ => stepsLeft pv ov)
  case atStart => exact ⟨31, x, [], room_start x L, rfl, rfl, by simp, by simp [Hid, dir], ints_nil _ _, Below.refl _ _⟩
  case round =>
    obtain ⟨f, y, cur, hr, rfl, rfl, hlen, hdn, hown, hbel⟩ := hrel
    have hsz := hbel.size
    cases hp : parB y L
    · have hd : cur = dir x L := by
        rw [← unhide hdn]
        cases f <;> simp [dirF, hp]
      rw [hd] at hown
      clear hdn hd hr
      go_wp2_with fail
      go_ret
      exact ⟨_, rfl, hown, hbel⟩
    · obtain ⟨g, rfl, hr', hl1, hl2, hl3, _⟩ := room_next hr hp
      have hpv : parV y L = abv y := by simp [parV, hp]
      rw [hpv]
      have K1 := fun wr => rparent_any (abv y) L wr
      have HL := hide (And.intro hl1 (And.intro hl2 hl3))
      have hdn' : Hid ((cur ++ [abv y]) ++ dirF g (abv y) L = dir x L) := by
        unfold Hid; rw [← unhide hdn]; simp [dirF, hp]
      clear hl1 hl2 hl3 hdn hr hpv
      generalize abv y = A at *
      go_wp2_with (at_builtin; refine wpList_append_own _ rfl (.tmp 15) (.tmp 17) 27 rfl w.heap.size 3 i0 (.int .i64 0) 1 8 Tryz.underlying27 hi hz0 hz1 hz2 rfl (by decide) _ cur.length _ rfl (World.ownsRow.alloc hown _) ⟨wr.heap.size, 0, none⟩ 1 1 [_] rfl rfl (cell_one_new _ _ _) ?c2 ?c3 ?c4 ?c5 ?nx)
      case c2 => intro u hu; simp at hu; subst hu; rfl
      case c3 => unfold maxLen; omega
      case c4 => omega
      case c5 => simp; omega
      case nx =>
        intro v' w1 hown' hgrow _
        obtain ⟨R1, R2⟩ := ints_snoc A hbel hown hown' hgrow
        clear hown' hgrow
        have K2 := K1 w1
        clear K1
        go_wp2_with fail
        refine K2.mono ?_
        rintro e w1 ⟨rfl, rfl⟩
        go_wp2_with fail
        go_roundw
        case rel => exact ⟨g, A, cur ++ [A], hr', rfl, rfl, by simp; omega, hdn', R1, R2⟩
        case measure => exact steps_down (unhide HL) hr'

theorem dirF_len (f : Nat) (x L : Int) : (dirF f x L).length ≤ f := by
  induction f generalizing x with
  | zero => simp [dirF]
  | succ f ih => unfold dirF; split <;> simp; exact ih _

theorem dirF_le (f : Nat) (x L : Int) : ∀ z ∈ dirF f x L, z ≤ 9223372036854775807 := by
  induction f generalizing x with
  | zero => intro z hz; simp [dirF] at hz
  | succ f ih =>
    intro z hz
    unfold dirF at hz
    split at hz
    · rename_i hp
      rcases List.mem_cons.1 hz with h | h
      · obtain ⟨d, k, m, hd, _, rfl, hk, hm, hb⟩ := parB_open hp
        have := (abv_parent hd hk hm).1
        rw [h, abv_nd (by omega)]; omega
      · exact ih _ z h
    · cases hz

theorem com_find (b L : Int) (hb : inn b L = true) : ∀ (f : Nat) (a : Int), inn a L = true → Room f a L → ∃ i : Nat, (a :: dirF f a L)[i]? = some (comF f a b) ∧ wi b (comF f a b) = true ∧ ∀ j z, j < i → (a :: dirF f a L)[j]? = some z → wi b z = false := by
  intro f
  induction f with
  | zero =>
    intro a ha hr
    cases hw : wi b a
    · obtain ⟨k, m, e, h⟩ := hr (par_of_not_wi ha hb hw)
      obtain ⟨d, k', m', hd, _, e', hk, _⟩ := parB_open (par_of_not_wi ha hb hw)
      rw [e] at e'
      obtain ⟨rfl, rfl⟩ := nd_inj (Int.ofNat.inj e')
      omega
    · exact ⟨0, rfl, hw, fun j _ hj => by omega⟩
  | succ f ih =>
    intro a ha hr
    cases hw : wi b a
    · have hp := par_of_not_wi ha hb hw
      obtain ⟨g, hg, hr', _⟩ := room_next hr hp
      obtain rfl : f = g := by omega
      obtain ⟨i, h1, h2, h3⟩ := ih (abv a) (inn_abv hp) hr'
      have ec : comF (f + 1) a b = comF f (abv a) b := by simp [comF, hw]
      have ed : dirF (f + 1) a L = abv a :: dirF f (abv a) L := by simp [dirF, hp]
      rw [ec, ed]
      refine ⟨i + 1, by simpa using h1, h2, fun j z hj hz => ?_⟩
      cases j with
      | zero => simp at hz; subst hz; exact hw
      | succ j => exact h3 j z (by omega) (by simpa using hz)
    · have ec : comF (f + 1) a b = a := by simp [comF, hw]
      rw [ec]
      exact ⟨0, rfl, hw, fun j _ hj => by omega⟩

end Go.Proofs.YtdnfonhodbhcmaaGreatDoor
