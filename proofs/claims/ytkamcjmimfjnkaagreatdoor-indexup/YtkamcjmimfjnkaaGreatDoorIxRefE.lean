/- Contracts of the document's own answers for layer 2: siblings, and the row of those beside the way up. -/
import Derived.Test.YtkamcjmimfjnkaaGreatDoorIxRefD
namespace Go.Proofs.YtkamcjmimfjnkaaGreatDoor
open Go.RowKit

/-- A node is the child on the left of the one above it just if it is less. -/
theorem left_or_right {x L : Int} (h : parB x L = true) : rtB (abv x) = true ∧ lfB (abv x) = true ∧ abv x ≤ 9223372036854775807 ∧ ((lfV (abv x) = x ∧ x < abv x) ∨ (lfV (abv x) ≠ x ∧ ¬ x < abv x)) := by
  obtain ⟨d, k, m, hd, rfl, rfl, hk, hm, hb⟩ := parB_open h
  have ha := abv_parent hd hk hm
  have hr := rtB_above ha.1
  obtain ⟨f1, f2, f3, f4, f5, f6, f7, f8, f9, f10, _, _, _, _, _, _, _, _, _, _, _, f22, f23, f24⟩ := family hd (show k + 1 ≤ d by omega) ha.2
  rw [abv_nd (by omega)]
  refine ⟨hr.1, hr.2, by omega, ?_⟩
  rw [f1]
  have eX := nd_mul (k + 1) (m / 2)
  have el := nd_mul k (2 * (m / 2))
  have hp := Nat.two_pow_pos k
  have p1 : 2 ^ (k + 1) = 2 * 2 ^ k := by rw [Nat.pow_succ]; omega
  have p2 : 2 ^ (k + 1 + 1) = 4 * 2 ^ k := by rw [Nat.pow_succ, p1]; omega
  have q1 : 2 ^ (k + 1 + 1) * (m / 2) = 4 * (2 ^ k * (m / 2)) := by rw [p2, Nat.mul_assoc]
  have q2 : 2 ^ (k + 1) * (2 * (m / 2)) = 4 * (2 ^ k * (m / 2)) := by rw [p1, Nat.mul_mul_mul_comm]
  rw [q1, p1] at eX
  rw [q2] at el
  rcases Nat.mod_two_eq_zero_or_one m with hm2 | hm2
  · have e : m = 2 * (m / 2) := by omega
    have hx : nd k m = nd k (2 * (m / 2)) := by rw [← e]
    rw [hx]
    left
    refine ⟨rfl, ?_⟩
    generalize 2 ^ k * (m / 2) = A at *
    generalize 2 ^ k = p at *
    omega
  · have e : m = 2 * (m / 2) + 1 := by omega
    have er := nd_mul k (2 * (m / 2) + 1)
    have q3 : 2 ^ (k + 1) * (2 * (m / 2) + 1) = 4 * (2 ^ k * (m / 2)) + 2 * 2 ^ k := by rw [Nat.mul_add, q2, Nat.mul_one, p1]
    rw [q3] at er
    have hx : nd k m = nd k (2 * (m / 2) + 1) := by rw [← e]
    rw [hx]
    right
    generalize 2 ^ k * (m / 2) = A at *
    generalize 2 ^ k = p at *
    omega

set_option maxRecDepth 100000 in
set_option maxHeartbeats 1000000 in
theorem rsibling_any (x L : Int) (w : World) :
    Calls Tryz.prog 9 #[.int .i64 x, .int .i64 L] w fun e w' => e = .returned (.tuple #[.int .i64 (sibV x L), .bool (parB x L)]) ∧ w' = w := by
  have K := rparent_any x L w
  cases e : parB x L
  · simp only [parV, sibV, e] at K ⊢
    go_enter Tryz.func9, Tryz.ntmps9
    go_wp2_with fail
    refine (K).mono ?_
    rintro e w ⟨rfl, rfl⟩
    go_wp2
    go_ret2
    exact ⟨rfl, rfl⟩
  · simp only [parV, sibV, e, if_true] at K ⊢
    obtain ⟨h1, h2, h3, h4⟩ := left_or_right e
    have K1 := rleft_any (abv x) w h3
    have K2 := rright_any (abv x) w h3
    rw [h2] at K1
    rw [h1] at K2
    unfold sb
    generalize rtV (abv x) = V1 at *
    generalize lfV (abv x) = V2 at *
    generalize abv x = A at *
    clear e h1 h2
    rcases h4 with ⟨rfl, hx⟩ | ⟨hne, hx⟩
    · rw [if_pos hx]
      clear hx
      go_enter Tryz.func9, Tryz.ntmps9
      go_wp2_with fail
      refine (K).mono ?_
      rintro e w ⟨rfl, rfl⟩
      go_wp2_with fail
      refine (K1).mono ?_
      rintro e w ⟨rfl, rfl⟩
      go_wp2_with fail
      refine (K2).mono ?_
      rintro e w ⟨rfl, rfl⟩
      go_wp2
      go_ret2
      exact ⟨rfl, rfl⟩
    · rw [if_neg hx]
      have n1 : (V2 == x) = false := by simpa using hne
      have n2 : (V2 != x) = true := by simpa using hne
      clear hx hne
      go_enter Tryz.func9, Tryz.ntmps9
      go_wp2_with fail
      refine (K).mono ?_
      rintro e w ⟨rfl, rfl⟩
      go_wp2_with fail
      refine (K1).mono ?_
      rintro e w ⟨rfl, rfl⟩
      go_wp2
      go_ret2
      exact ⟨rfl, rfl⟩

theorem cop_filter {L : Int} : ∀ (f : Nat) (x : Int), Room f x L → copF f x L = ((x :: dirF f x L).filter (parB · L)).map sb := by
  intro f
  induction f with
  | zero =>
    intro x hr
    cases hp : parB x L
    · simp [copF, dirF, hp]
    · obtain ⟨k, m, e, h⟩ := hr hp
      obtain ⟨d, k2, m2, hd, _, e', hk2, _⟩ := parB_open hp
      rw [e] at e'
      obtain ⟨rfl, rfl⟩ := nd_inj (Int.ofNat.inj e')
      omega
  | succ f ih =>
    intro x hr
    cases hp : parB x L
    · simp [copF, dirF, hp]
    · obtain ⟨g, hg, hr', _⟩ := room_next hr hp
      obtain rfl : f = g := by omega
      have e1 : copF (f + 1) x L = sb x :: copF f (abv x) L := by simp [copF, hp]
      have e2 : dirF (f + 1) x L = abv x :: dirF f (abv x) L := by simp [dirF, hp]
      rw [e1, e2, List.filter_cons_of_pos (p := fun x => parB x L) hp, List.map_cons, ← ih (abv x) hr']

set_option maxRecDepth 100000 in
set_option maxHeartbeats 1000000 in
theorem rcopath_any (x L : Int) (w : World) :
    Calls Tryz.prog 11 #[.int .i64 x, .int .i64 L] w fun e w' => ∃ v, e = .returned v ∧ Ints w.heap.size w' v (cop x L) ∧ Below w.heap.size w w' := by
  obtain ⟨i0, hi, hz0, hz1, hz2⟩ := info_parts Tryz.infoInt
  have hn := dirF_len 31 x L
  obtain ⟨ND, hND⟩ : ∃ l, l = x :: dir x L := ⟨_, rfl⟩
  have hnl : ND.length ≤ 32 := by rw [hND]; simp [dir]; omega
  have hcop : cop x L = (ND.filter (parB · L)).map sb := by rw [hND]; exact cop_filter 31 x (room_start x L)
  have HN := hide hND
  have HCOP := hide hcop
  clear hND hcop
  go_enter Tryz.func11, Tryz.ntmps11
  have hb0 : Below w.heap.size w (w.alloc (.cells #[.int .i64 x] 3)) := (Below.refl _ _).alloc (Nat.le_refl _) _
  go_wp2_with fail
  refine (rdirect_any x L (w.alloc (.cells #[.int .i64 x] 3))).mono ?_
  rintro e w1 ⟨u, rfl, hu, hb1⟩
  have b1 : Below w.heap.size w w1 := bw_tr hb0 hb1
  have hone := (one_own w x).bw hb1
  have hsz := b1.size
  go_wp2_with (at_builtin; refine wpList_join rfl (.tmp 11) (.tmp 14) rfl w.heap.size _ _ _ [x] (dir x L) rfl hone rfl hu ?c1 hsz ?nx)
  case c1 => simp [dir]; omega
  case nx =>
    intro v w2 hv hb2
    have b2 : Below w.heap.size w w2 := b1.trans hb2
    have e1 : x :: dir x L = ND := (unhide HN).symm
    rw [e1] at hv
    have hnum := hv.nums
    have hvb : ∀ k, v.ownBlock = some k → k < w2.heap.size := fun k hk => (World.ownsRow.lt hv k hk).2
    clear e1 hu hone hb1 hb2 hb0 b1
    obtain ⟨g, o, cap, rfl, hcell⟩ := hnum.open (by rw [unhide HN]; simp)
    clear hnum hv hvb
    obtain ⟨N, hN⟩ : ∃ N, N = ND.length := ⟨_, rfl⟩
    rw [← hN] at hnl ⊢
    have HL := hide hN
    have HC : Hid (∀ wr, Below w2.heap.size w2 wr → ∀ j z, ND[j]? = some z → wr.cell? ⟨g, o + j, none⟩ = some (.int .i64 z)) := by
      intro wr hbel j z hj
      have := hcell j z hj
      rw [hbel.cell (p := ⟨g, o + j, none⟩)]
      · exact this
      · rcases Nat.lt_or_ge g w2.heap.size with h1 | h1
        · exact h1
        · simp [World.cell?, Array.getElem?_eq_none h1] at this
    have hw2 := b2.size
    clear hN hcell
    go_wp2_with fail
    go_loopw [5, 7] (fun sv iv wr => ∃ (i : Nat) (cur : List Int), iv = .int .i64 i ∧ i ≤ N ∧ cur.length ≤ i ∧ Hid (cur = ((ND.take i).filter (parB · L)).map sb) ∧ Ints w2.heap.size wr sv cur ∧ Below w2.heap.size w2 wr) (fun _ iv _ => (N - intOf iv).toNat)
    case atStart => exact ⟨0, [], rfl, by omega, by simp, by simp [Hid], ints_nil _ _, Below.refl _ _⟩
    case round =>
      obtain ⟨i, cur, rfl, hiN, hlen, hcur, hown, hbel⟩ := hrel
      have hsz := hbel.size
      by_cases hin : i < N
      · obtain ⟨z, hzi⟩ : ∃ z, ND[i]? = some z := ⟨_, List.getElem?_eq_getElem (by have := unhide HL; omega)⟩
        have c := unhide HC wr hbel i z hzi
        have G := rsibling_any z L wr
        have htake : (ND.take (i + 1)).filter (parB · L) = (ND.take i).filter (parB · L) ++ [z].filter (parB · L) := by
          rw [List.take_add_one, hzi, Option.toList_some, List.filter_append]
        have HT := hide htake
        clear hzi htake
        cases hp : parB z L
        · rw [hp] at G
          have HP := hide hp
          clear hp
          generalize sibV z L = S at *
          go_wp2_with fail
          refine (G).mono ?_
          rintro e wr ⟨rfl, rfl⟩
          go_wp2_with fail
          go_roundw
          case rel =>
            refine ⟨i + 1, cur, by go_num, by omega, by omega, ?_, hown, hbel⟩
            unfold Hid
            rw [unhide HT, unhide hcur]
            simp [unhide HP]
          case measure => simp only [intOf]; omega
        · rw [hp] at G
          have hs : sibV z L = sb z := by unfold sibV; rw [if_pos hp]
          rw [hs] at G
          have HP := hide hp
          clear hp hs
          obtain ⟨S, hS⟩ : ∃ S, S = sb z := ⟨_, rfl⟩
          rw [← hS] at G
          have HS := hide hS
          clear hS
          go_wp2_with fail
          refine (G).mono ?_
          rintro e wr ⟨rfl, rfl⟩
          go_wp2_with (at_builtin; refine wpList_append_own _ rfl (.tmp 32) (.tmp 34) 24 rfl w2.heap.size 3 i0 (.int .i64 0) 1 8 Tryz.underlying24 hi hz0 hz1 hz2 rfl (by decide) _ cur.length _ rfl (World.ownsRow.alloc hown _) ⟨wr.heap.size, 0, none⟩ 1 1 [_] rfl rfl (cell_one_new _ _ _) ?c2 ?c3 ?c4 ?c5 ?ny)
          case c2 => intro u hu; simp at hu; subst hu; rfl
          case c3 => unfold maxLen; omega
          case c4 => omega
          case c5 => simp; omega
          case ny =>
            intro v' w3 hown' hgrow _
            obtain ⟨R1, R2⟩ := ints_snoc S hbel hown hown' hgrow
            clear hown' hgrow
            go_wp2_with fail
            go_roundw
            case rel =>
              refine ⟨i + 1, cur ++ [S], by go_num, by omega, by simp; omega, ?_, R1, R2⟩
              unfold Hid
              rw [unhide HT, unhide hcur, unhide HS]
              simp [unhide HP]
            case measure => simp only [intOf]; omega
      · have hie : i = N := by omega
        subst hie
        have hd : cur = cop x L := by
          rw [unhide hcur, unhide HCOP, List.take_of_length_le (by have := unhide HL; omega)]
        rw [hd] at hown
        clear hd hcur
        go_wp2_with fail
        go_ret
        exact ⟨_, rfl, hown.mono hw2, bw_tr b2 hbel⟩

end Go.Proofs.YtkamcjmimfjnkaaGreatDoor
