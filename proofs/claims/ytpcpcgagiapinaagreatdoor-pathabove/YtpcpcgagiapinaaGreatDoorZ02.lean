/- Texts joined: IxMem IxSame IxList TrPure IxRef IxRefB IxKin IxRefC. -/
import Derived.Test.YtpcpcgagiapinaaGreatDoorZ01
import Derived.Maps.AppendAt
import Derived.Laws.OwnMore
import Derived.BigQuiet
/- Rows of numbers in memory, and the word for 'only new blocks'. -/
namespace Go.Proofs.YtpcpcgagiapinaaGreatDoor
open Go.RowKit
def I64 (z : Int) : Value := .int .i64 z
def Ints (B : Nat) (w : World) (v : Value) (l : List Int) : Prop := w.ownsRow B 3 1 v l.length (l.map I64)
def Nums (w : World) (v : Value) (l : List Int) : Prop :=
  (l = [] ∧ ∃ a c, v = .slice a 0 c ∧ (a = none → c = 0)) ∨ ∃ g o cap, v = .slice (some ⟨g, o, none⟩) l.length cap ∧ l.length ≤ cap ∧ cap ≤ maxLen ∧ ∀ j z, l[j]? = some z → w.cell? ⟨g, o + j, none⟩ = some (I64 z)
theorem bw_mono {B B' : Nat} {w w' : World} (h : Below B' w w') (hB : B ≤ B') : Below B w w' := ⟨h.os, h.tape, h.output, h.size, fun k hk => h.block k (by omega)⟩
theorem bw_tr {w w1 w2 : World} (h : Below w.heap.size w w1) (k : Below w1.heap.size w1 w2) : Below w.heap.size w w2 := h.trans (bw_mono k h.size)
theorem Tab.pos {w : World} (h : Tab w) : 0 < w.heap.size := by
  have := h 0 (by decide)
  rcases Nat.eq_zero_or_pos w.heap.size with h0 | h0
  · have e : w.heap = #[] := Array.eq_empty_of_size_eq_zero h0
    simp [World.cell?, e] at this
  · exact h0
theorem Tab.bw {w w' : World} (h : Tab w) (hb : Below w.heap.size w w') : Tab w' := fun j hj => by
  rw [hb.cell (p := ⟨0, j, none⟩) h.pos]; exact h j hj
theorem Tab.drewN {w : World} (h : Tab w) (n : Nat) : Tab (w.drewN n) := h.bw (below_drewN (Below.refl _ _) n)
theorem Ints.bw {B : Nat} {w w' : World} {v : Value} {l : List Int} (h : Ints B w v l) (hb : Below w.heap.size w w') : Ints B w' v l := by
  refine ⟨h.1, ?_⟩
  rcases h.2 with h2 | ⟨g, cap, cur, rfl, h0, hg, r⟩
  · exact Or.inl h2
  · refine Or.inr ⟨g, cap, cur, rfl, h0, ?_, r⟩
    rw [hb.block g]
    · exact hg
    · rcases Nat.lt_or_ge g w.heap.size with h1 | h1
      · exact h1
      · rw [Array.getElem?_eq_none h1] at hg; cases hg
theorem Nums.bw {w w' : World} {v : Value} {l : List Int} (h : Nums w v l) (hb : Below w.heap.size w w') : Nums w' v l := by
  rcases h with h | ⟨g, o, cap, hv, h1, h2, hc⟩
  · exact Or.inl h
  · refine Or.inr ⟨g, o, cap, hv, h1, h2, fun j z hj => ?_⟩
    have := hc j z hj
    rw [hb.cell (p := ⟨g, o + j, none⟩)]
    · exact this
    · rcases Nat.lt_or_ge g w.heap.size with h1 | h1
      · exact h1
      · simp [World.cell?, Array.getElem?_eq_none h1] at this
theorem Ints.nums {B : Nat} {w : World} {v : Value} {l : List Int} (h : Ints B w v l) : Nums w v l := by
  rcases h.2 with ⟨rfl, h2⟩ | ⟨g, cap, cur, rfl, h0, hg, h3, h4, h5, h6⟩
  · exact Or.inl ⟨List.length_eq_zero_iff.1 h2, none, 0, rfl, fun _ => rfl⟩
  · refine Or.inr ⟨g, 0, cap, rfl, h3, h4, fun j z hj => ?_⟩
    have := World.ownsRow.cells h (g := g) rfl j (I64 z) (by simp [hj])
    cases j <;> simpa [Addr.add] using this
theorem Tryz.infoInt : (Tryz.prog.info? 3).map (fun i => (i.zero, i.size, i.bytes)) = some (some (.int .i64 0), 1, 8) := by kernel_rfl
theorem ints_nil (B : Nat) (w : World) : Ints B w (.slice none 0 0) [] := World.ownsRow_nil _ _ _ _
theorem ints_snoc {w wr w1 : World} {lv v' : Value} {cur : List Int} {o : Obj} (c : Int) (hb : Below w.heap.size w wr) (hown : Ints w.heap.size wr lv cur) (hown' : w1.ownsRow w.heap.size 3 1 v' (cur.length + 1) (cur.map I64 ++ [.int .i64 c]))
    (hg : (wr.alloc o).grownBy w1 lv.ownBlock) : Ints w.heap.size w1 v' (cur ++ [c]) ∧ Below w.heap.size w w1 := by
  refine ⟨by simpa [Ints, I64] using hown', (hb.alloc hb.size o).grown hg (by have := hb.size; simp; omega) (fun k hk => (World.ownsRow.lt hown k hk).1)⟩
theorem wi_neg {x y : Int} (h : x < 0 ∨ y < 0) : wi x y = false := by
  unfold wi
  rcases h with h | h
  · have : ¬ 0 ≤ x := by omega
    simp [this]
  · have : ¬ 0 ≤ y := by omega
    simp [this]
theorem wi_iff {j q n : Nat} (hb : nd j q < 9223372036854775808) : wi (n : Int) (nd j q : Nat) = true ↔ 2 ^ (j + 1) * q ≤ n ∧ n + 1 < 2 ^ (j + 1) * q + 2 ^ (j + 1) := by
  unfold wi
  rw [lvl_nd hb, Int.toNat_natCast]
  simp only [Bool.and_eq_true, decide_eq_true_eq]
  have hp := Nat.two_pow_pos j
  have e := nd_mul j q
  rw [e, Nat.pow_succ]
  generalize 2 ^ j * 2 * q = A
  generalize 2 ^ j = p at *
  omega
theorem wi_shift {j q k m : Nat} (hb : nd j q < 9223372036854775808) : wi (nd k m : Nat) (nd j q : Nat) = true ↔ k ≤ j ∧ nd k m / 2 ^ (j + 1) = nd j q / 2 ^ (j + 1) := by
  rw [wi_iff hb, nd_div j q]
  have hp := Nat.two_pow_pos (j + 1)
  have e := nd_succ k m
  have hd := Nat.div_add_mod (nd k m) (2 ^ (j + 1))
  have hm := Nat.mod_lt (nd k m) hp
  constructor
  · rintro ⟨h1, h2⟩
    have hq : nd k m / 2 ^ (j + 1) = q := by
      apply Nat.div_eq_of_lt_le
      · rw [Nat.mul_comm]; exact h1
      · rw [Nat.add_mul, Nat.mul_comm]; omega
    refine ⟨?_, hq⟩
    apply Nat.le_of_not_lt
    intro hc
    obtain ⟨c, rfl⟩ : ∃ c, k = j + 1 + c := ⟨k - (j + 1), by omega⟩
    rw [Nat.pow_add, Nat.mul_assoc] at e
    generalize 2 ^ c * (2 * m + 1) = u at *
    have a1 : 2 ^ (j + 1) * q < 2 ^ (j + 1) * u := by omega
    have a2 : 2 ^ (j + 1) * u < 2 ^ (j + 1) * (q + 1) := by rw [Nat.mul_add]; omega
    have b1 := Nat.lt_of_mul_lt_mul_left a1
    have b2 := Nat.lt_of_mul_lt_mul_left a2
    omega
  · rintro ⟨hk, hq⟩
    rw [hq] at hd
    refine ⟨by omega, ?_⟩
    have hne : nd k m + 1 ≠ 2 ^ (j + 1) * (q + 1) := by
      rw [e]
      intro hc
      obtain ⟨c, rfl⟩ : ∃ c, j = k + c := ⟨j - k, by omega⟩
      rw [Nat.add_assoc, Nat.pow_add, Nat.mul_assoc] at hc
      have := Nat.eq_of_mul_eq_mul_left (Nat.two_pow_pos k) hc
      rw [Nat.pow_succ, Nat.mul_assoc, Nat.mul_left_comm] at this
      omega
    rw [Nat.mul_add] at hne
    omega
set_option maxHeartbeats 1000000 in
theorem within_any (x y : Int) (w : World) (h1 : x ≤ 9223372036854775807) (h2 : y ≤ 9223372036854775807) (hT : Tab w) :
    Calls Tryz.prog 120 #[.int .i64 x, .int .i64 y] w fun e w' => e = .returned (.bool (wi x y)) ∧ Below w.heap.size w w' := by
  by_cases hx : x < 0
  · rw [wi_neg (Or.inl hx)]
    go_enter Tryz.func120, Tryz.ntmps120
    go_wp2
    go_ret
    exact ⟨rfl, Below.refl _ _⟩
  · by_cases hy : y < 0
    · rw [wi_neg (Or.inr hy)]
      go_enter Tryz.func120, Tryz.ntmps120
      go_wp2
      go_ret
      exact ⟨rfl, Below.refl _ _⟩
    · obtain ⟨n, rfl⟩ : ∃ n : Nat, x = n := ⟨x.toNat, by omega⟩
      obtain ⟨r, rfl⟩ : ∃ n : Nat, y = n := ⟨y.toNat, by omega⟩
      obtain ⟨k, m, rfl⟩ := exists_nd n
      obtain ⟨j, q, rfl⟩ := exists_nd r
      have hb : nd j q < 9223372036854775808 := by omega
      have hs := wi_shift (k := k) (m := m) hb
      have hj := (nd_lt hb).1
      have K1 := level_any (nd k m : Nat) w (by omega) hT
      have K2 := level_any (nd j q : Nat) w (by omega) hT
      rw [lvl_nd (by omega)] at K1
      rw [lvl_nd hb] at K2
      have hX : ((nd k m : Nat) : Int) / 2 ^ (j + 1) = ((nd k m / 2 ^ (j + 1) : Nat) : Int) := by simp
      have hY : ((nd j q : Nat) : Int) / 2 ^ (j + 1) = ((nd j q / 2 ^ (j + 1) : Nat) : Int) := by simp
      generalize nd k m / 2 ^ (j + 1) = A at *
      generalize nd j q / 2 ^ (j + 1) = C at *
      generalize wi (nd k m : Nat) (nd j q : Nat) = b at *
      generalize nd k m = X at *
      generalize nd j q = Y at *
      by_cases hk : k ≤ j
      · have hk' : ¬ ((j : Int) < (k : Int)) := by omega
        obtain rfl : b = ((A : Int) == (C : Int)) := by
          rw [Bool.eq_iff_iff, hs]
          simp only [hk, true_and, beq_iff_eq]
          omega
        clear hs hb hk
        go_enter Tryz.func120, Tryz.ntmps120
        go_wp2_with fail
        refine K1.mono ?_
        rintro e w1 ⟨rfl, rfl⟩
        go_wp2_with fail
        refine K2.mono ?_
        rintro e w1 ⟨rfl, rfl⟩
        go_wp2_with fail
        refine K2.mono ?_
        rintro e w1 ⟨rfl, rfl⟩
        go_wp2_with fail
        go_quiet (fail)
        go_wp2_with fail
        go_ret
        exact ⟨rfl, below_drewN (Below.refl _ _) _⟩
      · have hk' : ((j : Int) < (k : Int)) := by omega
        obtain rfl : b = false := by
          cases b
          · rfl
          · exact absurd (hs.1 rfl).1 hk
        clear hs hb hk
        go_enter Tryz.func120, Tryz.ntmps120
        go_wp2_with fail
        refine K1.mono ?_
        rintro e w1 ⟨rfl, rfl⟩
        go_wp2_with fail
        refine K2.mono ?_
        rintro e w1 ⟨rfl, rfl⟩
        go_wp2
        go_ret
        exact ⟨rfl, Below.refl _ _⟩
end Go.Proofs.YtpcpcgagiapinaaGreatDoor

/- The contract of SameNumbers: are two rows of numbers the same? -/
namespace Go.Proofs.YtpcpcgagiapinaaGreatDoor
open Go.RowKit
theorem Nums.form {w : World} {v : Value} {l : List Int} (h : Nums w v l) : (∃ p cap, v = .slice p l.length cap) ∧ l.length ≤ maxLen := by
  rcases h with ⟨rfl, a, c, rfl, _⟩ | ⟨g, o, cap, rfl, h1, h2, _⟩
  · exact ⟨⟨a, c, rfl⟩, Nat.zero_le _⟩
  · exact ⟨⟨_, cap, rfl⟩, by omega⟩
theorem Nums.open {w : World} {v : Value} {l : List Int} (h : Nums w v l) (hl : 0 < l.length) : ∃ g o cap, v = .slice (some ⟨g, o, none⟩) l.length cap ∧ ∀ j z, l[j]? = some z → w.cell? ⟨g, o + j, none⟩ = some (.int .i64 z) := by
  rcases h with ⟨rfl, a, c, rfl, _⟩ | ⟨g, o, cap, rfl, h1, h2, h3⟩
  · simp at hl
  · exact ⟨g, o, cap, rfl, h3⟩
end Go.Proofs.YtpcpcgagiapinaaGreatDoor

/- Contracts of Direct, Copath and Common of package index. -/
namespace Go.Proofs.YtpcpcgagiapinaaGreatDoor
open Go.RowKit
def dirF : Nat → Int → Int → List Int
  | 0, _, _ => []
  | f + 1, x, L => if parB x L = true then abv x :: dirF f (abv x) L else []
def copF : Nat → Int → Int → List Int
  | 0, _, _ => []
  | f + 1, x, L => if parB x L = true then sb x :: copF f (abv x) L else []
def dir (x L : Int) : List Int := dirF 31 x L
def cop (x L : Int) : List Int := copF 31 x L
def Room (f : Nat) (x L : Int) : Prop := parB x L = true → ∃ k m : Nat, x = (nd k m : Nat) ∧ 31 ≤ k + f
theorem room_start (x L : Int) : Room 31 x L := fun h => by
  obtain ⟨d, k, m, _, _, e, _⟩ := parB_open h
  exact ⟨k, m, e, by omega⟩
theorem room_next {f : Nat} {x L : Int} (h : Room f x L) (hp : parB x L = true) : ∃ g, f = g + 1 ∧ Room g (abv x) L ∧ lvl (abv x) = lvl x + 1 ∧ 0 ≤ lvl x ∧ lvl x < 30 ∧ abv x ≤ 2147483647 := by
  obtain ⟨d, k, m, hd, _, e, hk, hm, hb⟩ := parB_open hp
  obtain ⟨k', m', e', hf⟩ := h hp
  rw [e] at e'
  obtain ⟨rfl, rfl⟩ := nd_inj (Int.ofNat.inj e')
  have ha := abv_parent hd hk hm
  subst e
  rw [abv_nd (by omega), lvl_nd (by omega), lvl_nd (by omega)]
  refine ⟨f - 1, by omega, fun _ => ⟨k + 1, m / 2, rfl, by omega⟩, by omega, by omega, by omega, by omega⟩
def stepsLeft (p o : Value) : Nat := match o with
  | .bool true => (64 - lvl (intOf p)).toNat
  | _ => 0
theorem steps_down {y A L : Int} {g : Nat} (h : lvl A = lvl y + 1 ∧ 0 ≤ lvl y ∧ lvl y < 30) (hr : Room g A L) : stepsLeft (.int .i64 (parV A L)) (.bool (parB A L)) < stepsLeft (.int .i64 A) (.bool true) := by
  cases hp : parB A L
  · simp only [stepsLeft, intOf]; omega
  · obtain ⟨_, _, _, h1, _⟩ := room_next hr hp
    simp only [stepsLeft, intOf, parV, hp, if_true]; omega
theorem steps_down' {y A : Int} {o : Bool} (h : lvl A = lvl y + 1 ∧ 0 ≤ lvl y ∧ lvl y < 30) : stepsLeft (.int .i64 A) (.bool o) < stepsLeft (.int .i64 y) (.bool true) := by
  cases o
  · simp only [stepsLeft, intOf]; omega
  · simp only [stepsLeft, intOf]; omega
theorem aboveI_any (y L : Int) (w : World) (hp : parB y L = true) (hT : Tab w) :
    Calls Tryz.prog 158 #[.int .i64 y] w fun e w' => e = .returned (.int .i64 (abv y)) ∧ w' = w := by
  obtain ⟨d, k, m, hd, hL, rfl, hk, hm, hb⟩ := parB_open hp
  rw [abv_nd (by omega)]
  exact above_any k m w (by omega) (by omega) hT
set_option maxRecDepth 100000 in
set_option maxHeartbeats 1000000 in
theorem direct_any (x L : Int) (w : World) (hT : Tab w) :
    Calls Tryz.prog 92 #[.int .i64 x, .int .i64 L] w fun e w' => ∃ v, e = .returned v ∧ Ints w.heap.size w' v (dir x L) ∧ Below w.heap.size w w' := by
  obtain ⟨i0, hi, hz0, hz1, hz2⟩ := info_parts Tryz.infoInt
  have K := parent_any x L w hT
  go_enter Tryz.func92, Tryz.ntmps92
  go_wp2_with fail
  refine K.mono ?_
  rintro e w ⟨rfl, rfl⟩
  go_wp2_with fail
  go_loopw [5, 6, 7] (fun sv pv ov wr => ∃ (f : Nat) (y : Int) (cur : List Int), Room f y L ∧ pv = .int .i64 (parV y L) ∧ ov = .bool (parB y L) ∧ cur.length + f ≤ 31 ∧ Hid (cur ++ dirF f y L = dir x L) ∧ Ints w.heap.size wr sv cur ∧ Below w.heap.size w wr) (fun _ pv ov _ => stepsLeft pv ov)
  case atStart => exact ⟨31, x, [], room_start x L, rfl, rfl, by simp, by simp [Hid, dir], ints_nil _ _, Below.refl _ _⟩
  case round =>
    obtain ⟨f, y, cur, hr, rfl, rfl, hlen, hdn, hown, hbel⟩ := hrel
    have hsz := hbel.size
    cases hp : parB y L
    · have hd : cur = dir x L := by
        rw [← unhide hdn]
        cases f <;> simp [dirF, hp]
      rw [hd] at hown
      clear hdn hd hr
      go_wp2_with fail
      go_ret
      exact ⟨_, rfl, hown, hbel⟩
    · obtain ⟨g, rfl, hr', hl1, hl2, hl3, _⟩ := room_next hr hp
      have hpv : parV y L = abv y := by simp [parV, hp]
      rw [hpv]
      have K1 := fun wr hb => parent_any (abv y) L wr (hT.bw hb)
      have HL := hide (And.intro hl1 (And.intro hl2 hl3))
      have hdn' : Hid ((cur ++ [abv y]) ++ dirF g (abv y) L = dir x L) := by
        unfold Hid; rw [← unhide hdn]; simp [dirF, hp]
      clear hl1 hl2 hl3 hdn hr hpv
      generalize abv y = A at *
      go_wp2_with (at_builtin; refine wpList_append_own _ rfl (.tmp 21) (.tmp 23) 27 rfl w.heap.size 3 i0 (.int .i64 0) 1 8 Tryz.underlying27 hi hz0 hz1 hz2 rfl (by decide) _ cur.length _ rfl (World.ownsRow.alloc hown _) ⟨wr.heap.size, 0, none⟩ 1 1 [_] rfl rfl (cell_one_new _ _ _) ?c2 ?c3 ?c4 ?c5 ?nx)
      case c2 => intro u hu; simp at hu; subst hu; rfl
      case c3 => unfold maxLen; omega
      case c4 => omega
      case c5 => simp; omega
      case nx =>
        intro v' w1 hown' hgrow _
        obtain ⟨R1, R2⟩ := ints_snoc A hbel hown hown' hgrow
        clear hown' hgrow
        have K2 := K1 w1 R2
        clear K1
        go_wp2_with fail
        refine K2.mono ?_
        rintro e w1 ⟨rfl, rfl⟩
        go_wp2_with fail
        go_roundw
        case rel => exact ⟨g, A, cur ++ [A], hr', rfl, rfl, by simp; omega, hdn', R1, R2⟩
        case measure => exact steps_down (unhide HL) hr'
set_option maxRecDepth 100000 in
set_option maxHeartbeats 1000000 in
theorem copath_any (x L : Int) (w : World) (hT : Tab w) :
    Calls Tryz.prog 145 #[.int .i64 x, .int .i64 L] w fun e w' => ∃ v, e = .returned v ∧ Ints w.heap.size w' v (cop x L) ∧ Below w.heap.size w w' := by
  obtain ⟨i0, hi, hz0, hz1, hz2⟩ := info_parts Tryz.infoInt
  have K := sibling_any x L w hT
  go_enter Tryz.func145, Tryz.ntmps145
  go_wp2_with fail
  refine K.mono ?_
  rintro e w ⟨rfl, rfl⟩
  go_wp2_with fail
  go_loopw [0, 5, 6, 7] (fun xv sv pv ov wr => ∃ (f : Nat) (y : Int) (cur : List Int), Room f y L ∧ xv = .int .i64 y ∧ pv = .int .i64 (sibV y L) ∧ ov = .bool (parB y L) ∧ cur.length + f ≤ 31 ∧ Hid (cur ++ copF f y L = cop x L) ∧ Ints w.heap.size wr sv cur ∧ Below w.heap.size w wr) (fun xv _ _ ov _ => stepsLeft xv ov)
  case atStart => exact ⟨31, x, [], room_start x L, rfl, rfl, rfl, by simp, by simp [Hid, cop], ints_nil _ _, Below.refl _ _⟩
  case round =>
    obtain ⟨f, y, cur, hr, rfl, rfl, rfl, hlen, hdn, hown, hbel⟩ := hrel
    have hsz := hbel.size
    cases hp : parB y L
    · have hd : cur = cop x L := by
        rw [← unhide hdn]
        cases f <;> simp [copF, hp]
      rw [hd] at hown
      clear hdn hd hr
      go_wp2_with fail
      go_ret
      exact ⟨_, rfl, hown, hbel⟩
    · obtain ⟨g, rfl, hr', hl1, hl2, hl3, _⟩ := room_next hr hp
      have hpv : sibV y L = sb y := by simp [sibV, hp]
      rw [hpv]
      have K0 := fun wr hb => aboveI_any y L wr hp (hT.bw hb)
      have K1 := fun wr hb => sibling_any (abv y) L wr (hT.bw hb)
      have HL := hide (And.intro hl1 (And.intro hl2 hl3))
      have hdn' : Hid ((cur ++ [sb y]) ++ copF g (abv y) L = cop x L) := by
        unfold Hid; rw [← unhide hdn]; simp [copF, hp]
      clear hl1 hl2 hl3 hdn hr hpv hp
      generalize sb y = S at *
      generalize abv y = A at *
      go_wp2_with (at_builtin; refine wpList_append_own _ rfl (.tmp 21) (.tmp 23) 27 rfl w.heap.size 3 i0 (.int .i64 0) 1 8 Tryz.underlying27 hi hz0 hz1 hz2 rfl (by decide) _ cur.length _ rfl (World.ownsRow.alloc hown _) ⟨wr.heap.size, 0, none⟩ 1 1 [_] rfl rfl (cell_one_new _ _ _) ?c2 ?c3 ?c4 ?c5 ?nx)
      case c2 => intro u hu; simp at hu; subst hu; rfl
      case c3 => unfold maxLen; omega
      case c4 => omega
      case c5 => simp; omega
      case nx =>
        intro v' w1 hown' hgrow _
        obtain ⟨R1, R2⟩ := ints_snoc S hbel hown hown' hgrow
        clear hown' hgrow
        have K2 := K1 w1 R2
        have K3 := K0 w1 R2
        clear K1 K0
        go_wp2_with fail
        refine K3.mono ?_
        rintro e w1 ⟨rfl, rfl⟩
        go_wp2_with fail
        refine K2.mono ?_
        rintro e w1 ⟨rfl, rfl⟩
        go_wp2_with fail
        go_roundw
        case rel => exact ⟨g, A, cur ++ [S], hr', rfl, rfl, rfl, by simp; omega, hdn', R1, R2⟩
        case measure => exact steps_down' (unhide HL)
theorem inn_open {x L : Int} (h : inn x L = true) : ∃ d k m : Nat, d ≤ 30 ∧ L = ((2 ^ d : Nat) : Int) ∧ x = (nd k m : Nat) ∧ k ≤ d ∧ m < 2 ^ (d - k) ∧ nd k m < 2147483647 := by
  have ht : isT L = true := by unfold inn at h; cases h : isT L <;> simp_all
  have h0 : 0 ≤ x := by simp [inn] at h; omega
  obtain ⟨d, hd, rfl⟩ := isT_iff.1 ht
  obtain ⟨n, rfl⟩ : ∃ n : Nat, x = n := ⟨x.toNat, by omega⟩
  obtain ⟨k, m, rfl⟩ := exists_nd n
  obtain ⟨h1, h2⟩ := (inn_nd hd).1 h
  exact ⟨d, k, m, hd, rfl, rfl, h1, h2, nd_small hd h1 h2⟩
theorem wi_root {b L : Int} (hb : inn b L = true) : wi b (L - 1) = true := by
  obtain ⟨d, k, m, hd, rfl, rfl, hk, hm, hl⟩ := inn_open hb
  rw [root_nd, wi_iff (by have := nd_small hd (Nat.le_refl d) (show 0 < 2 ^ (d - d) by simp); omega)]
  simp only [inn, Bool.and_eq_true, decide_eq_true_eq] at hb
  rw [Nat.pow_succ]
  generalize 2 ^ d = D at *
  omega
end Go.Proofs.YtpcpcgagiapinaaGreatDoor

/- Plain trees: what may be, who is in, who comes and goes. No walk is in this text. -/
namespace Go.Proofs.YtpcpcgagiapinaaGreatDoor
open Go.RowKit
structure Nd where
  pub : Int
  mem : Int
  ep : Int
  un : List Int
def nd0 : Nd := ⟨0, 0, 0, []⟩
def ndAt (T : List Nd) (x : Nat) : Nd := T.getD x nd0
def nlv (T : List Nd) : Nat := (T.length + 1) / 2
def lvs (T : List Nd) : List Nd := (List.range (nlv T)).map fun i => ndAt T (2 * i)
def pos (n : Nd) : Bool := n.pub != 0
def memsOf (L : List Nd) : List Int := (L.filter pos).map (·.mem)
def mems (T : List Nd) : List Int := memsOf (lvs T)
def hit (m : Int) (n : Nd) : Bool := pos n && n.mem == m
def fnd (T : List Nd) (m : Int) : Int := if (lvs T).findIdx (hit m) < nlv T then ((lvs T).findIdx (hit m) : Nat) else -1
def fb (T : List Nd) : Nat := (lvs T).findIdx fun n => !pos n
def anyM (T : List Nd) (a b : Nat) : Bool := (List.range b).any fun i => decide (a ≤ i) && pos (ndAt T (2 * i))
def unM (T : List Nd) (first last : Int) : List Int → Bool
  | [] => true
  | u :: us => decide (first ≤ u) && decide (u ≤ last) && pos (ndAt T (2 * u.toNat)) && unM T (u + 1) last us
def ndM (T : List Nd) (x : Nat) : Bool :=
  if (ndAt T x).pub = 0 then (ndAt T x).mem == 0 && (ndAt T x).ep == 0 && (ndAt T x).un.isEmpty
  else if (ndAt T x).pub < 0 then false
  else if x % 2 = 0 then decide (0 ≤ (ndAt T x).mem) && decide (0 ≤ (ndAt T x).ep) && (ndAt T x).un.isEmpty
  else (ndAt T x).mem == 0 && (ndAt T x).ep == 0 && unM T (spF (x : Nat)) (spT (x : Nat)) (ndAt T x).un
def mayB (T : List Nd) : Bool := T.isEmpty || (decide (nlv T ≤ 8) && decide (wid (nlv T : Nat) = (T.length : Nat)) && (List.range T.length).all (ndM T) && decide (mems T).Nodup && anyM T (nlv T / 2) (nlv T))
def upN (n i : Nat) : List Nat := (dir ((2 * i : Nat) : Int) (n : Nat)).map Int.toNat
def sdN (n i : Nat) : List Nat := (cop ((2 * i : Nat) : Int) (n : Nat)).map Int.toNat
def lN (x : Nat) : Nat := (lfV (x : Nat)).toNat
def rN (x : Nat) : Nat := (rtV (x : Nat)).toNat
def rsF : Nat → List Nd → Nat → List Int
  | 0, _, _ => []
  | f + 1, T, x => if pos (ndAt T x) = true then (x : Int) :: (ndAt T x).un.map (2 * ·) else if x % 2 = 0 then [] else rsF f T (lN x) ++ rsF f T (rN x)
def rsl (T : List Nd) (x : Nat) : List Int := rsF 5 T x
def prs (T : List Nd) (i : Nat) : List (Nat × List Int) := (((upN (nlv T) i).zip (sdN (nlv T) i)).map fun p => (p.1, rsl T p.2)).filter fun p => !p.2.isEmpty
def pth (T : List Nd) (i : Nat) : List Int := (prs T i).map fun p => (p.1 : Int)
def oth (T : List Nd) (i : Nat) : List (List Int) := (prs T i).map (·.2)
def keepF (fresh : List Int) (x : Int) : Bool := !(x % 2 == 0 && fresh.contains (x / 2))
def tgt (T : List Nd) (i : Nat) (fresh : List Int) : List (List Int) := (oth T i).map fun l => l.filter (keepF fresh)
def insU (u : Int) (l : List Int) : List Int := l.takeWhile (fun z => decide (z < u)) ++ u :: l.dropWhile (fun z => decide (z < u))
def addU (u : Int) (n : Nd) : Nd := if pos n = true then ⟨n.pub, n.mem, n.ep, insU u n.un⟩ else n
def fit (m : Nat) (T : List Nd) : List Nd := (List.range m).map (ndAt T)
def onAll (f : Nd → Nd) (xs : List Nat) (T : List Nd) : List Nd := xs.foldl (fun T x => T.set x (f (ndAt T x))) T
def wRoom (n i : Nat) : Nat := if i < n then n else if n = 0 then 1 else 2 * n
def addT (T : List Nd) (m e p : Int) : List Nd :=
  onAll (addU (fb T : Nat)) (upN (wRoom (nlv T) (fb T)) (fb T)) ((fit (2 * wRoom (nlv T) (fb T) - 1) T).set (2 * fb T) ⟨p, m, e, []⟩)
def addE (T : List Nd) (m e p : Int) : Int :=
  if mayB T = false ∨ m < 0 ∨ e < 0 ∨ p < 1 then 1 else if 0 ≤ fnd T m then 13 else if fb T = 8 then 3 else 0
def blk (i : Nat) (T : List Nd) : List Nd := onAll (fun _ => nd0) (upN (nlv T) i) (T.set (2 * i) nd0)
def hasL (T : List Nd) (i : Int) : Bool := decide (0 ≤ i) && decide (i < (nlv T : Nat)) && pos (ndAt T (2 * i.toNat))
def askE (T : List Nd) (i : Int) : Int := if mayB T = false then 1 else if hasL T i = false then 7 else 0
def setP (T : List Nd) (xs : List Int) (ps : List Int) : List Nd := (xs.zip ps).foldl (fun T q => T.set q.1.toNat ⟨q.2, (ndAt T q.1.toNat).mem, (ndAt T q.1.toNat).ep, (ndAt T q.1.toNat).un⟩) T
def setT (T : List Nd) (i : Nat) (e p : Int) (ps : List Int) : List Nd :=
  setP (onAll (fun _ => nd0) (upN (nlv T) i) (T.set (2 * i) ⟨p, (ndAt T (2 * i)).mem, e, (ndAt T (2 * i)).un⟩)) (pth T i) ps
def setE (T : List Nd) (i e p : Int) (ps : List Int) : Int :=
  if mayB T = false ∨ e < 0 ∨ p < 1 then 1 else if hasL T i = false then 7 else if ps.length ≠ (pth T i.toNat).length ∨ ps.any (fun q => decide (q < 1)) = true then 1 else 0
def sizes : List Nat := [1, 2, 4, 8]
theorem fin_up : (sizes.all fun n => (List.range n).all fun i => decide (dir ((2 * i : Nat) : Int) (n : Nat) = (upN n i).map fun (x : Nat) => (x : Int)) && decide (cop ((2 * i : Nat) : Int) (n : Nat) = (sdN n i).map fun (x : Nat) => (x : Int))
    && decide ((upN n i).length = (sdN n i).length) && decide (upN n i).Nodup && (upN n i).all (fun x => decide (x < 2 * n - 1) && decide (x % 2 = 1)) && (sdN n i).all (fun x => decide (x < 2 * n - 1))) = true := by decide +kernel
theorem fin_span : (sizes.all fun n => (List.range (2 * n - 1)).all fun x => decide (0 ≤ spF (x : Nat)) && decide (spF (x : Nat) ≤ spT (x : Nat)) && decide (spT (x : Nat) < (n : Nat)) && (decide (x % 2 = 1) || decide (2 * spF (x : Nat) = (x : Nat) ∧ 2 * spT (x : Nat) = (x : Nat)))
    && (decide (x % 2 = 0) || (decide (lfV (x : Nat) = (lN x : Nat)) && decide (rtV (x : Nat) = (rN x : Nat)) && decide (lfB (x : Nat) = true) && decide (rtB (x : Nat) = true) && decide (lN x < 2 * n - 1) && decide (rN x < 2 * n - 1) && decide (lvl (lN x : Nat) + 1 = lvl (x : Nat)) && decide (lvl (rN x : Nat) + 1 = lvl (x : Nat))
      && decide (spF (lN x : Nat) = spF (x : Nat)) && decide (spT (lN x : Nat) + 1 = spF (rN x : Nat)) && decide (spT (rN x : Nat) = spT (x : Nat))))
    && decide (0 ≤ lvl (x : Nat)) && decide (lvl (x : Nat) ≤ 3) && decide ((lvl (x : Nat) = 0) ↔ x % 2 = 0) && decide (lfB (x : Nat) = decide (x % 2 = 1))) = true := by decide +kernel
end Go.Proofs.YtpcpcgagiapinaaGreatDoor

/- Contracts of the document's own answers for layer 2, those of one number. -/
namespace Go.Proofs.YtpcpcgagiapinaaGreatDoor
open Go.RowKit
set_option maxHeartbeats 1000000 in
theorem rtree_any (L : Int) (w : World) :
    Calls Tryz.prog 181 #[.int .i64 L] w fun e w' => e = .returned (.bool (isT L)) ∧ w' = w := by
  go_enter Tryz.func181, Tryz.ntmps181
  go_wp2_with fail
  go_loopw [3] (fun nv wr => ∃ (i p : Nat), i ≤ 31 ∧ Hid (p = 2 ^ i) ∧ nv = .int .i64 p ∧ Hid (∀ j, j < i → L ≠ ((2 ^ j : Nat) : Int)) ∧ wr = w) (fun nv _ => (2147483648 - intOf nv).toNat)
  case atStart => exact ⟨0, 1, by omega, by simp [Hid], rfl, fun j hj => by omega, rfl⟩
  case round =>
    obtain ⟨i, p, hi, hp, rfl, hno, rfl⟩ := hrel
    by_cases h31 : i = 31
    · subst h31
      have e31 : p = 2147483648 := by rw [unhide hp]
      subst e31
      have hd : isT L = false := by
        cases e : isT L
        · rfl
        · obtain ⟨d, hd, hL⟩ := isT_iff.1 e
          exact absurd hL (unhide hno d (by omega))
      have HD := hide hd
      clear hd hp hno hi
      go_wp2
      go_ret
      rw [unhide HD]
      exact ⟨rfl, rfl⟩
    · have hb := pow30 (show i ≤ 30 by omega)
      rw [← unhide hp] at hb
      have hpos := Nat.two_pow_pos i
      rw [← unhide hp] at hpos
      by_cases hL : L = (p : Int)
      · have ht : isT L = true := isT_iff.2 ⟨i, by omega, by rw [hL, unhide hp]⟩
        have HT := hide ht
        clear ht hno
        subst hL
        go_wp2
        go_ret
        rw [unhide HT]
        exact ⟨rfl, rfl⟩
      · have h1 : ((p : Int) == L) = false := by rw [beq_eq_false_iff_ne]; exact fun c => hL c.symm
        have h2 : (L == (p : Int)) = false := by rw [beq_eq_false_iff_ne]; exact hL
        have HN := hide hL
        clear hL
        go_wp2_with fail
        go_roundw
        case rel =>
          refine ⟨i + 1, p * 2, by omega, ?_, by go_num, ?_, trivial⟩
          · unfold Hid; rw [unhide hp, Nat.pow_succ]
          · intro j hj
            rcases Nat.lt_or_eq_of_le (Nat.le_of_lt_succ hj) with h | h
            · exact unhide hno j h
            · subst h; rw [← unhide hp]; exact unhide HN
        case measure => simp only [intOf]; omega
set_option maxHeartbeats 1000000 in
theorem rin_any (x L : Int) (w : World) :
    Calls Tryz.prog 153 #[.int .i64 x, .int .i64 L] w fun e w' => e = .returned (.bool (inn x L)) ∧ w' = w := by
  have K := rtree_any L w
  unfold inn
  cases e : isT L
  · rw [e] at K
    simp only [Bool.false_and]
    clear e
    go_enter Tryz.func153, Tryz.ntmps153
    go_wp2_with fail
    refine (K).mono ?_
    rintro e w ⟨rfl, rfl⟩
    go_wp2
    go_ret
    exact ⟨rfl, rfl⟩
  · rw [e] at K
    have hb := isT_bounds e
    have hw0 : wrap64 (2 * L) = 2 * L := wrap64_id (by omega) (by omega)
    have hw1 : wrap64 (2 * L - 2) = 2 * L - 2 := wrap64_id (by omega) (by omega)
    simp only [Bool.true_and]
    clear e
    by_cases h0 : 0 ≤ x
    · simp only [h0, decide_true, Bool.true_and]
      go_enter Tryz.func153, Tryz.ntmps153
      go_wp2_with fail
      refine (K).mono ?_
      rintro e w ⟨rfl, rfl⟩
      go_wp2
      go_ret
      exact ⟨rfl, rfl⟩
    · simp only [h0, decide_false, Bool.false_and]
      go_enter Tryz.func153, Tryz.ntmps153
      go_wp2_with fail
      refine (K).mono ?_
      rintro e w ⟨rfl, rfl⟩
      go_wp2
      go_ret
      exact ⟨rfl, rfl⟩
theorem nd_zero (m : Nat) : nd 0 m = 2 * m := by simp [nd]
theorem nd_odd (k m : Nat) : nd (k + 1) m = 2 * nd k m + 1 := by
  have h1 := nd_succ (k + 1) m
  have h2 := nd_succ k m
  rw [Nat.pow_succ, Nat.mul_comm (2 ^ k) 2, Nat.mul_assoc] at h1
  omega
set_option maxHeartbeats 1000000 in
theorem rlevel_any (x : Int) (w : World) (h2 : x ≤ 9223372036854775807) :
    Calls Tryz.prog 187 #[.int .i64 x] w fun e w' => e = .returned (.int .i64 (lvl x)) ∧ w' = w := by
  by_cases h : x < 0
  · rw [lvl_neg h]
    go_enter Tryz.func187, Tryz.ntmps187
    go_wp2
    go_ret
    exact ⟨rfl, rfl⟩
  · obtain ⟨n, rfl⟩ : ∃ n : Nat, x = n := ⟨x.toNat, by omega⟩
    obtain ⟨k, m, rfl⟩ := exists_nd n
    have hb : nd k m < 9223372036854775808 := by omega
    rw [lvl_nd hb]
    have hk := (nd_lt hb).1
    have HE : Hid (nd k m = nd k m) := rfl
    have h0 : ¬ ((nd k m : Nat) : Int) < 0 := h
    generalize hX : nd k m = X at *
    have HX := hide hX
    clear hX h
    go_enter Tryz.func187, Tryz.ntmps187
    go_wp2_with fail
    go_loopw [0, 3] (fun xv nv wr => ∃ (Y c j : Nat), Hid (Y = nd c m) ∧ xv = .int .i64 Y ∧ nv = .int .i64 j ∧ j + c = k ∧ Y < 9223372036854775808 ∧ wr = w) (fun xv _ _ => (intOf xv).toNat)
    case atStart => exact ⟨X, k, 0, (unhide HX).symm, rfl, rfl, by omega, hb, rfl⟩
    case round =>
      obtain ⟨Y, c, j, hY, rfl, rfl, hjc, hYb, rfl⟩ := hrel
      cases c with
      | zero =>
        have e1 : Y % 2 = 0 := by rw [unhide hY, nd_zero]; omega
        have e2 : ((Y : Int) % 2) = 0 := by omega
        have e3 : Int.tmod (Y : Int) 2 = 0 := by rw [Int.tmod_eq_emod_of_nonneg (by omega)]; exact e2
        obtain rfl : j = k := by omega
        clear hY hjc
        go_wp2
        go_ret
        exact ⟨rfl, rfl⟩
      | succ c =>
        have e0 : Y = 2 * nd c m + 1 := by rw [unhide hY, nd_odd]
        have e1 : Y % 2 = 1 := by omega
        have e2 : ((Y : Int) % 2) = 1 := by omega
        have e3 : Int.tmod (Y : Int) 2 = 1 := by rw [Int.tmod_eq_emod_of_nonneg (by omega)]; exact e2
        have e4 : Int.tdiv (Y : Int) 2 = ((Y / 2 : Nat) : Int) := by rw [Int.tdiv_eq_ediv_of_nonneg (by omega)]; omega
        have e5 : Y / 2 = nd c m := by omega
        have HY := hide (And.intro e5 e0)
        clear hY e0 e5
        go_wp2_with fail
        go_roundw
        case rel => exact ⟨Y / 2, c, j + 1, (unhide HY).1, by go_num, by go_num, by omega, by omega, trivial⟩
        case measure => simp only [intOf]; omega
set_option maxHeartbeats 1000000 in
theorem rhalf_any (x : Int) (w : World) (h2 : x ≤ 9223372036854775807) :
    Calls Tryz.prog 169 #[.int .i64 x] w fun e w' => e = .returned (.int .i64 (hf x)) ∧ w' = w := by
  have K := rlevel_any x w h2
  rcases lvl_cases x h2 with ⟨h, hl⟩ | ⟨m, rfl, hb, hl⟩ | ⟨k, m, rfl, hb, hl⟩
  · rw [hl] at K
    have hh : hf _ = 0 := if_neg (by rw [hl]; decide)
    rw [hh]
    clear hh hl
    go_enter Tryz.func169, Tryz.ntmps169
    go_wp2_with fail
    refine (K).mono ?_
    rintro e w ⟨rfl, rfl⟩
    go_wp2
    go_ret
    exact ⟨rfl, rfl⟩
  · rw [hl] at K
    have hh : hf _ = 0 := if_neg (by rw [hl]; decide)
    rw [hh]
    clear hh hl
    go_enter Tryz.func169, Tryz.ntmps169
    go_wp2_with fail
    refine (K).mono ?_
    rintro e w ⟨rfl, rfl⟩
    go_wp2
    go_ret
    exact ⟨rfl, rfl⟩
  · rw [hl] at K
    have hk := (nd_lt hb).1
    have hh : hf (nd (k + 1) m : Nat) = ((2 ^ k : Nat) : Int) := by unfold hf; rw [if_pos (by rw [hl]; omega), hl, Int.toNat_natCast, Nat.add_sub_cancel]
    rw [hh]
    have hk62 : k ≤ 62 := by omega
    clear hh hl hb hk h2
    generalize nd (k + 1) m = X at *
    go_enter Tryz.func169, Tryz.ntmps169
    go_wp2_with fail
    refine (K).mono ?_
    rintro e w ⟨rfl, rfl⟩
    go_wp2_with fail
    go_loopw [4, 5] (fun nv iv wr => ∃ (i p : Nat), i ≤ k ∧ Hid (p = 2 ^ i) ∧ nv = .int .i64 p ∧ iv = .int .i64 ((i : Int) + 1) ∧ wr = w) (fun _ iv _ => (64 - intOf iv).toNat)
    case atStart => exact ⟨0, 1, by omega, by simp [Hid], rfl, rfl, rfl⟩
    case round =>
      obtain ⟨i, p, hi, hp, rfl, rfl, rfl⟩ := hrel
      have hb := two_pow_62 (show i < 63 by omega)
      rw [← unhide hp] at hb
      by_cases hik : i = k
      · subst hik
        go_wp2
        go_ret
        rw [← unhide hp]
        exact ⟨rfl, rfl⟩
      · have hlt : i < k := by omega
        have hb2 := two_pow_62 (show i + 1 < 63 by omega)
        rw [Nat.pow_succ, ← unhide hp] at hb2
        go_wp2_with fail
        go_roundw
        case rel => exact ⟨i + 1, p * 2, by omega, by unfold Hid; rw [unhide hp, Nat.pow_succ], by go_num, by go_num, trivial⟩
        case measure => simp only [intOf]; omega
end Go.Proofs.YtpcpcgagiapinaaGreatDoor

/- Contracts of the document's own answers for layer 2: children and leaves. -/
namespace Go.Proofs.YtpcpcgagiapinaaGreatDoor
open Go.RowKit
theorem hf_cases (x : Int) (h2 : x ≤ 9223372036854775807) : (lvl x ≤ 0 ∧ hf x = 0) ∨ (∃ k m : Nat, x = (nd (k + 1) m : Nat) ∧ nd (k + 1) m < 9223372036854775808 ∧ 0 < lvl x ∧ hf x = ((2 ^ k : Nat) : Int) ∧ lvl x = ((k + 1 : Nat) : Int)) := by
  rcases lvl_cases x h2 with ⟨h, hl⟩ | ⟨m, rfl, hb, hl⟩ | ⟨k, m, rfl, hb, hl⟩
  · exact Or.inl ⟨by omega, if_neg (by omega)⟩
  · exact Or.inl ⟨by omega, if_neg (by omega)⟩
  · exact Or.inr ⟨k, m, rfl, hb, by omega, by unfold hf; rw [if_pos (by rw [hl]; omega), hl, Int.toNat_natCast, Nat.add_sub_cancel], hl⟩
set_option maxHeartbeats 1000000 in
theorem rleft_any (x : Int) (w : World) (h2 : x ≤ 9223372036854775807) :
    Calls Tryz.prog 154 #[.int .i64 x] w fun e w' => e = .returned (.tuple #[.int .i64 (lfV x), .bool (lfB x)]) ∧ w' = w := by
  have K := rhalf_any x w h2
  rcases hf_cases x h2 with ⟨hl, hh⟩ | ⟨k, m, rfl, hb, hl, hh, _⟩
  · have h0 : ¬ 0 < lvl x := by omega
    simp only [lfV, lfB, h0, if_false, decide_false]
    rw [hh] at K
    clear hh hl h0
    go_enter Tryz.func154, Tryz.ntmps154
    go_wp2_with fail
    refine (K).mono ?_
    rintro e w ⟨rfl, rfl⟩
    go_wp2
    go_ret2
    exact ⟨rfl, rfl⟩
  · simp only [lfV, lfB, hl, if_true, decide_true]
    rw [hh] at K
    rw [hh]
    have hpos := Nat.two_pow_pos k
    have e := nd_succ (k + 1) m
    have hle : 2 ^ k ≤ 2 ^ (k + 1) * (2 * m + 1) := by
      rw [Nat.pow_succ]; exact Nat.le_trans (Nat.le_mul_of_pos_right _ (by decide)) (Nat.le_mul_of_pos_right _ (by omega))
    rw [← e] at hle
    clear hh hl e
    generalize 2 ^ k = p at *
    generalize nd (k + 1) m = X at *
    have hw : wrap64 ((X : Int) - (p : Int)) = (X : Int) - (p : Int) := wrap64_id (by omega) (by omega)
    have h0 : ((p : Int) == 0) = false := by rw [beq_eq_false_iff_ne]; omega
    go_enter Tryz.func154, Tryz.ntmps154
    go_wp2_with fail
    refine (K).mono ?_
    rintro e w ⟨rfl, rfl⟩
    go_wp2
    go_ret2
    exact ⟨rfl, rfl⟩
set_option maxHeartbeats 1000000 in
theorem rright_any (x : Int) (w : World) (h2 : x ≤ 9223372036854775807) :
    Calls Tryz.prog 155 #[.int .i64 x] w fun e w' => e = .returned (.tuple #[.int .i64 (rtV x), .bool (rtB x)]) ∧ w' = w := by
  have K := rhalf_any x w h2
  rcases hf_cases x h2 with ⟨hl, hh⟩ | ⟨k, m, rfl, hb, hl, hh, hl2⟩
  · have h0 : ¬ (0 < lvl x ∧ x ≠ 9223372036854775807) := by omega
    simp only [rtV, rtB, h0, if_false, decide_false]
    rw [hh] at K
    clear hh hl h0
    go_enter Tryz.func155, Tryz.ntmps155
    go_wp2_with fail
    refine (K).mono ?_
    rintro e w ⟨rfl, rfl⟩
    go_wp2
    go_ret2
    exact ⟨rfl, rfl⟩
  · have hroom := right_room hb
    have hpos := Nat.two_pow_pos k
    rw [hh] at K
    simp only [rtV, rtB, hl, true_and, hh]
    have hk62 := two_pow_62 (show k < 63 by have := (nd_lt hb).1; omega)
    clear hh hl hl2
    generalize 2 ^ k = p at *
    generalize nd (k + 1) m = X at *
    have h0 : ((p : Int) == 0) = false := by rw [beq_eq_false_iff_ne]; omega
    have hw0 : wrap64 (9223372036854775807 - (p : Int)) = 9223372036854775807 - (p : Int) := wrap64_id (by omega) (by omega)
    by_cases hX : (X : Int) = 9223372036854775807
    · have hgt : 9223372036854775807 - (p : Int) < (X : Int) := by omega
      simp only [hX, ne_eq, not_true_eq_false, if_false, decide_false]
      rw [hX] at K hgt
      clear hroom h2 hb hX
      go_enter Tryz.func155, Tryz.ntmps155
      go_wp2_with fail
      refine (K).mono ?_
      rintro e w ⟨rfl, rfl⟩
      go_wp2
      go_ret2
      exact ⟨rfl, rfl⟩
    · have hr := hroom hX
      have hgt : ¬ 9223372036854775807 - (p : Int) < (X : Int) := by omega
      have hw : wrap64 ((X : Int) + (p : Int)) = (X : Int) + (p : Int) := wrap64_id (by omega) (by omega)
      simp only [hX, ne_eq, not_false_eq_true, if_true, decide_true]
      clear hroom hX
      go_enter Tryz.func155, Tryz.ntmps155
      go_wp2_with fail
      refine (K).mono ?_
      rintro e w ⟨rfl, rfl⟩
      go_wp2
      go_ret2
      exact ⟨rfl, rfl⟩
theorem span_arith (X p q : Nat) (hX : X = 4 * q + 2 * p - 1) (hpos : 0 < p) (hs : X + 2 * p < 9223372036854775808) :
    ((p * 2 - 1 : Nat) : Int) = 2 * (p : Int) - 1 ∧ ((X : Int) + (2 * (p : Int) - 1)) / 2 = (X : Int) / 2 + (p : Int) ∧ wrap64 (2 * (p : Int)) = 2 * (p : Int) ∧ wrap64 (2 * (p : Int) - 1) = 2 * (p : Int) - 1 ∧
    wrap64 ((X : Int) - (2 * (p : Int) - 1)) = (X : Int) - (2 * (p : Int) - 1) ∧ ((2 * (p : Int)) == 0) = false ∧ Int.tdiv ((X : Int) - (2 * (p : Int) - 1)) 2 = ((X : Int) - (2 * (p : Int) - 1)) / 2 ∧ Int.tdiv (X : Int) 2 = (X : Int) / 2 ∧
    Int.tdiv (2 * (p : Int)) 2 = (p : Int) ∧ (2 * (p : Int)) / 2 = (p : Int) ∧ wrap64 (((X : Int) - (2 * (p : Int) - 1)) / 2) = ((X : Int) - (2 * (p : Int) - 1)) / 2 ∧ wrap64 ((X : Int) / 2) = (X : Int) / 2 ∧
    wrap64 ((X : Int) / 2 + (p : Int)) = (X : Int) / 2 + (p : Int) ∧ wrap64 (p : Int) = (p : Int) := by
  have h1 : (X : Int) = 2 * (2 * (q : Int) + (p : Int) - 1) + 1 := by omega
  have h2 : (X : Int) / 2 = 2 * (q : Int) + (p : Int) - 1 := by rw [h1]; omega
  have h3 : (X : Int) - (2 * (p : Int) - 1) = 2 * (2 * (q : Int)) := by omega
  have h4 : (2 * (2 * (q : Int))) / 2 = 2 * (q : Int) := by omega
  have h5 : (X : Int) + (2 * (p : Int) - 1) = 2 * (2 * (q : Int) + 2 * (p : Int) - 1) := by omega
  have h6 : (2 * (2 * (q : Int) + 2 * (p : Int) - 1)) / 2 = 2 * (q : Int) + 2 * (p : Int) - 1 := by omega
  have b1 : 0 ≤ (q : Int) := by omega
  have b2 : 0 < (p : Int) := by omega
  have b3 : 4 * (q : Int) + 4 * (p : Int) ≤ 9223372036854775808 := by omega
  clear hX hs hpos h1
  rw [h2, h3, h4, h5, h6]
  generalize (q : Int) = Q at *
  refine ⟨by omega, by omega, wrap64_id (by omega) (by omega), wrap64_id (by omega) (by omega), wrap64_id (by omega) (by omega), by rw [beq_eq_false_iff_ne]; omega, by rw [Int.tdiv_eq_ediv_of_nonneg (by omega)]; omega, by rw [Int.tdiv_eq_ediv_of_nonneg (by omega)]; exact h2, by rw [Int.tdiv_eq_ediv_of_nonneg (by omega)]; omega, by omega, wrap64_id (by omega) (by omega), wrap64_id (by omega) (by omega), wrap64_id (by omega) (by omega), wrap64_id (by omega) (by omega)⟩
set_option maxHeartbeats 1000000 in
theorem rspan_any (x : Int) (w : World) (h2 : x ≤ 9223372036854775807) :
    Calls Tryz.prog 136 #[.int .i64 x] w fun e w' => e = .returned (.tuple #[.int .i64 (spF x), .int .i64 (spT x)]) ∧ w' = w := by
  have K := rhalf_any x w h2
  by_cases h0 : x < 0
  · simp only [spF, spT, h0, true_or, if_true]
    clear K
    go_enter Tryz.func136, Tryz.ntmps136
    go_wp2
    go_ret2
    exact ⟨rfl, rfl⟩
  · by_cases h1 : x = 9223372036854775807
    · subst h1
      simp only [spF, spT, or_true, if_true]
      clear K
      go_enter Tryz.func136, Tryz.ntmps136
      go_wp2
      go_ret2
      exact ⟨rfl, rfl⟩
    · have h3 : ¬ (x < 0 ∨ x = 9223372036854775807) := by omega
      have h1' : (x == 9223372036854775807) = false := by simpa using h1
      simp only [spF, spT, h3, if_false]
      rcases hf_cases x h2 with ⟨hl, hh⟩ | ⟨k, m, rfl, hb, hl, hh, hl2⟩
      · have hl0 : (lvl x).toNat = 0 := by omega
        rw [hl0]
        rw [hh] at K
        have t1 : Int.tdiv x 2 = x / 2 := Int.tdiv_eq_ediv_of_nonneg (by omega)
        have e1 : (x - ((2 ^ 0 - 1 : Nat) : Int)) / 2 = x / 2 := by simp
        have e2 : (x + ((2 ^ 0 - 1 : Nat) : Int)) / 2 = x / 2 := by simp
        rw [e1, e2]
        have hw : wrap64 (x / 2) = x / 2 := wrap64_id (by omega) (by omega)
        clear hh hl hl0 e1 e2 h3 h1
        go_enter Tryz.func136, Tryz.ntmps136
        go_wp2_with fail
        refine (K).mono ?_
        rintro e w ⟨rfl, rfl⟩
        go_wp2
        go_ret2
        exact ⟨rfl, rfl⟩
      · have hroom := right_room hb h1
        have hk := nd_lt hb
        have hk2 : k + 1 < 63 := by
          rcases Nat.lt_or_ge (k + 1) 63 with h | h
          · exact h
          · have e1 : k + 1 = 63 := by omega
            have e2 := hk.2 e1
            rw [e1, e2] at h1
            exact absurd rfl h1
        have hq := two_pow_62 hk2
        have hs := span_room hb hk2
        have e := nd_odd k m
        have e2 := nd_eq k m
        have hpos := Nat.two_pow_pos k
        rw [hl2, Int.toNat_natCast, Nat.pow_succ]
        rw [Nat.pow_succ] at hq hs
        rw [hh] at K
        clear hh hl hl2 hk hk2
        generalize 2 ^ k * m = q at *
        generalize 2 ^ k = p at *
        generalize nd k m = Y at *
        generalize nd (k + 1) m = X at *
        obtain ⟨hc, eT, hwa, hwb, hwc, n0, t1, t2, t3, t4, hw1, hw2, hw3, hw4⟩ := span_arith X p q (by omega) hpos (by omega)
        rw [hc, eT]
        clear e e2 hc eT h3 h1 hroom hs hq hb
        go_enter Tryz.func136, Tryz.ntmps136
        go_wp2_with fail
        refine (K).mono ?_
        rintro e w ⟨rfl, rfl⟩
        go_wp2
        simp only [hw1, hw2, hw3, hw4]
        go_ret2
        exact ⟨rfl, rfl⟩
end Go.Proofs.YtpcpcgagiapinaaGreatDoor

/- Plain mathematics of a node and its children. -/
namespace Go.Proofs.YtpcpcgagiapinaaGreatDoor
open Go.RowKit
theorem family {k m d : Nat} (hd : d ≤ 30) (hk : k + 1 ≤ d) (hm : m < 2 ^ (d - (k + 1))) :
    let X : Int := (nd (k + 1) m : Nat); let L : Int := ((2 ^ d : Nat) : Int); let l : Int := (nd k (2 * m) : Nat); let r : Int := (nd k (2 * m + 1) : Nat)
    lfV X = l ∧ rtV X = r ∧ lfB X = true ∧ rtB X = true ∧ parB l L = true ∧ parB r L = true ∧ parV l L = X ∧ parV r L = X ∧ sibV l L = r ∧ sibV r L = l ∧
    lvl X = ((k + 1 : Nat) : Int) ∧ lvl l = (k : Nat) ∧ lvl r = (k : Nat) ∧ spF X = spF l ∧ spT l + 1 = spF r ∧ spT r = spT X ∧ wi l X = true ∧ wi r X = true ∧ wi X l = false ∧ 0 ≤ spT l ∧ spT l < 2147483647 ∧ nd (k + 1) m < 2147483647 ∧ nd k (2 * m) < 2147483647 ∧ nd k (2 * m + 1) < 2147483647 := by
  intro X L l r
  have hmm : m * 2 + 1 < 2 ^ (d - k) := by
    obtain ⟨c, hc⟩ : ∃ c, d - k = c + 1 := ⟨d - k - 1, by omega⟩
    have : d - (k + 1) = c := by omega
    rw [this] at hm
    rw [hc, Nat.pow_succ]; omega
  have hl2 : 2 * m < 2 ^ (d - k) := by omega
  have hr2 : 2 * m + 1 < 2 ^ (d - k) := by omega
  have bX := nd_small hd hk hm
  have bl := nd_small hd (show k ≤ d by omega) hl2
  have br := nd_small hd (show k ≤ d by omega) hr2
  have lX : lvl X = ((k + 1 : Nat) : Int) := lvl_nd (by omega)
  have ll : lvl l = (k : Nat) := lvl_nd (by omega)
  have lr : lvl r = (k : Nat) := lvl_nd (by omega)
  have eX := nd_mul (k + 1) m
  have el := nd_mul k (2 * m)
  have er := nd_mul k (2 * m + 1)
  have hp := Nat.two_pow_pos k
  have p1 : 2 ^ (k + 1) = 2 * 2 ^ k := by rw [Nat.pow_succ]; omega
  have p2 : 2 ^ (k + 1 + 1) = 4 * 2 ^ k := by rw [Nat.pow_succ, p1]; omega
  have q1 : 2 ^ (k + 1 + 1) * m = 4 * (2 ^ k * m) := by rw [p2, Nat.mul_assoc]
  have q2 : 2 ^ (k + 1) * (2 * m) = 4 * (2 ^ k * m) := by rw [p1, Nat.mul_mul_mul_comm]
  have q3 : 2 ^ (k + 1) * (2 * m + 1) = 4 * (2 ^ k * m) + 2 * 2 ^ k := by rw [Nat.mul_add, q2, Nat.mul_one, p1]
  have hX0 : 0 < lvl X := by rw [lX]; omega
  have hXm : X ≠ 9223372036854775807 := by show ((nd (k + 1) m : Nat) : Int) ≠ _; omega
  have hhf : hf X = ((2 ^ k : Nat) : Int) := by unfold hf; rw [if_pos hX0, lX, Int.toNat_natCast, Nat.add_sub_cancel]
  have vl : lfV X = l := by
    unfold lfV; rw [if_pos hX0, hhf]
    show ((nd (k + 1) m : Nat) : Int) - _ = ((nd k (2 * m) : Nat) : Int)
    rw [eX, el, q1, q2, p1]
    generalize 2 ^ k * m = A; generalize 2 ^ k = p at *; omega
  have vr : rtV X = r := by
    unfold rtV; rw [if_pos ⟨hX0, hXm⟩, hhf]
    show ((nd (k + 1) m : Nat) : Int) + _ = ((nd k (2 * m + 1) : Nat) : Int)
    rw [eX, er, q1, q3, p1]
    generalize 2 ^ k * m = A; generalize 2 ^ k = p at *; omega
  have al : abv l = X := by show abv ((nd k (2 * m) : Nat) : Int) = _; rw [abv_nd (by omega)]; congr 2; omega
  have ar : abv r = X := by show abv ((nd k (2 * m + 1) : Nat) : Int) = _; rw [abv_nd (by omega)]; congr 2; omega
  have hlX : l < X := by
    show ((nd k (2 * m) : Nat) : Int) < ((nd (k + 1) m : Nat) : Int)
    rw [eX, el, q1, q2, p1]
    generalize 2 ^ k * m = A; generalize 2 ^ k = p at *; omega
  have hrX : ¬ r < X := by
    show ¬ ((nd k (2 * m + 1) : Nat) : Int) < ((nd (k + 1) m : Nat) : Int)
    rw [eX, er, q1, q3, p1]
    generalize 2 ^ k * m = A; generalize 2 ^ k = p at *; omega
  have pl : parB l L = true := (parB_nd hd).2 ⟨by omega, hl2⟩
  have pr : parB r L = true := (parB_nd hd).2 ⟨by omega, hr2⟩
  have s0 : ∀ n : Nat, n < 2147483647 → ¬ (((n : Nat) : Int) < 0 ∨ ((n : Nat) : Int) = 9223372036854775807) := fun n hn => by omega
  have sX := s0 _ bX
  have sl := s0 _ bl
  have sr := s0 _ br
  refine ⟨vl, vr, decide_eq_true hX0, decide_eq_true ⟨hX0, hXm⟩, pl, pr, ?_, ?_, ?_, ?_, lX, ll, lr, ?_, ?_, ?_, ?_, ?_, ?_, ?_, ?_, bX, bl, br⟩
  · simp [parV, pl, al]
  · simp [parV, pr, ar]
  · simp only [sibV, pl, if_true, sb, al, hlX, vr]
  · simp only [sibV, pr, if_true, sb, ar, hrX, if_false, vl]
  · unfold spF; rw [if_neg sX, if_neg sl, lX, ll, Int.toNat_natCast, Int.toNat_natCast]
    show (((nd (k + 1) m : Nat) : Int) - _) / 2 = (((nd k (2 * m) : Nat) : Int) - _) / 2
    rw [eX, el, q1, q2, p1]
    generalize 2 ^ k * m = A; generalize 2 ^ k = p at *; omega
  · unfold spF spT; rw [if_neg sl, if_neg sr, ll, lr, Int.toNat_natCast]
    show (((nd k (2 * m) : Nat) : Int) + _) / 2 + 1 = (((nd k (2 * m + 1) : Nat) : Int) - _) / 2
    rw [el, er, q2, q3]
    generalize 2 ^ k * m = A; generalize 2 ^ k = p at *; omega
  · unfold spT; rw [if_neg sX, if_neg sr, lX, lr, Int.toNat_natCast, Int.toNat_natCast]
    show (((nd k (2 * m + 1) : Nat) : Int) + _) / 2 = (((nd (k + 1) m : Nat) : Int) + _) / 2
    rw [eX, er, q1, q3, p1]
    generalize 2 ^ k * m = A; generalize 2 ^ k = p at *; omega
  · refine (wi_iff (by omega)).2 ?_
    rw [el, q1, q2, p2]
    generalize 2 ^ k * m = A; generalize 2 ^ k = p at *; omega
  · refine (wi_iff (by omega)).2 ?_
    rw [er, q1, q3, p2]
    generalize 2 ^ k * m = A; generalize 2 ^ k = p at *; omega
  · cases e : wi X l
    · rfl
    · have := (wi_iff (by omega)).1 e
      rw [eX, q1, q2, p1] at this
      generalize 2 ^ k * m = A at *; generalize 2 ^ k = p at *; omega
  · unfold spT; rw [if_neg sl, ll, Int.toNat_natCast]
    generalize 2 ^ k = p at *; omega
  · unfold spT; rw [if_neg sl, ll, Int.toNat_natCast]
    rw [q2] at el
    rw [q3] at er
    generalize 2 ^ k * m = A at *; generalize 2 ^ k = p at *; omega
end Go.Proofs.YtpcpcgagiapinaaGreatDoor

/- Contracts of the document's own answers for layer 2: parents, siblings, and who is below whom. -/
namespace Go.Proofs.YtpcpcgagiapinaaGreatDoor
open Go.RowKit
theorem step_down {k m i q : Nat} (hb : nd (i + 1) q < 2147483647) (hk : k < i + 1) (hw : wi (nd k m : Nat) (nd (i + 1) q : Nat) = true) :
    (((nd k m : Nat) : Int) < (nd (i + 1) q : Nat) ∧ wi (nd k m : Nat) (nd i (2 * q) : Nat) = true) ∨ (¬ ((nd k m : Nat) : Int) < (nd (i + 1) q : Nat) ∧ wi (nd k m : Nat) (nd i (2 * q + 1) : Nat) = true) := by
  have hne : nd k m ≠ nd (i + 1) q := fun c => by have := nd_inj c; omega
  have hp := Nat.two_pow_pos i
  have eX := nd_mul (i + 1) q
  have el := nd_mul i (2 * q)
  have er := nd_mul i (2 * q + 1)
  have p1 : 2 ^ (i + 1) = 2 * 2 ^ i := by rw [Nat.pow_succ]; omega
  have p2 : 2 ^ (i + 1 + 1) = 4 * 2 ^ i := by rw [Nat.pow_succ, p1]; omega
  have q1 : 2 ^ (i + 1 + 1) * q = 4 * (2 ^ i * q) := by rw [p2, Nat.mul_assoc]
  have q2 : 2 ^ (i + 1) * (2 * q) = 4 * (2 ^ i * q) := by rw [p1, Nat.mul_mul_mul_comm]
  have q3 : 2 ^ (i + 1) * (2 * q + 1) = 4 * (2 ^ i * q) + 2 * 2 ^ i := by rw [Nat.mul_add, q2, Nat.mul_one, p1]
  rw [wi_iff (by omega), q1, p2] at hw
  rw [q1, p1] at eX
  rw [q2] at el
  rw [q3] at er
  have hl : nd i (2 * q) < 9223372036854775808 := by generalize 2 ^ i * q = A at *; generalize 2 ^ i = p at *; omega
  have hr : nd i (2 * q + 1) < 9223372036854775808 := by generalize 2 ^ i * q = A at *; generalize 2 ^ i = p at *; omega
  rw [wi_iff hl, wi_iff hr, q2, q3, p1]
  generalize 2 ^ i * q = A at *
  generalize 2 ^ i = p at *
  generalize nd k m = X at *
  generalize nd (i + 1) q = Z at *
  clear el er q1 q2 q3 p1 p2 hl hr
  omega
theorem wi_same {k m q : Nat} (hb : nd k q < 9223372036854775808) (h : wi (nd k m : Nat) (nd k q : Nat) = true) : m = q := by
  have := ((wi_shift hb).1 h).2
  rw [nd_div, nd_div] at this
  exact this
set_option maxRecDepth 100000 in
set_option maxHeartbeats 1000000 in
theorem rparent_any (x L : Int) (w : World) :
    Calls Tryz.prog 124 #[.int .i64 x, .int .i64 L] w fun e w' => e = .returned (.tuple #[.int .i64 (parV x L), .bool (parB x L)]) ∧ w' = w := by
  have K := rin_any x L w
  rcases parB_cases x L with ⟨e1, e2⟩ | ⟨e1, e3, e2, e4⟩ | ⟨e1, e3, e2, e4⟩
  · rw [e1] at K
    simp only [parV, e2]
    clear e1 e2
    go_enter Tryz.func124, Tryz.ntmps124
    go_wp2_with fail
    refine (K).mono ?_
    rintro e w ⟨rfl, rfl⟩
    go_wp2
    go_ret2
    exact ⟨rfl, rfl⟩
  · rw [e1] at K
    have hT : isT L = true := by unfold inn at e1; cases h : isT L <;> simp_all
    have hb := isT_bounds hT
    have hw : wrap64 (L - 1) = L - 1 := wrap64_id (by omega) (by omega)
    simp only [parV, e2]
    subst e3
    clear e1 e2 e4 hT
    go_enter Tryz.func124, Tryz.ntmps124
    go_wp2_with fail
    refine (K).mono ?_
    rintro e w ⟨rfl, rfl⟩
    go_wp2
    go_ret2
    exact ⟨rfl, rfl⟩
  · rw [e1] at K
    have hT : isT L = true := by unfold inn at e1; cases h : isT L <;> simp_all
    have hb := isT_bounds hT
    have hw : wrap64 (L - 1) = L - 1 := wrap64_id (by omega) (by omega)
    have hwr := wi_root e1
    obtain ⟨d, k, m, hd, hL, rfl, hk, hm, hbx⟩ := parB_open e2
    have hroot := root_nd d
    rw [← hL] at hroot
    simp only [parV, e2, if_true]
    have HA := hide (abv_nd (show nd k m < 9223372036854775808 by omega))
    have e5 : (((nd k m : Nat) : Int) == L - 1) = false := by simpa using e3
    obtain ⟨A, hA⟩ : ∃ A, A = abv (nd k m : Nat) := ⟨_, rfl⟩
    rw [← hA]
    have HA2 := hide (hA.trans (unhide HA))
    have HW := hide (And.intro hL (And.intro hwr hroot))
    clear e1 e2 e3 e4 hT HA hA hL hwr hroot
    obtain ⟨X, hX⟩ : ∃ X, X = nd k m := ⟨_, rfl⟩
    rw [← hX] at K e5 hbx ⊢
    have HX := hide hX
    clear hX
    go_enter Tryz.func124, Tryz.ntmps124
    go_wp2_with fail
    refine (K).mono ?_
    rintro e w ⟨rfl, rfl⟩
    go_wp2_with fail
    go_loopw [6] (fun pv wr => ∃ (i q P : Nat), i + 1 ≤ d ∧ q < 2 ^ (d - (i + 1)) ∧ k < i + 1 ∧ Hid (P = nd (i + 1) q) ∧ pv = .int .i64 P ∧ Hid (wi (nd k m : Nat) (nd (i + 1) q : Nat) = true) ∧ wr = w) (fun pv _ => (lvl (intOf pv)).toNat)
    case atStart =>
      obtain ⟨d', rfl⟩ : ∃ d', d = d' + 1 := ⟨d - 1, by omega⟩
      refine ⟨d', 0, nd (d' + 1) 0, Nat.le_refl _, by simp, by omega, rfl, ?_, ?_, rfl⟩
      · rw [(unhide HW).2.2]
      · unfold Hid; rw [← (unhide HW).2.2]; exact (unhide HW).2.1
    case round =>
      obtain ⟨i, q, P, hi, hq, hki, hP, rfl, hwi, rfl⟩ := hrel
      obtain ⟨f1, f2, f3, f4, _, _, _, _, _, _, _, _, _, _, _, _, _, _, _, _, _, f22, f23, f24⟩ := family hd hi hq
      have hs := step_down f22 hki (unhide hwi)
      have hP' := unhide hP
      have G1 := rleft_any (P : Int) wr (by rw [hP']; omega)
      have G2 := rright_any (P : Int) wr (by rw [hP']; omega)
      rw [hP'] at G1 G2
      rw [f1, f3] at G1
      rw [f2, f4] at G2
      rw [← hP'] at G1 G2
      obtain ⟨l, hl⟩ : ∃ l, l = nd i (2 * q) := ⟨_, rfl⟩
      obtain ⟨r, hr⟩ : ∃ r, r = nd i (2 * q + 1) := ⟨_, rfl⟩
      rw [← hl] at G1
      rw [← hr] at G2
      have HLR := hide (And.intro hl (And.intro hr (And.intro f22 (And.intro f23 f24))))
      have HS := hide hs
      have hlv : lvl (P : Int) = ((i + 1 : Nat) : Int) := by rw [hP']; exact lvl_nd (by omega)
      have HV := hide hlv
      clear f1 f2 f3 f4 hs hP' hl hr hlv f22 f23 f24
      have hql : 2 * q < 2 ^ (d - i) ∧ 2 * q + 1 < 2 ^ (d - i) := by
        have e : d - i = d - (i + 1) + 1 := by omega
        rw [e, Nat.pow_succ]; omega
      by_cases hxl : X = l ∨ X = r
      · have hAP : A = (P : Int) := by
          have hh := unhide HLR
          rw [unhide HA2, unhide hP]
          rw [unhide HX, hh.1, hh.2.1] at hxl
          rcases hxl with h | h
          · obtain ⟨rfl, rfl⟩ := nd_inj h
            congr 2; omega
          · obtain ⟨rfl, rfl⟩ := nd_inj h
            congr 2; omega
        have HAP := hide hAP
        clear hAP
        rcases hxl with h | h
        · subst h
          go_wp2_with fail
          refine (G1).mono ?_
          rintro e wr ⟨rfl, rfl⟩
          go_wp2_with fail
          refine (G2).mono ?_
          rintro e wr ⟨rfl, rfl⟩
          go_wp2
          go_ret2
          rw [unhide HAP]
          exact ⟨rfl, rfl⟩
        · by_cases h2 : X = l
          · subst h2
            go_wp2_with fail
            refine (G1).mono ?_
            rintro e wr ⟨rfl, rfl⟩
            go_wp2_with fail
            refine (G2).mono ?_
            rintro e wr ⟨rfl, rfl⟩
            go_wp2
            go_ret2
            rw [unhide HAP]
            exact ⟨rfl, rfl⟩
          · subst h
            have n1 : ((l : Int) == (X : Int)) = false := by rw [beq_eq_false_iff_ne]; omega
            have h2' := hide h2
            clear h2
            go_wp2_with fail
            refine (G1).mono ?_
            rintro e wr ⟨rfl, rfl⟩
            go_wp2_with fail
            refine (G2).mono ?_
            rintro e wr ⟨rfl, rfl⟩
            go_wp2
            go_ret2
            rw [unhide HAP]
            exact ⟨rfl, rfl⟩
      · have n1 : ((l : Int) == (X : Int)) = false := by rw [beq_eq_false_iff_ne]; omega
        have n2 : ((r : Int) == (X : Int)) = false := by rw [beq_eq_false_iff_ne]; omega
        have HN := hide hxl
        clear hxl
        have hup : ∀ u, wi (nd k m : Nat) (nd i u : Nat) = true → nd i u < 9223372036854775808 → X ≠ nd i u → ∃ i', i = i' + 1 ∧ k < i' + 1 := by
          intro u hu hbu hne
          have h1 := ((wi_shift hbu).1 hu).1
          rcases Nat.lt_or_eq_of_le h1 with h | h
          · exact ⟨i - 1, by omega, by omega⟩
          · subst h
            have := wi_same hbu hu
            exact absurd (by rw [unhide HX, this]) hne
        by_cases hlt : (X : Int) < (P : Int)
        · have hwl : wi (nd k m : Nat) (nd i (2 * q) : Nat) = true := by
            rcases unhide HS with h | h
            · exact h.2
            · rw [← unhide HX, ← unhide hP] at h; exact absurd hlt h.1
          obtain ⟨i', hi', hk'⟩ := hup _ hwl (by have := (unhide HLR).2.2.2.1; omega) (by have := unhide HN; rw [← (unhide HLR).1]; omega)
          clear hup
          have HW2 := hide (And.intro hwl hi')
          clear hwl hi'
          go_wp2_with fail
          refine (G1).mono ?_
          rintro e wr ⟨rfl, rfl⟩
          go_wp2_with fail
          refine (G2).mono ?_
          rintro e wr ⟨rfl, rfl⟩
          go_wp2_with fail
          go_roundw
          case rel =>
            obtain ⟨h1, rfl⟩ := unhide HW2
            exact ⟨i', 2 * q, l, by omega, hql.1, hk', (unhide HLR).1, rfl, h1, trivial⟩
          case measure =>
            simp only [intOf]
            rw [unhide HV, (unhide HLR).1, lvl_nd (by have := (unhide HLR).2.2.2.1; omega)]
            omega
        · have hwl : wi (nd k m : Nat) (nd i (2 * q + 1) : Nat) = true := by
            rcases unhide HS with h | h
            · rw [← unhide HX, ← unhide hP] at h; exact absurd h.1 hlt
            · exact h.2
          obtain ⟨i', hi', hk'⟩ := hup _ hwl (by have := (unhide HLR).2.2.2.2; omega) (by have := unhide HN; rw [← (unhide HLR).2.1]; omega)
          clear hup
          have HW2 := hide (And.intro hwl hi')
          clear hwl hi'
          go_wp2_with fail
          refine (G1).mono ?_
          rintro e wr ⟨rfl, rfl⟩
          go_wp2_with fail
          refine (G2).mono ?_
          rintro e wr ⟨rfl, rfl⟩
          go_wp2_with fail
          go_roundw
          case rel =>
            obtain ⟨h1, rfl⟩ := unhide HW2
            exact ⟨i', 2 * q + 1, r, by omega, hql.2, hk', (unhide HLR).2.1, rfl, h1, trivial⟩
          case measure =>
            simp only [intOf]
            rw [unhide HV, (unhide HLR).2.1, lvl_nd (by have := (unhide HLR).2.2.2.2; omega)]
            omega
end Go.Proofs.YtpcpcgagiapinaaGreatDoor
