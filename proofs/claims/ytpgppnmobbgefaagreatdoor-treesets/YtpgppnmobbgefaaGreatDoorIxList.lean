/- Contracts of Direct, Copath and Common of package index. -/
import Derived.Test.YtpgppnmobbgefaaGreatDoorBaQ
namespace Go.Proofs.YtpgppnmobbgefaaGreatDoor
open Go.RowKit

/-- The nodes above, with so many steps at most. -/
def dirF : Nat → Int → Int → List Int
  | 0, _, _ => []
  | f + 1, x, L => if parB x L = true then abv x :: dirF f (abv x) L else []
def copF : Nat → Int → Int → List Int
  | 0, _, _ => []
  | f + 1, x, L => if parB x L = true then sb x :: copF f (abv x) L else []
def dir (x L : Int) : List Int := dirF 31 x L
def cop (x L : Int) : List Int := copF 31 x L

/-- So many steps are left, and are enough. -/
def Room (f : Nat) (x L : Int) : Prop := parB x L = true → ∃ k m : Nat, x = (nd k m : Nat) ∧ 31 ≤ k + f
theorem room_start (x L : Int) : Room 31 x L := fun h => by
  obtain ⟨d, k, m, _, _, e, _⟩ := parB_open h
  exact ⟨k, m, e, by omega⟩
theorem room_next {f : Nat} {x L : Int} (h : Room f x L) (hp : parB x L = true) : ∃ g, f = g + 1 ∧ Room g (abv x) L ∧ lvl (abv x) = lvl x + 1 ∧ 0 ≤ lvl x ∧ lvl x < 30 ∧ abv x ≤ 2147483647 := by
  obtain ⟨d, k, m, hd, _, e, hk, hm, hb⟩ := parB_open hp
  obtain ⟨k', m', e', hf⟩ := h hp
  rw [e] at e'
  obtain ⟨rfl, rfl⟩ := nd_inj (Int.ofNat.inj e')
  have ha := abv_parent hd hk hm
  subst e
  rw [abv_nd (by omega), lvl_nd (by omega), lvl_nd (by omega)]
  refine ⟨f - 1, by omega, fun _ => ⟨k + 1, m / 2, rfl, by omega⟩, by omega, by omega, by omega, by omega⟩

def stepsLeft (p o : Value) : Nat := match o with
  | .bool true => (64 - lvl (intOf p)).toNat
  | _ => 0

theorem steps_down {y A L : Int} {g : Nat} (h : lvl A = lvl y + 1 ∧ 0 ≤ lvl y ∧ lvl y < 30) (hr : Room g A L) : stepsLeft (.int .i64 (parV A L)) (.bool (parB A L)) < stepsLeft (.int .i64 A) (.bool true) := by
  cases hp : parB A L
  · simp only [stepsLeft, intOf]; omega
  · obtain ⟨_, _, _, h1, _⟩ := room_next hr hp
    simp only [stepsLeft, intOf, parV, hp, if_true]; omega
theorem steps_down' {y A : Int} {o : Bool} (h : lvl A = lvl y + 1 ∧ 0 ≤ lvl y ∧ lvl y < 30) : stepsLeft (.int .i64 A) (.bool o) < stepsLeft (.int .i64 y) (.bool true) := by
  cases o
  · simp only [stepsLeft, intOf]; omega
  · simp only [stepsLeft, intOf]; omega
theorem aboveI_any (y L : Int) (w : World) (hp : parB y L = true) (hT : Tab w) :
    Calls Tryz.prog 286 #[.int .i64 y] w fun e w' => e = .returned (.int .i64 (abv y)) ∧ w' = w := by
  obtain ⟨d, k, m, hd, hL, rfl, hk, hm, hb⟩ := parB_open hp
  rw [abv_nd (by omega)]
  exact above_any k m w (by omega) (by omega) hT

theorem copF_len (f : Nat) (x L : Int) : (copF f x L).length = (dirF f x L).length := by
  induction f generalizing x with
  | zero => rfl
  | succ f ih => unfold copF dirF; split <;> simp [ih]

set_option maxRecDepth 100000 in
set_option maxHeartbeats 1000000 in
theorem direct_any (x L : Int) (w : World) (hT : Tab w) :
    Calls Tryz.prog 255 #[.int .i64 x, .int .i64 L] w fun e w' => ∃ v, e = .returned v ∧ Ints w.heap.size w' v (dir x L) ∧ Below w.heap.size w w' := by
  obtain ⟨i0, hi, hz0, hz1, hz2⟩ := info_parts Tryz.infoInt
  have K := parent_any x L w hT
  go_enter Tryz.func255, Tryz.ntmps255
  go_wp2_with fail
  refine K.mono ?_
  rintro e w ⟨rfl, rfl⟩
  go_wp2_with fail
  go_loopw [5, 6, 7] (fun sv pv ov wr => ∃ (f : Nat) (y : Int) (cur : List Int), Room f y L ∧ pv = .int .i64 (parV y L) ∧ ov = .bool (parB y L) ∧ cur.length + f ≤ 31 ∧ Hid (cur ++ dirF f y L = dir x L) ∧ Ints w.heap.size wr sv cur ∧ Below w.heap.size w wr) (fun _ pv ov _ => stepsLeft pv ov)
  case atStart => exact ⟨31, x, [], room_start x L, rfl, rfl, by simp, by simp [Hid, dir], ints_nil _ _, Below.refl _ _⟩
  case round =>
    obtain ⟨f, y, cur, hr, rfl, rfl, hlen, hdn, hown, hbel⟩ := hrel
    have hsz := hbel.size
    cases hp : parB y L
    · have hd : cur = dir x L := by
        rw [← unhide hdn]
        cases f <;> simp [dirF, hp]
      rw [hd] at hown
      clear hdn hd hr
      go_wp2_with fail
      go_ret
      exact ⟨_, rfl, hown, hbel⟩
    · obtain ⟨g, rfl, hr', hl1, hl2, hl3, _⟩ := room_next hr hp
      have hpv : parV y L = abv y := by simp [parV, hp]
      rw [hpv]
      have K1 := fun wr hb => parent_any (abv y) L wr (hT.bw hb)
      have HL := hide (And.intro hl1 (And.intro hl2 hl3))
      have hdn' : Hid ((cur ++ [abv y]) ++ dirF g (abv y) L = dir x L) := by
        unfold Hid; rw [← unhide hdn]; simp [dirF, hp]
      clear hl1 hl2 hl3 hdn hr hpv
      generalize abv y = A at *
      go_wp2_with (at_builtin; refine wpList_append_own _ rfl (.tmp 21) (.tmp 23) 31 rfl w.heap.size 3 i0 (.int .i64 0) 1 8 Tryz.underlying31 hi hz0 hz1 hz2 rfl (by decide) _ cur.length _ rfl (World.ownsRow.alloc hown _) ⟨wr.heap.size, 0, none⟩ 1 1 [_] rfl rfl (cell_one_new _ _ _) ?c2 ?c3 ?c4 ?c5 ?nx)
      case c2 => intro u hu; simp at hu; subst hu; rfl
      case c3 => unfold maxLen; omega
      case c4 => omega
      case c5 => simp; omega
      case nx =>
        intro v' w1 hown' hgrow _
        obtain ⟨R1, R2⟩ := ints_snoc A hbel hown hown' hgrow
        clear hown' hgrow
        have K2 := K1 w1 R2
        clear K1
        go_wp2_with fail
        refine K2.mono ?_
        rintro e w1 ⟨rfl, rfl⟩
        go_wp2_with fail
        go_roundw
        case rel => exact ⟨g, A, cur ++ [A], hr', rfl, rfl, by simp; omega, hdn', R1, R2⟩
        case measure => exact steps_down (unhide HL) hr'

set_option maxRecDepth 100000 in
set_option maxHeartbeats 1000000 in
theorem copath_any (x L : Int) (w : World) (hT : Tab w) :
    Calls Tryz.prog 264 #[.int .i64 x, .int .i64 L] w fun e w' => ∃ v, e = .returned v ∧ Ints w.heap.size w' v (cop x L) ∧ Below w.heap.size w w' := by
  obtain ⟨i0, hi, hz0, hz1, hz2⟩ := info_parts Tryz.infoInt
  have K := sibling_any x L w hT
  go_enter Tryz.func264, Tryz.ntmps264
  go_wp2_with fail
  refine K.mono ?_
  rintro e w ⟨rfl, rfl⟩
  go_wp2_with fail
  go_loopw [0, 5, 6, 7] (fun xv sv pv ov wr => ∃ (f : Nat) (y : Int) (cur : List Int), Room f y L ∧ xv = .int .i64 y ∧ pv = .int .i64 (sibV y L) ∧ ov = .bool (parB y L) ∧ cur.length + f ≤ 31 ∧ Hid (cur ++ copF f y L = cop x L) ∧ Ints w.heap.size wr sv cur ∧ Below w.heap.size w wr) (fun xv _ _ ov _ => stepsLeft xv ov)
  case atStart => exact ⟨31, x, [], room_start x L, rfl, rfl, rfl, by simp, by simp [Hid, cop], ints_nil _ _, Below.refl _ _⟩
  case round =>
    obtain ⟨f, y, cur, hr, rfl, rfl, rfl, hlen, hdn, hown, hbel⟩ := hrel
    have hsz := hbel.size
    cases hp : parB y L
    · have hd : cur = cop x L := by
        rw [← unhide hdn]
        cases f <;> simp [copF, hp]
      rw [hd] at hown
      clear hdn hd hr
      go_wp2_with fail
      go_ret
      exact ⟨_, rfl, hown, hbel⟩
    · obtain ⟨g, rfl, hr', hl1, hl2, hl3, _⟩ := room_next hr hp
      have hpv : sibV y L = sb y := by simp [sibV, hp]
      rw [hpv]
      have K0 := fun wr hb => aboveI_any y L wr hp (hT.bw hb)
      have K1 := fun wr hb => sibling_any (abv y) L wr (hT.bw hb)
      have HL := hide (And.intro hl1 (And.intro hl2 hl3))
      have hdn' : Hid ((cur ++ [sb y]) ++ copF g (abv y) L = cop x L) := by
        unfold Hid; rw [← unhide hdn]; simp [copF, hp]
      clear hl1 hl2 hl3 hdn hr hpv hp
      generalize sb y = S at *
      generalize abv y = A at *
      go_wp2_with (at_builtin; refine wpList_append_own _ rfl (.tmp 21) (.tmp 23) 31 rfl w.heap.size 3 i0 (.int .i64 0) 1 8 Tryz.underlying31 hi hz0 hz1 hz2 rfl (by decide) _ cur.length _ rfl (World.ownsRow.alloc hown _) ⟨wr.heap.size, 0, none⟩ 1 1 [_] rfl rfl (cell_one_new _ _ _) ?c2 ?c3 ?c4 ?c5 ?nx)
      case c2 => intro u hu; simp at hu; subst hu; rfl
      case c3 => unfold maxLen; omega
      case c4 => omega
      case c5 => simp; omega
      case nx =>
        intro v' w1 hown' hgrow _
        obtain ⟨R1, R2⟩ := ints_snoc S hbel hown hown' hgrow
        clear hown' hgrow
        have K2 := K1 w1 R2
        have K3 := K0 w1 R2
        clear K1 K0
        go_wp2_with fail
        refine K3.mono ?_
        rintro e w1 ⟨rfl, rfl⟩
        go_wp2_with fail
        refine K2.mono ?_
        rintro e w1 ⟨rfl, rfl⟩
        go_wp2_with fail
        go_roundw
        case rel => exact ⟨g, A, cur ++ [S], hr', rfl, rfl, rfl, by simp; omega, hdn', R1, R2⟩
        case measure => exact steps_down' (unhide HL)

/-- The nearest node that is a, or above it, and has b. -/
def comF : Nat → Int → Int → Int
  | 0, a, _ => a
  | f + 1, a, b => if wi b a = true then a else comF f (abv a) b
def com (a b L : Int) : Int := if inn a L = true ∧ inn b L = true then comF 31 a b else -1

theorem inn_open {x L : Int} (h : inn x L = true) : ∃ d k m : Nat, d ≤ 30 ∧ L = ((2 ^ d : Nat) : Int) ∧ x = (nd k m : Nat) ∧ k ≤ d ∧ m < 2 ^ (d - k) ∧ nd k m < 2147483647 := by
  have ht : isT L = true := by unfold inn at h; cases h : isT L <;> simp_all
  have h0 : 0 ≤ x := by simp [inn] at h; omega
  obtain ⟨d, hd, rfl⟩ := isT_iff.1 ht
  obtain ⟨n, rfl⟩ : ∃ n : Nat, x = n := ⟨x.toNat, by omega⟩
  obtain ⟨k, m, rfl⟩ := exists_nd n
  obtain ⟨h1, h2⟩ := (inn_nd hd).1 h
  exact ⟨d, k, m, hd, rfl, rfl, h1, h2, nd_small hd h1 h2⟩
/-- All nodes are below the root. -/
theorem wi_root {b L : Int} (hb : inn b L = true) : wi b (L - 1) = true := by
  obtain ⟨d, k, m, hd, rfl, rfl, hk, hm, hl⟩ := inn_open hb
  rw [root_nd, wi_iff (by have := nd_small hd (Nat.le_refl d) (show 0 < 2 ^ (d - d) by simp); omega)]
  simp only [inn, Bool.and_eq_true, decide_eq_true_eq] at hb
  rw [Nat.pow_succ]
  generalize 2 ^ d = D at *
  omega
theorem par_of_not_wi {a b L : Int} (ha : inn a L = true) (hb : inn b L = true) (h : wi b a = false) : parB a L = true := by
  unfold parB
  rw [ha, Bool.true_and, decide_eq_true_eq]
  rintro rfl
  rw [wi_root hb] at h
  cases h
theorem inn_abv {x L : Int} (h : parB x L = true) : inn (abv x) L = true := by
  obtain ⟨d, k, m, hd, rfl, rfl, hk, hm, hl⟩ := parB_open h
  rw [abv_nd (by omega), inn_nd hd]
  exact ⟨by omega, (abv_parent hd hk hm).2⟩

end Go.Proofs.YtpgppnmobbgefaaGreatDoor
