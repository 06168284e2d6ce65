/- Texts joined: IxMem IxSame IxList TrPure IxRef IxRefB IxKin IxRefC. -/
import Derived.Test.YtnfhbmlmemifjaaGreatDoorZ01
import Derived.Maps.AppendAt
import Derived.Laws.OwnMore
import Derived.BigQuiet
/- Rows of numbers in memory, and the word for 'only new blocks'. -/
namespace Go.Proofs.YtnfhbmlmemifjaaGreatDoor
open Go.RowKit
def I64 (z : Int) : Value := .int .i64 z
def Ints (B : Nat) (w : World) (v : Value) (l : List Int) : Prop := w.ownsRow B 3 1 v l.length (l.map I64)
def Nums (w : World) (v : Value) (l : List Int) : Prop :=
  (l = [] ∧ ∃ a c, v = .slice a 0 c ∧ (a = none → c = 0)) ∨ ∃ g o cap, v = .slice (some ⟨g, o, none⟩) l.length cap ∧ l.length ≤ cap ∧ cap ≤ maxLen ∧ ∀ j z, l[j]? = some z → w.cell? ⟨g, o + j, none⟩ = some (I64 z)
theorem bw_mono {B B' : Nat} {w w' : World} (h : Below B' w w') (hB : B ≤ B') : Below B w w' := ⟨h.os, h.tape, h.output, h.size, fun k hk => h.block k (by omega)⟩
theorem bw_tr {w w1 w2 : World} (h : Below w.heap.size w w1) (k : Below w1.heap.size w1 w2) : Below w.heap.size w w2 := h.trans (bw_mono k h.size)
theorem Tab.pos {w : World} (h : Tab w) : 0 < w.heap.size := by
  have := h 0 (by decide)
  rcases Nat.eq_zero_or_pos w.heap.size with h0 | h0
  · have e : w.heap = #[] := Array.eq_empty_of_size_eq_zero h0
    simp [World.cell?, e] at this
  · exact h0
theorem Tab.bw {w w' : World} (h : Tab w) (hb : Below w.heap.size w w') : Tab w' := fun j hj => by
  rw [hb.cell (p := ⟨0, j, none⟩) h.pos]; exact h j hj
theorem Ints.bw {B : Nat} {w w' : World} {v : Value} {l : List Int} (h : Ints B w v l) (hb : Below w.heap.size w w') : Ints B w' v l := by
  refine ⟨h.1, ?_⟩
  rcases h.2 with h2 | ⟨g, cap, cur, rfl, h0, hg, r⟩
  · exact Or.inl h2
  · refine Or.inr ⟨g, cap, cur, rfl, h0, ?_, r⟩
    rw [hb.block g]
    · exact hg
    · rcases Nat.lt_or_ge g w.heap.size with h1 | h1
      · exact h1
      · rw [Array.getElem?_eq_none h1] at hg; cases hg
theorem Nums.bw {w w' : World} {v : Value} {l : List Int} (h : Nums w v l) (hb : Below w.heap.size w w') : Nums w' v l := by
  rcases h with h | ⟨g, o, cap, hv, h1, h2, hc⟩
  · exact Or.inl h
  · refine Or.inr ⟨g, o, cap, hv, h1, h2, fun j z hj => ?_⟩
    have := hc j z hj
    rw [hb.cell (p := ⟨g, o + j, none⟩)]
    · exact this
    · rcases Nat.lt_or_ge g w.heap.size with h1 | h1
      · exact h1
      · simp [World.cell?, Array.getElem?_eq_none h1] at this
theorem Ints.nums {B : Nat} {w : World} {v : Value} {l : List Int} (h : Ints B w v l) : Nums w v l := by
  rcases h.2 with ⟨rfl, h2⟩ | ⟨g, cap, cur, rfl, h0, hg, h3, h4, h5, h6⟩
  · exact Or.inl ⟨List.length_eq_zero_iff.1 h2, none, 0, rfl, fun _ => rfl⟩
  · refine Or.inr ⟨g, 0, cap, rfl, h3, h4, fun j z hj => ?_⟩
    have := World.ownsRow.cells h (g := g) rfl j (I64 z) (by simp [hj])
    cases j <;> simpa [Addr.add] using this
theorem Tryz.infoInt : (Tryz.prog.info? 3).map (fun i => (i.zero, i.size, i.bytes)) = some (some (.int .i64 0), 1, 8) := by kernel_rfl
theorem ints_nil (B : Nat) (w : World) : Ints B w (.slice none 0 0) [] := World.ownsRow_nil _ _ _ _
theorem ints_snoc {w wr w1 : World} {lv v' : Value} {cur : List Int} {o : Obj} (c : Int) (hb : Below w.heap.size w wr) (hown : Ints w.heap.size wr lv cur) (hown' : w1.ownsRow w.heap.size 3 1 v' (cur.length + 1) (cur.map I64 ++ [.int .i64 c]))
    (hg : (wr.alloc o).grownBy w1 lv.ownBlock) : Ints w.heap.size w1 v' (cur ++ [c]) ∧ Below w.heap.size w w1 := by
  refine ⟨by simpa [Ints, I64] using hown', (hb.alloc hb.size o).grown hg (by have := hb.size; simp; omega) (fun k hk => (World.ownsRow.lt hown k hk).1)⟩
end Go.Proofs.YtnfhbmlmemifjaaGreatDoor

/- The contract of SameNumbers: are two rows of numbers the same? -/
namespace Go.Proofs.YtnfhbmlmemifjaaGreatDoor
open Go.RowKit
theorem Nums.form {w : World} {v : Value} {l : List Int} (h : Nums w v l) : (∃ p cap, v = .slice p l.length cap) ∧ l.length ≤ maxLen := by
  rcases h with ⟨rfl, a, c, rfl, _⟩ | ⟨g, o, cap, rfl, h1, h2, _⟩
  · exact ⟨⟨a, c, rfl⟩, Nat.zero_le _⟩
  · exact ⟨⟨_, cap, rfl⟩, by omega⟩
theorem Nums.open {w : World} {v : Value} {l : List Int} (h : Nums w v l) (hl : 0 < l.length) : ∃ g o cap, v = .slice (some ⟨g, o, none⟩) l.length cap ∧ ∀ j z, l[j]? = some z → w.cell? ⟨g, o + j, none⟩ = some (.int .i64 z) := by
  rcases h with ⟨rfl, a, c, rfl, _⟩ | ⟨g, o, cap, rfl, h1, h2, h3⟩
  · simp at hl
  · exact ⟨g, o, cap, rfl, h3⟩
set_option maxHeartbeats 1000000 in
theorem same_any (va vb : Value) (la lb : List Int) (w : World) (ha : Nums w va la) (hb : Nums w vb lb) :
    Calls Tryz.prog 19 #[va, vb] w fun e w' => e = .returned (.bool (decide (la = lb))) ∧ Below w.heap.size w w' := by
  by_cases hl : la.length = lb.length
  · by_cases h0 : la.length = 0
    · obtain ⟨⟨p, cap, rfl⟩, _⟩ := ha.form
      obtain ⟨⟨p', cap', rfl⟩, _⟩ := hb.form
      have e1 : la = [] := List.length_eq_zero_iff.1 h0
      have e2 : lb = [] := List.length_eq_zero_iff.1 (by omega)
      subst e1; subst e2
      clear ha hb h0 hl
      go_enter Tryz.func19, Tryz.ntmps19
      go_wp2_with fail
      go_loopw [13] (fun iv wr => iv = .int .i64 0 ∧ wr = w) (fun _ _ => 0)
      case atStart => exact ⟨rfl, rfl⟩
      case round =>
        obtain ⟨rfl, rfl⟩ := hrel
        go_wp2
        go_ret
        exact ⟨rfl, Below.refl _ _⟩
    · have hm := ha.form.2
      unfold maxLen at hm
      obtain ⟨g, o, cap, rfl, hA⟩ := ha.open (by omega)
      obtain ⟨g', o', cap', rfl, hB⟩ := hb.open (by omega)
      rw [← hl]
      obtain ⟨n, hn⟩ : ∃ n, n = la.length := ⟨_, rfl⟩
      rw [← hn]
      have HA := hide (And.intro hn (hn.trans hl))
      have HB : ∀ wr, Below w.heap.size w wr → ∀ i, i < n → ∃ a b, la[i]? = some a ∧ lb[i]? = some b ∧ wr.cell? ⟨g, o + i, none⟩ = some (.int .i64 a) ∧ wr.cell? ⟨g', o' + i, none⟩ = some (.int .i64 b) := by
        intro wr hbel i hi
        obtain ⟨a, h1⟩ : ∃ a, la[i]? = some a := ⟨_, List.getElem?_eq_getElem (by omega)⟩
        obtain ⟨b, h2⟩ : ∃ b, lb[i]? = some b := ⟨_, List.getElem?_eq_getElem (by omega)⟩
        refine ⟨a, b, h1, h2, ?_, ?_⟩
        · have := hA i a h1
          rw [hbel.cell (p := ⟨g, o + i, none⟩)]
          · exact this
          · rcases Nat.lt_or_ge g w.heap.size with h1 | h1
            · exact h1
            · simp [World.cell?, Array.getElem?_eq_none h1] at this
        · have := hB i b h2
          rw [hbel.cell (p := ⟨g', o' + i, none⟩)]
          · exact this
          · rcases Nat.lt_or_ge g' w.heap.size with h1 | h1
            · exact h1
            · simp [World.cell?, Array.getElem?_eq_none h1] at this
      have hn0 : 0 < n := by omega
      have hnm : n ≤ 9223372036854775807 := by omega
      clear ha hb hA hB hl hm hn h0
      go_enter Tryz.func19, Tryz.ntmps19
      go_wp2_with fail
      go_loopw [13] (fun iv wr => ∃ i : Nat, iv = .int .i64 i ∧ i ≤ n ∧ Hid (la.take i = lb.take i) ∧ Below w.heap.size w wr) (fun iv _ => (n - (intOf iv)).toNat)
      case atStart => exact ⟨0, rfl, by omega, by simp [Hid], Below.refl _ _⟩
      case round =>
        obtain ⟨i, rfl, hi, hp, hbel⟩ := hrel
        by_cases hin : i < n
        · obtain ⟨a, b, h1, h2, c1, c2⟩ := HB wr hbel i hin
          have H12 := hide (And.intro h1 h2)
          clear h1 h2
          have hi1 : (i : Int) < (n : Int) := by omega
          have hi2 : (0 : Int) ≤ (i : Int) := by omega
          by_cases hab : a = b
          · subst hab
            go_wp2_with fail
            go_quiet (fail)
            go_wp2_with fail
            go_roundw
            case rel =>
              refine ⟨i + 1, by go_num, by omega, ?_, below_drewN hbel _⟩
              unfold Hid
              rw [List.take_add_one, List.take_add_one, unhide hp, (unhide H12).1, (unhide H12).2]
            case measure => simp [intOf]; omega
          · have hab' : (a == b) = false := by simpa using hab
            have hab2 : (a != b) = true := by simpa using hab
            go_wp2_with fail
            go_quiet (fail)
            go_wp2_with fail
            go_ret
            have hd : decide (la = lb) = false := decide_eq_false (by
              rintro rfl
              have := (unhide H12).1.symm.trans (unhide H12).2
              exact hab (Option.some.inj this))
            rw [hd]
            exact ⟨rfl, below_drewN hbel _⟩
        · have hie : i = n := by omega
          subst hie
          go_wp2_with fail
          go_ret
          have hd : decide (la = lb) = true := decide_eq_true (by
            have := unhide hp
            rw [List.take_of_length_le (by have := (unhide HA).1; omega), List.take_of_length_le (by have := (unhide HA).2; omega)] at this
            exact this)
          rw [hd]
          exact ⟨rfl, hbel⟩
  · obtain ⟨⟨p, cap, rfl⟩, hm1⟩ := ha.form
    obtain ⟨⟨p', cap', rfl⟩, hm2⟩ := hb.form
    have hd : decide (la = lb) = false := decide_eq_false (fun c => hl (by rw [c]))
    rw [hd]
    generalize la.length = n at *
    generalize lb.length = n' at *
    have hd1 : ((n : Int) == (n' : Int)) = false := by rw [beq_eq_false_iff_ne]; omega
    have hd2 : ((n : Int) != (n' : Int)) = true := by rw [bne_iff_ne]; omega
    clear ha hb hd
    go_enter Tryz.func19, Tryz.ntmps19
    go_wp2
    go_ret
    exact ⟨rfl, Below.refl _ _⟩
end Go.Proofs.YtnfhbmlmemifjaaGreatDoor

/- Contracts of Direct, Copath and Common of package index. -/
namespace Go.Proofs.YtnfhbmlmemifjaaGreatDoor
open Go.RowKit
def dirF : Nat → Int → Int → List Int
  | 0, _, _ => []
  | f + 1, x, L => if parB x L = true then abv x :: dirF f (abv x) L else []
def dir (x L : Int) : List Int := dirF 31 x L
end Go.Proofs.YtnfhbmlmemifjaaGreatDoor

/- Plain trees: what may be, who is in, who comes and goes. No walk is in this text. -/
namespace Go.Proofs.YtnfhbmlmemifjaaGreatDoor
open Go.RowKit
structure Nd where
  pub : Int
  mem : Int
  ep : Int
  un : List Int
def nd0 : Nd := ⟨0, 0, 0, []⟩
def ndAt (T : List Nd) (x : Nat) : Nd := T.getD x nd0
def nlv (T : List Nd) : Nat := (T.length + 1) / 2
def lvs (T : List Nd) : List Nd := (List.range (nlv T)).map fun i => ndAt T (2 * i)
def pos (n : Nd) : Bool := n.pub != 0
def memsOf (L : List Nd) : List Int := (L.filter pos).map (·.mem)
def mems (T : List Nd) : List Int := memsOf (lvs T)
def anyM (T : List Nd) (a b : Nat) : Bool := (List.range b).any fun i => decide (a ≤ i) && pos (ndAt T (2 * i))
def unM (T : List Nd) (first last : Int) : List Int → Bool
  | [] => true
  | u :: us => decide (first ≤ u) && decide (u ≤ last) && pos (ndAt T (2 * u.toNat)) && unM T (u + 1) last us
def ndM (T : List Nd) (x : Nat) : Bool :=
  if (ndAt T x).pub = 0 then (ndAt T x).mem == 0 && (ndAt T x).ep == 0 && (ndAt T x).un.isEmpty
  else if (ndAt T x).pub < 0 then false
  else if x % 2 = 0 then decide (0 ≤ (ndAt T x).mem) && decide (0 ≤ (ndAt T x).ep) && (ndAt T x).un.isEmpty
  else (ndAt T x).mem == 0 && (ndAt T x).ep == 0 && unM T (spF (x : Nat)) (spT (x : Nat)) (ndAt T x).un
def mayB (T : List Nd) : Bool := T.isEmpty || (decide (nlv T ≤ 8) && decide (wid (nlv T : Nat) = (T.length : Nat)) && (List.range T.length).all (ndM T) && decide (mems T).Nodup && anyM T (nlv T / 2) (nlv T))
def upN (n i : Nat) : List Nat := (dir ((2 * i : Nat) : Int) (n : Nat)).map Int.toNat
def lN (x : Nat) : Nat := (lfV (x : Nat)).toNat
def rN (x : Nat) : Nat := (rtV (x : Nat)).toNat
def fit (m : Nat) (T : List Nd) : List Nd := (List.range m).map (ndAt T)
def onAll (f : Nd → Nd) (xs : List Nat) (T : List Nd) : List Nd := xs.foldl (fun T x => T.set x (f (ndAt T x))) T
def blk (i : Nat) (T : List Nd) : List Nd := onAll (fun _ => nd0) (upN (nlv T) i) (T.set (2 * i) nd0)
def sizes : List Nat := [1, 2, 4, 8]
theorem fin_span : (sizes.all fun n => (List.range (2 * n - 1)).all fun x => decide (0 ≤ spF (x : Nat)) && decide (spF (x : Nat) ≤ spT (x : Nat)) && decide (spT (x : Nat) < (n : Nat)) && (decide (x % 2 = 1) || decide (2 * spF (x : Nat) = (x : Nat) ∧ 2 * spT (x : Nat) = (x : Nat)))
    && (decide (x % 2 = 0) || (decide (lfV (x : Nat) = (lN x : Nat)) && decide (rtV (x : Nat) = (rN x : Nat)) && decide (lfB (x : Nat) = true) && decide (rtB (x : Nat) = true) && decide (lN x < 2 * n - 1) && decide (rN x < 2 * n - 1) && decide (lvl (lN x : Nat) + 1 = lvl (x : Nat)) && decide (lvl (rN x : Nat) + 1 = lvl (x : Nat))
      && decide (spF (lN x : Nat) = spF (x : Nat)) && decide (spT (lN x : Nat) + 1 = spF (rN x : Nat)) && decide (spT (rN x : Nat) = spT (x : Nat))))
    && decide (0 ≤ lvl (x : Nat)) && decide (lvl (x : Nat) ≤ 3) && decide ((lvl (x : Nat) = 0) ↔ x % 2 = 0) && decide (lfB (x : Nat) = decide (x % 2 = 1))) = true := by decide +kernel
end Go.Proofs.YtnfhbmlmemifjaaGreatDoor

/- Contracts of the document's own answers for layer 2, those of one number. -/
namespace Go.Proofs.YtnfhbmlmemifjaaGreatDoor
open Go.RowKit
theorem nd_zero (m : Nat) : nd 0 m = 2 * m := by simp [nd]
theorem nd_odd (k m : Nat) : nd (k + 1) m = 2 * nd k m + 1 := by
  have h1 := nd_succ (k + 1) m
  have h2 := nd_succ k m
  rw [Nat.pow_succ, Nat.mul_comm (2 ^ k) 2, Nat.mul_assoc] at h1
  omega
set_option maxHeartbeats 1000000 in
theorem rlevel_any (x : Int) (w : World) (h2 : x ≤ 9223372036854775807) :
    Calls Tryz.prog 322 #[.int .i64 x] w fun e w' => e = .returned (.int .i64 (lvl x)) ∧ w' = w := by
  by_cases h : x < 0
  · rw [lvl_neg h]
    go_enter Tryz.func322, Tryz.ntmps322
    go_wp2
    go_ret
    exact ⟨rfl, rfl⟩
  · obtain ⟨n, rfl⟩ : ∃ n : Nat, x = n := ⟨x.toNat, by omega⟩
    obtain ⟨k, m, rfl⟩ := exists_nd n
    have hb : nd k m < 9223372036854775808 := by omega
    rw [lvl_nd hb]
    have hk := (nd_lt hb).1
    have HE : Hid (nd k m = nd k m) := rfl
    have h0 : ¬ ((nd k m : Nat) : Int) < 0 := h
    generalize hX : nd k m = X at *
    have HX := hide hX
    clear hX h
    go_enter Tryz.func322, Tryz.ntmps322
    go_wp2_with fail
    go_loopw [0, 3] (fun xv nv wr => ∃ (Y c j : Nat), Hid (Y = nd c m) ∧ xv = .int .i64 Y ∧ nv = .int .i64 j ∧ j + c = k ∧ Y < 9223372036854775808 ∧ wr = w) (fun xv _ _ => (intOf xv).toNat)
    case atStart => exact ⟨X, k, 0, (unhide HX).symm, rfl, rfl, by omega, hb, rfl⟩
    case round =>
      obtain ⟨Y, c, j, hY, rfl, rfl, hjc, hYb, rfl⟩ := hrel
      cases c with
      | zero =>
        have e1 : Y % 2 = 0 := by rw [unhide hY, nd_zero]; omega
        have e2 : ((Y : Int) % 2) = 0 := by omega
        have e3 : Int.tmod (Y : Int) 2 = 0 := by rw [Int.tmod_eq_emod_of_nonneg (by omega)]; exact e2
        obtain rfl : j = k := by omega
        clear hY hjc
        go_wp2
        go_ret
        exact ⟨rfl, rfl⟩
      | succ c =>
        have e0 : Y = 2 * nd c m + 1 := by rw [unhide hY, nd_odd]
        have e1 : Y % 2 = 1 := by omega
        have e2 : ((Y : Int) % 2) = 1 := by omega
        have e3 : Int.tmod (Y : Int) 2 = 1 := by rw [Int.tmod_eq_emod_of_nonneg (by omega)]; exact e2
        have e4 : Int.tdiv (Y : Int) 2 = ((Y / 2 : Nat) : Int) := by rw [Int.tdiv_eq_ediv_of_nonneg (by omega)]; omega
        have e5 : Y / 2 = nd c m := by omega
        have HY := hide (And.intro e5 e0)
        clear hY e0 e5
        go_wp2_with fail
        go_roundw
        case rel => exact ⟨Y / 2, c, j + 1, (unhide HY).1, by go_num, by go_num, by omega, by omega, trivial⟩
        case measure => simp only [intOf]; omega
set_option maxHeartbeats 1000000 in
theorem rhalf_any (x : Int) (w : World) (h2 : x ≤ 9223372036854775807) :
    Calls Tryz.prog 320 #[.int .i64 x] w fun e w' => e = .returned (.int .i64 (hf x)) ∧ w' = w := by
  have K := rlevel_any x w h2
  rcases lvl_cases x h2 with ⟨h, hl⟩ | ⟨m, rfl, hb, hl⟩ | ⟨k, m, rfl, hb, hl⟩
  · rw [hl] at K
    have hh : hf _ = 0 := if_neg (by rw [hl]; decide)
    rw [hh]
    clear hh hl
    go_enter Tryz.func320, Tryz.ntmps320
    go_wp2_with fail
    refine (K).mono ?_
    rintro e w ⟨rfl, rfl⟩
    go_wp2
    go_ret
    exact ⟨rfl, rfl⟩
  · rw [hl] at K
    have hh : hf _ = 0 := if_neg (by rw [hl]; decide)
    rw [hh]
    clear hh hl
    go_enter Tryz.func320, Tryz.ntmps320
    go_wp2_with fail
    refine (K).mono ?_
    rintro e w ⟨rfl, rfl⟩
    go_wp2
    go_ret
    exact ⟨rfl, rfl⟩
  · rw [hl] at K
    have hk := (nd_lt hb).1
    have hh : hf (nd (k + 1) m : Nat) = ((2 ^ k : Nat) : Int) := by unfold hf; rw [if_pos (by rw [hl]; omega), hl, Int.toNat_natCast, Nat.add_sub_cancel]
    rw [hh]
    have hk62 : k ≤ 62 := by omega
    clear hh hl hb hk h2
    generalize nd (k + 1) m = X at *
    go_enter Tryz.func320, Tryz.ntmps320
    go_wp2_with fail
    refine (K).mono ?_
    rintro e w ⟨rfl, rfl⟩
    go_wp2_with fail
    go_loopw [4, 5] (fun nv iv wr => ∃ (i p : Nat), i ≤ k ∧ Hid (p = 2 ^ i) ∧ nv = .int .i64 p ∧ iv = .int .i64 ((i : Int) + 1) ∧ wr = w) (fun _ iv _ => (64 - intOf iv).toNat)
    case atStart => exact ⟨0, 1, by omega, by simp [Hid], rfl, rfl, rfl⟩
    case round =>
      obtain ⟨i, p, hi, hp, rfl, rfl, rfl⟩ := hrel
      have hb := two_pow_62 (show i < 63 by omega)
      rw [← unhide hp] at hb
      by_cases hik : i = k
      · subst hik
        go_wp2
        go_ret
        rw [← unhide hp]
        exact ⟨rfl, rfl⟩
      · have hlt : i < k := by omega
        have hb2 := two_pow_62 (show i + 1 < 63 by omega)
        rw [Nat.pow_succ, ← unhide hp] at hb2
        go_wp2_with fail
        go_roundw
        case rel => exact ⟨i + 1, p * 2, by omega, by unfold Hid; rw [unhide hp, Nat.pow_succ], by go_num, by go_num, trivial⟩
        case measure => simp only [intOf]; omega
end Go.Proofs.YtnfhbmlmemifjaaGreatDoor

/- Contracts of the document's own answers for layer 2: children and leaves. -/
namespace Go.Proofs.YtnfhbmlmemifjaaGreatDoor
open Go.RowKit
theorem hf_cases (x : Int) (h2 : x ≤ 9223372036854775807) : (lvl x ≤ 0 ∧ hf x = 0) ∨ (∃ k m : Nat, x = (nd (k + 1) m : Nat) ∧ nd (k + 1) m < 9223372036854775808 ∧ 0 < lvl x ∧ hf x = ((2 ^ k : Nat) : Int) ∧ lvl x = ((k + 1 : Nat) : Int)) := by
  rcases lvl_cases x h2 with ⟨h, hl⟩ | ⟨m, rfl, hb, hl⟩ | ⟨k, m, rfl, hb, hl⟩
  · exact Or.inl ⟨by omega, if_neg (by omega)⟩
  · exact Or.inl ⟨by omega, if_neg (by omega)⟩
  · exact Or.inr ⟨k, m, rfl, hb, by omega, by unfold hf; rw [if_pos (by rw [hl]; omega), hl, Int.toNat_natCast, Nat.add_sub_cancel], hl⟩
theorem span_arith (X p q : Nat) (hX : X = 4 * q + 2 * p - 1) (hpos : 0 < p) (hs : X + 2 * p < 9223372036854775808) :
    ((p * 2 - 1 : Nat) : Int) = 2 * (p : Int) - 1 ∧ ((X : Int) + (2 * (p : Int) - 1)) / 2 = (X : Int) / 2 + (p : Int) ∧ wrap64 (2 * (p : Int)) = 2 * (p : Int) ∧ wrap64 (2 * (p : Int) - 1) = 2 * (p : Int) - 1 ∧
    wrap64 ((X : Int) - (2 * (p : Int) - 1)) = (X : Int) - (2 * (p : Int) - 1) ∧ ((2 * (p : Int)) == 0) = false ∧ Int.tdiv ((X : Int) - (2 * (p : Int) - 1)) 2 = ((X : Int) - (2 * (p : Int) - 1)) / 2 ∧ Int.tdiv (X : Int) 2 = (X : Int) / 2 ∧
    Int.tdiv (2 * (p : Int)) 2 = (p : Int) ∧ (2 * (p : Int)) / 2 = (p : Int) ∧ wrap64 (((X : Int) - (2 * (p : Int) - 1)) / 2) = ((X : Int) - (2 * (p : Int) - 1)) / 2 ∧ wrap64 ((X : Int) / 2) = (X : Int) / 2 ∧
    wrap64 ((X : Int) / 2 + (p : Int)) = (X : Int) / 2 + (p : Int) ∧ wrap64 (p : Int) = (p : Int) := by
  have h1 : (X : Int) = 2 * (2 * (q : Int) + (p : Int) - 1) + 1 := by omega
  have h2 : (X : Int) / 2 = 2 * (q : Int) + (p : Int) - 1 := by rw [h1]; omega
  have h3 : (X : Int) - (2 * (p : Int) - 1) = 2 * (2 * (q : Int)) := by omega
  have h4 : (2 * (2 * (q : Int))) / 2 = 2 * (q : Int) := by omega
  have h5 : (X : Int) + (2 * (p : Int) - 1) = 2 * (2 * (q : Int) + 2 * (p : Int) - 1) := by omega
  have h6 : (2 * (2 * (q : Int) + 2 * (p : Int) - 1)) / 2 = 2 * (q : Int) + 2 * (p : Int) - 1 := by omega
  have b1 : 0 ≤ (q : Int) := by omega
  have b2 : 0 < (p : Int) := by omega
  have b3 : 4 * (q : Int) + 4 * (p : Int) ≤ 9223372036854775808 := by omega
  clear hX hs hpos h1
  rw [h2, h3, h4, h5, h6]
  generalize (q : Int) = Q at *
  refine ⟨by omega, by omega, wrap64_id (by omega) (by omega), wrap64_id (by omega) (by omega), wrap64_id (by omega) (by omega), by rw [beq_eq_false_iff_ne]; omega, by rw [Int.tdiv_eq_ediv_of_nonneg (by omega)]; omega, by rw [Int.tdiv_eq_ediv_of_nonneg (by omega)]; exact h2, by rw [Int.tdiv_eq_ediv_of_nonneg (by omega)]; omega, by omega, wrap64_id (by omega) (by omega), wrap64_id (by omega) (by omega), wrap64_id (by omega) (by omega), wrap64_id (by omega) (by omega)⟩
set_option maxHeartbeats 1000000 in
theorem rspan_any (x : Int) (w : World) (h2 : x ≤ 9223372036854775807) :
    Calls Tryz.prog 314 #[.int .i64 x] w fun e w' => e = .returned (.tuple #[.int .i64 (spF x), .int .i64 (spT x)]) ∧ w' = w := by
  have K := rhalf_any x w h2
  by_cases h0 : x < 0
  · simp only [spF, spT, h0, true_or, if_true]
    clear K
    go_enter Tryz.func314, Tryz.ntmps314
    go_wp2
    go_ret2
    exact ⟨rfl, rfl⟩
  · by_cases h1 : x = 9223372036854775807
    · subst h1
      simp only [spF, spT, or_true, if_true]
      clear K
      go_enter Tryz.func314, Tryz.ntmps314
      go_wp2
      go_ret2
      exact ⟨rfl, rfl⟩
    · have h3 : ¬ (x < 0 ∨ x = 9223372036854775807) := by omega
      have h1' : (x == 9223372036854775807) = false := by simpa using h1
      simp only [spF, spT, h3, if_false]
      rcases hf_cases x h2 with ⟨hl, hh⟩ | ⟨k, m, rfl, hb, hl, hh, hl2⟩
      · have hl0 : (lvl x).toNat = 0 := by omega
        rw [hl0]
        rw [hh] at K
        have t1 : Int.tdiv x 2 = x / 2 := Int.tdiv_eq_ediv_of_nonneg (by omega)
        have e1 : (x - ((2 ^ 0 - 1 : Nat) : Int)) / 2 = x / 2 := by simp
        have e2 : (x + ((2 ^ 0 - 1 : Nat) : Int)) / 2 = x / 2 := by simp
        rw [e1, e2]
        have hw : wrap64 (x / 2) = x / 2 := wrap64_id (by omega) (by omega)
        clear hh hl hl0 e1 e2 h3 h1
        go_enter Tryz.func314, Tryz.ntmps314
        go_wp2_with fail
        refine (K).mono ?_
        rintro e w ⟨rfl, rfl⟩
        go_wp2
        go_ret2
        exact ⟨rfl, rfl⟩
      · have hroom := right_room hb h1
        have hk := nd_lt hb
        have hk2 : k + 1 < 63 := by
          rcases Nat.lt_or_ge (k + 1) 63 with h | h
          · exact h
          · have e1 : k + 1 = 63 := by omega
            have e2 := hk.2 e1
            rw [e1, e2] at h1
            exact absurd rfl h1
        have hq := two_pow_62 hk2
        have hs := span_room hb hk2
        have e := nd_odd k m
        have e2 := nd_eq k m
        have hpos := Nat.two_pow_pos k
        rw [hl2, Int.toNat_natCast, Nat.pow_succ]
        rw [Nat.pow_succ] at hq hs
        rw [hh] at K
        clear hh hl hl2 hk hk2
        generalize 2 ^ k * m = q at *
        generalize 2 ^ k = p at *
        generalize nd k m = Y at *
        generalize nd (k + 1) m = X at *
        obtain ⟨hc, eT, hwa, hwb, hwc, n0, t1, t2, t3, t4, hw1, hw2, hw3, hw4⟩ := span_arith X p q (by omega) hpos (by omega)
        rw [hc, eT]
        clear e e2 hc eT h3 h1 hroom hs hq hb
        go_enter Tryz.func314, Tryz.ntmps314
        go_wp2_with fail
        refine (K).mono ?_
        rintro e w ⟨rfl, rfl⟩
        go_wp2
        simp only [hw1, hw2, hw3, hw4]
        go_ret2
        exact ⟨rfl, rfl⟩
end Go.Proofs.YtnfhbmlmemifjaaGreatDoor

/- Plain mathematics of a node and its children. -/
namespace Go.Proofs.YtnfhbmlmemifjaaGreatDoor
open Go.RowKit
end Go.Proofs.YtnfhbmlmemifjaaGreatDoor

/- Contracts of the document's own answers for layer 2: parents, siblings, and who is below whom. -/
namespace Go.Proofs.YtnfhbmlmemifjaaGreatDoor
open Go.RowKit
end Go.Proofs.YtnfhbmlmemifjaaGreatDoor
