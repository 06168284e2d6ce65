/- Rows of numbers in memory, and the word for 'only new blocks'. -/
import Derived.Test.YtjjkhjiiakamaaaDoorIxA2
import Derived.Maps.AppendAt
import Derived.Laws.OwnMore
import Derived.BigQuiet
namespace Go.Proofs.YtjjkhjiiakamaaaDoor
open Go.RowKit

def I64 (z : Int) : Value := .int .i64 z
/-- A row of numbers of its own, that begins behind the block B. -/
def Ints (B : Nat) (w : World) (v : Value) (l : List Int) : Prop := w.ownsRow B 3 1 v l.length (l.map I64)
/-- A slice that reads as these numbers. -/
def Nums (w : World) (v : Value) (l : List Int) : Prop :=
  (l = [] ∧ ∃ a c, v = .slice a 0 c ∧ (a = none → c = 0)) ∨ ∃ g o cap, v = .slice (some ⟨g, o, none⟩) l.length cap ∧ l.length ≤ cap ∧ cap ≤ maxLen ∧ ∀ j z, l[j]? = some z → w.cell? ⟨g, o + j, none⟩ = some (I64 z)

theorem bw_mono {B B' : Nat} {w w' : World} (h : Below B' w w') (hB : B ≤ B') : Below B w w' := ⟨h.os, h.tape, h.output, h.size, fun k hk => h.block k (by omega)⟩
theorem bw_tr {w w1 w2 : World} (h : Below w.heap.size w w1) (k : Below w1.heap.size w1 w2) : Below w.heap.size w w2 := h.trans (bw_mono k h.size)

theorem Tab.pos {w : World} (h : Tab w) : 0 < w.heap.size := by
  have := h 0 (by decide)
  rcases Nat.eq_zero_or_pos w.heap.size with h0 | h0
  · have e : w.heap = #[] := Array.eq_empty_of_size_eq_zero h0
    simp [World.cell?, e] at this
  · exact h0
theorem Tab.bw {w w' : World} (h : Tab w) (hb : Below w.heap.size w w') : Tab w' := fun j hj => by
  rw [hb.cell (p := ⟨0, j, none⟩) h.pos]; exact h j hj
theorem Tab.drewN {w : World} (h : Tab w) (n : Nat) : Tab (w.drewN n) := h.bw (below_drewN (Below.refl _ _) n)
theorem Ints.bw {B : Nat} {w w' : World} {v : Value} {l : List Int} (h : Ints B w v l) (hb : Below w.heap.size w w') : Ints B w' v l := by
  refine ⟨h.1, ?_⟩
  rcases h.2 with h2 | ⟨g, cap, cur, rfl, h0, hg, r⟩
  · exact Or.inl h2
  · refine Or.inr ⟨g, cap, cur, rfl, h0, ?_, r⟩
    rw [hb.block g]
    · exact hg
    · rcases Nat.lt_or_ge g w.heap.size with h1 | h1
      · exact h1
      · rw [Array.getElem?_eq_none h1] at hg; cases hg
theorem Nums.bw {w w' : World} {v : Value} {l : List Int} (h : Nums w v l) (hb : Below w.heap.size w w') : Nums w' v l := by
  rcases h with h | ⟨g, o, cap, hv, h1, h2, hc⟩
  · exact Or.inl h
  · refine Or.inr ⟨g, o, cap, hv, h1, h2, fun j z hj => ?_⟩
    have := hc j z hj
    rw [hb.cell (p := ⟨g, o + j, none⟩)]
    · exact this
    · rcases Nat.lt_or_ge g w.heap.size with h1 | h1
      · exact h1
      · simp [World.cell?, Array.getElem?_eq_none h1] at this
theorem Ints.nums {B : Nat} {w : World} {v : Value} {l : List Int} (h : Ints B w v l) : Nums w v l := by
  rcases h.2 with ⟨rfl, h2⟩ | ⟨g, cap, cur, rfl, h0, hg, h3, h4, h5, h6⟩
  · exact Or.inl ⟨List.length_eq_zero_iff.1 h2, none, 0, rfl, fun _ => rfl⟩
  · refine Or.inr ⟨g, 0, cap, rfl, h3, h4, fun j z hj => ?_⟩
    have := World.ownsRow.cells h (g := g) rfl j (I64 z) (by simp [hj])
    cases j <;> simpa [Addr.add] using this

theorem Tryd.infoInt : (Tryd.prog.info? 3).map (fun i => (i.zero, i.size, i.bytes)) = some (some (.int .i64 0), 1, 8) := by kernel_rfl

theorem ints_nil (B : Nat) (w : World) : Ints B w (.slice none 0 0) [] := World.ownsRow_nil _ _ _ _

/-- Behind the append of one number. -/
theorem ints_snoc {w wr w1 : World} {lv v' : Value} {cur : List Int} {o : Obj} (c : Int) (hb : Below w.heap.size w wr) (hown : Ints w.heap.size wr lv cur) (hown' : w1.ownsRow w.heap.size 3 1 v' (cur.length + 1) (cur.map I64 ++ [.int .i64 c]))
    (hg : (wr.alloc o).grownBy w1 lv.ownBlock) : Ints w.heap.size w1 v' (cur ++ [c]) ∧ Below w.heap.size w w1 := by
  refine ⟨by simpa [Ints, I64] using hown', (hb.alloc hb.size o).grown hg (by have := hb.size; simp; omega) (fun k hk => (World.ownsRow.lt hown k hk).1)⟩

theorem wi_neg {x y : Int} (h : x < 0 ∨ y < 0) : wi x y = false := by
  unfold wi
  rcases h with h | h
  · have : ¬ 0 ≤ x := by omega
    simp [this]
  · have : ¬ 0 ≤ y := by omega
    simp [this]
theorem wi_iff {j q n : Nat} (hb : nd j q < 9223372036854775808) : wi (n : Int) (nd j q : Nat) = true ↔ 2 ^ (j + 1) * q ≤ n ∧ n + 1 < 2 ^ (j + 1) * q + 2 ^ (j + 1) := by
  unfold wi
  rw [lvl_nd hb, Int.toNat_natCast]
  simp only [Bool.and_eq_true, decide_eq_true_eq]
  have hp := Nat.two_pow_pos j
  have e := nd_mul j q
  rw [e, Nat.pow_succ]
  generalize 2 ^ j * 2 * q = A
  generalize 2 ^ j = p at *
  omega
/-- In the program's words. -/
theorem wi_shift {j q k m : Nat} (hb : nd j q < 9223372036854775808) : wi (nd k m : Nat) (nd j q : Nat) = true ↔ k ≤ j ∧ nd k m / 2 ^ (j + 1) = nd j q / 2 ^ (j + 1) := by
  rw [wi_iff hb, nd_div j q]
  have hp := Nat.two_pow_pos (j + 1)
  have e := nd_succ k m
  have hd := Nat.div_add_mod (nd k m) (2 ^ (j + 1))
  have hm := Nat.mod_lt (nd k m) hp
  constructor
  · rintro ⟨h1, h2⟩
    have hq : nd k m / 2 ^ (j + 1) = q := by
      apply Nat.div_eq_of_lt_le
      · rw [Nat.mul_comm]; exact h1
      · rw [Nat.add_mul, Nat.mul_comm]; omega
    refine ⟨?_, hq⟩
    apply Nat.le_of_not_lt
    intro hc
    obtain ⟨c, rfl⟩ : ∃ c, k = j + 1 + c := ⟨k - (j + 1), by omega⟩
    rw [Nat.pow_add, Nat.mul_assoc] at e
    generalize 2 ^ c * (2 * m + 1) = u at *
    have a1 : 2 ^ (j + 1) * q < 2 ^ (j + 1) * u := by omega
    have a2 : 2 ^ (j + 1) * u < 2 ^ (j + 1) * (q + 1) := by rw [Nat.mul_add]; omega
    have b1 := Nat.lt_of_mul_lt_mul_left a1
    have b2 := Nat.lt_of_mul_lt_mul_left a2
    omega
  · rintro ⟨hk, hq⟩
    rw [hq] at hd
    refine ⟨by omega, ?_⟩
    have hne : nd k m + 1 ≠ 2 ^ (j + 1) * (q + 1) := by
      rw [e]
      intro hc
      obtain ⟨c, rfl⟩ : ∃ c, j = k + c := ⟨j - k, by omega⟩
      rw [Nat.add_assoc, Nat.pow_add, Nat.mul_assoc] at hc
      have := Nat.eq_of_mul_eq_mul_left (Nat.two_pow_pos k) hc
      rw [Nat.pow_succ, Nat.mul_assoc, Nat.mul_left_comm] at this
      omega
    rw [Nat.mul_add] at hne
    omega

end Go.Proofs.YtjjkhjiiakamaaaDoor
