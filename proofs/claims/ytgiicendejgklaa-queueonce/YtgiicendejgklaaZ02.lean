/- Texts joined: IxMem IxSame IxList TrPure IxRef IxRefB. -/
import Derived.Test.YtgiicendejgklaaZ01
import Derived.Maps.AppendAt
import Derived.Laws.OwnMore
import Derived.BigQuiet
/- Rows of numbers in memory, and the word for 'only new blocks'. -/
namespace Go.Proofs.Ytgiicendejgklaa
open Go.RowKit
def I64 (z : Int) : Value := .int .i64 z
def Ints (B : Nat) (w : World) (v : Value) (l : List Int) : Prop := w.ownsRow B 3 1 v l.length (l.map I64)
def Nums (w : World) (v : Value) (l : List Int) : Prop :=
  (l = [] ∧ ∃ a c, v = .slice a 0 c ∧ (a = none → c = 0)) ∨ ∃ g o cap, v = .slice (some ⟨g, o, none⟩) l.length cap ∧ l.length ≤ cap ∧ cap ≤ maxLen ∧ ∀ j z, l[j]? = some z → w.cell? ⟨g, o + j, none⟩ = some (I64 z)
theorem bw_mono {B B' : Nat} {w w' : World} (h : Below B' w w') (hB : B ≤ B') : Below B w w' := ⟨h.os, h.tape, h.output, h.size, fun k hk => h.block k (by omega)⟩
theorem bw_tr {w w1 w2 : World} (h : Below w.heap.size w w1) (k : Below w1.heap.size w1 w2) : Below w.heap.size w w2 := h.trans (bw_mono k h.size)
theorem Tab.pos {w : World} (h : Tab w) : 0 < w.heap.size := by
  have := h 0 (by decide)
  rcases Nat.eq_zero_or_pos w.heap.size with h0 | h0
  · have e : w.heap = #[] := Array.eq_empty_of_size_eq_zero h0
    simp [World.cell?, e] at this
  · exact h0
theorem Nums.bw {w w' : World} {v : Value} {l : List Int} (h : Nums w v l) (hb : Below w.heap.size w w') : Nums w' v l := by
  rcases h with h | ⟨g, o, cap, hv, h1, h2, hc⟩
  · exact Or.inl h
  · refine Or.inr ⟨g, o, cap, hv, h1, h2, fun j z hj => ?_⟩
    have := hc j z hj
    rw [hb.cell (p := ⟨g, o + j, none⟩)]
    · exact this
    · rcases Nat.lt_or_ge g w.heap.size with h1 | h1
      · exact h1
      · simp [World.cell?, Array.getElem?_eq_none h1] at this
theorem Ints.nums {B : Nat} {w : World} {v : Value} {l : List Int} (h : Ints B w v l) : Nums w v l := by
  rcases h.2 with ⟨rfl, h2⟩ | ⟨g, cap, cur, rfl, h0, hg, h3, h4, h5, h6⟩
  · exact Or.inl ⟨List.length_eq_zero_iff.1 h2, none, 0, rfl, fun _ => rfl⟩
  · refine Or.inr ⟨g, 0, cap, rfl, h3, h4, fun j z hj => ?_⟩
    have := World.ownsRow.cells h (g := g) rfl j (I64 z) (by simp [hj])
    cases j <;> simpa [Addr.add] using this
end Go.Proofs.Ytgiicendejgklaa

/- The contract of SameNumbers: are two rows of numbers the same? -/
namespace Go.Proofs.Ytgiicendejgklaa
open Go.RowKit
theorem Nums.open {w : World} {v : Value} {l : List Int} (h : Nums w v l) (hl : 0 < l.length) : ∃ g o cap, v = .slice (some ⟨g, o, none⟩) l.length cap ∧ ∀ j z, l[j]? = some z → w.cell? ⟨g, o + j, none⟩ = some (.int .i64 z) := by
  rcases h with ⟨rfl, a, c, rfl, _⟩ | ⟨g, o, cap, rfl, h1, h2, h3⟩
  · simp at hl
  · exact ⟨g, o, cap, rfl, h3⟩
end Go.Proofs.Ytgiicendejgklaa

/- Contracts of Direct, Copath and Common of package index. -/
namespace Go.Proofs.Ytgiicendejgklaa
open Go.RowKit
def dirF : Nat → Int → Int → List Int
  | 0, _, _ => []
  | f + 1, x, L => if parB x L = true then abv x :: dirF f (abv x) L else []
def copF : Nat → Int → Int → List Int
  | 0, _, _ => []
  | f + 1, x, L => if parB x L = true then sb x :: copF f (abv x) L else []
def dir (x L : Int) : List Int := dirF 31 x L
def cop (x L : Int) : List Int := copF 31 x L
end Go.Proofs.Ytgiicendejgklaa

/- Plain trees: what may be, who is in, who comes and goes. No walk is in this text. -/
namespace Go.Proofs.Ytgiicendejgklaa
open Go.RowKit
structure Nd where
  pub : Int
  mem : Int
  ep : Int
  un : List Int
def nd0 : Nd := ⟨0, 0, 0, []⟩
def ndAt (T : List Nd) (x : Nat) : Nd := T.getD x nd0
def nlv (T : List Nd) : Nat := (T.length + 1) / 2
def lvs (T : List Nd) : List Nd := (List.range (nlv T)).map fun i => ndAt T (2 * i)
def pos (n : Nd) : Bool := n.pub != 0
def hit (m : Int) (n : Nd) : Bool := pos n && n.mem == m
def fb (T : List Nd) : Nat := (lvs T).findIdx fun n => !pos n
def upN (n i : Nat) : List Nat := (dir ((2 * i : Nat) : Int) (n : Nat)).map Int.toNat
def sdN (n i : Nat) : List Nat := (cop ((2 * i : Nat) : Int) (n : Nat)).map Int.toNat
def lN (x : Nat) : Nat := (lfV (x : Nat)).toNat
def rN (x : Nat) : Nat := (rtV (x : Nat)).toNat
def rsF : Nat → List Nd → Nat → List Int
  | 0, _, _ => []
  | f + 1, T, x => if pos (ndAt T x) = true then (x : Int) :: (ndAt T x).un.map (2 * ·) else if x % 2 = 0 then [] else rsF f T (lN x) ++ rsF f T (rN x)
def rsl (T : List Nd) (x : Nat) : List Int := rsF 5 T x
def prs (T : List Nd) (i : Nat) : List (Nat × List Int) := (((upN (nlv T) i).zip (sdN (nlv T) i)).map fun p => (p.1, rsl T p.2)).filter fun p => !p.2.isEmpty
def oth (T : List Nd) (i : Nat) : List (List Int) := (prs T i).map (·.2)
def fit (m : Nat) (T : List Nd) : List Nd := (List.range m).map (ndAt T)
def onAll (f : Nd → Nd) (xs : List Nat) (T : List Nd) : List Nd := xs.foldl (fun T x => T.set x (f (ndAt T x))) T
def blk (i : Nat) (T : List Nd) : List Nd := onAll (fun _ => nd0) (upN (nlv T) i) (T.set (2 * i) nd0)
end Go.Proofs.Ytgiicendejgklaa

/- Contracts of the document's own answers for layer 2, those of one number. -/
namespace Go.Proofs.Ytgiicendejgklaa
open Go.RowKit
end Go.Proofs.Ytgiicendejgklaa

/- Contracts of the document's own answers for layer 2: children and leaves. -/
namespace Go.Proofs.Ytgiicendejgklaa
open Go.RowKit
end Go.Proofs.Ytgiicendejgklaa
