/- Texts joined: TrPure IxJoin TrRs. -/
import Derived.Test.YtcbafeneaoaglaaGreatDoorIxList
import Derived.Test.YtcbafeneaoaglaaGreatDoorBaQ
import Derived.Laws.AppendOwnNone
import Derived.WalkKit
import Derived.WalkSpells
import Derived.WalkLawsBesides
import Derived.WalkSmall
import Derived.Maps.OwnSet
import Derived.Maps.RangeWalk
import Derived.Maps.AppendAt
import Derived.BigQuiet
import Derived.Deep.MidRow
import Derived.Deep.WholeRow
import Derived.Deep.RegionHeld3
import Derived.Deep.Cut
import Derived.Deep.QuietTactic
import Derived.Deep.RegionLaw
import Derived.Deep.RegionWith
import Derived.Laws.IdiomStrings
import Derived.Laws.EntriesVeiled
/- Plain trees: what may be, who is in, who comes and goes. No walk is in this text. -/
namespace Go.Proofs.YtcbafeneaoaglaaGreatDoor
open Go.RowKit

structure Nd where
  pub : Int
  mem : Int
  ep : Int
  un : List Int
theorem Nd.eq {a b : Nd} (h1 : a.pub = b.pub) (h2 : a.mem = b.mem) (h3 : a.ep = b.ep) (h4 : a.un = b.un) : a = b := by
  cases a; cases b; simp_all
def nd0 : Nd := ⟨0, 0, 0, []⟩
def ndAt (T : List Nd) (x : Nat) : Nd := T.getD x nd0
def nlv (T : List Nd) : Nat := (T.length + 1) / 2
def lvs (T : List Nd) : List Nd := (List.range (nlv T)).map fun i => ndAt T (2 * i)
/-- Not blank. -/
def pos (n : Nd) : Bool := n.pub != 0
def memsOf (L : List Nd) : List Int := (L.filter pos).map (·.mem)
def mems (T : List Nd) : List Int := memsOf (lvs T)
def hit (m : Int) (n : Nd) : Bool := pos n && n.mem == m
def fnd (T : List Nd) (m : Int) : Int := if (lvs T).findIdx (hit m) < nlv T then ((lvs T).findIdx (hit m) : Nat) else -1
def fb (T : List Nd) : Nat := (lvs T).findIdx fun n => !pos n
def anyM (T : List Nd) (a b : Nat) : Bool := (List.range b).any fun i => decide (a ≤ i) && pos (ndAt T (2 * i))
def unM (T : List Nd) (first last : Int) : List Int → Bool
  | [] => true
  | u :: us => decide (first ≤ u) && decide (u ≤ last) && pos (ndAt T (2 * u.toNat)) && unM T (u + 1) last us
def ndM (T : List Nd) (x : Nat) : Bool :=
  if (ndAt T x).pub = 0 then (ndAt T x).mem == 0 && (ndAt T x).ep == 0 && (ndAt T x).un.isEmpty
  else if (ndAt T x).pub < 0 then false
  else if x % 2 = 0 then decide (0 ≤ (ndAt T x).mem) && decide (0 ≤ (ndAt T x).ep) && (ndAt T x).un.isEmpty
  else (ndAt T x).mem == 0 && (ndAt T x).ep == 0 && unM T (spF (x : Nat)) (spT (x : Nat)) (ndAt T x).un
def mayB (T : List Nd) : Bool := T.isEmpty || (decide (nlv T ≤ 8) && decide (wid (nlv T : Nat) = (T.length : Nat)) && (List.range T.length).all (ndM T) && decide (mems T).Nodup && anyM T (nlv T / 2) (nlv T))

def upN (n i : Nat) : List Nat := (dir ((2 * i : Nat) : Int) (n : Nat)).map Int.toNat
def sdN (n i : Nat) : List Nat := (cop ((2 * i : Nat) : Int) (n : Nat)).map Int.toNat
def lN (x : Nat) : Nat := (lfV (x : Nat)).toNat
def rN (x : Nat) : Nat := (rtV (x : Nat)).toNat
def rsF : Nat → List Nd → Nat → List Int
  | 0, _, _ => []
  | f + 1, T, x => if pos (ndAt T x) = true then (x : Int) :: (ndAt T x).un.map (2 * ·) else if x % 2 = 0 then [] else rsF f T (lN x) ++ rsF f T (rN x)
/-- The resolution. -/
def rsl (T : List Nd) (x : Nat) : List Int := rsF 5 T x
def prs (T : List Nd) (i : Nat) : List (Nat × List Int) := (((upN (nlv T) i).zip (sdN (nlv T) i)).map fun p => (p.1, rsl T p.2)).filter fun p => !p.2.isEmpty
def pth (T : List Nd) (i : Nat) : List Int := (prs T i).map fun p => (p.1 : Int)
def oth (T : List Nd) (i : Nat) : List (List Int) := (prs T i).map (·.2)
def keepF (fresh : List Int) (x : Int) : Bool := !(x % 2 == 0 && fresh.contains (x / 2))
def tgt (T : List Nd) (i : Nat) (fresh : List Int) : List (List Int) := (oth T i).map fun l => l.filter (keepF fresh)

def insU (u : Int) (l : List Int) : List Int := l.takeWhile (fun z => decide (z < u)) ++ u :: l.dropWhile (fun z => decide (z < u))
def addU (u : Int) (n : Nd) : Nd := if pos n = true then ⟨n.pub, n.mem, n.ep, insU u n.un⟩ else n
def fit (m : Nat) (T : List Nd) : List Nd := (List.range m).map (ndAt T)
def onAll (f : Nd → Nd) (xs : List Nat) (T : List Nd) : List Nd := xs.foldl (fun T x => T.set x (f (ndAt T x))) T
def wRoom (n i : Nat) : Nat := if i < n then n else if n = 0 then 1 else 2 * n
def addT (T : List Nd) (m e p : Int) : List Nd :=
  onAll (addU (fb T : Nat)) (upN (wRoom (nlv T) (fb T)) (fb T)) ((fit (2 * wRoom (nlv T) (fb T) - 1) T).set (2 * fb T) ⟨p, m, e, []⟩)
def addE (T : List Nd) (m e p : Int) : Int :=
  if mayB T = false ∨ m < 0 ∨ e < 0 ∨ p < 1 then 1 else if 0 ≤ fnd T m then 13 else if fb T = 8 then 3 else 0
def blk (i : Nat) (T : List Nd) : List Nd := onAll (fun _ => nd0) (upN (nlv T) i) (T.set (2 * i) nd0)
def needF : Nat → List Nd → Nat → Nat
  | 0, _, n => n
  | f + 1, T, n => if 1 < n ∧ anyM T (n / 2) n = false then needF f T (n / 2) else n
def need (T : List Nd) : Nat := needF 4 T (nlv T)
def remT (T : List Nd) (m : Int) : List Nd := fit (2 * need (blk (fnd T m).toNat T) - 1) (blk (fnd T m).toNat T)
def remE (T : List Nd) (m : Int) : Int :=
  if mayB T = false then 1 else if fnd T m < 0 then 7 else if (mems T).length = 1 then 9 else 0
/-- Is there a leaf of that number, with a member? -/
def hasL (T : List Nd) (i : Int) : Bool := decide (0 ≤ i) && decide (i < (nlv T : Nat)) && pos (ndAt T (2 * i.toNat))
def askE (T : List Nd) (i : Int) : Int := if mayB T = false then 1 else if hasL T i = false then 7 else 0
def setP (T : List Nd) (xs : List Int) (ps : List Int) : List Nd := (xs.zip ps).foldl (fun T q => T.set q.1.toNat ⟨q.2, (ndAt T q.1.toNat).mem, (ndAt T q.1.toNat).ep, (ndAt T q.1.toNat).un⟩) T
def setT (T : List Nd) (i : Nat) (e p : Int) (ps : List Int) : List Nd :=
  setP (onAll (fun _ => nd0) (upN (nlv T) i) (T.set (2 * i) ⟨p, (ndAt T (2 * i)).mem, e, (ndAt T (2 * i)).un⟩)) (pth T i) ps
def setE (T : List Nd) (i e p : Int) (ps : List Int) : Int :=
  if mayB T = false ∨ e < 0 ∨ p < 1 then 1 else if hasL T i = false then 7 else if ps.length ≠ (pth T i.toNat).length ∨ ps.any (fun q => decide (q < 1)) = true then 1 else 0

/-! What is so of small trees, looked through. -/
def sizes : List Nat := [1, 2, 4, 8]
theorem fin_up : (sizes.all fun n => (List.range n).all fun i => decide (dir ((2 * i : Nat) : Int) (n : Nat) = (upN n i).map fun (x : Nat) => (x : Int)) && decide (cop ((2 * i : Nat) : Int) (n : Nat) = (sdN n i).map fun (x : Nat) => (x : Int))
    && decide ((upN n i).length = (sdN n i).length) && decide (upN n i).Nodup && (upN n i).all (fun x => decide (x < 2 * n - 1) && decide (x % 2 = 1)) && (sdN n i).all (fun x => decide (x < 2 * n - 1))) = true := by decide +kernel
theorem fin_in : (sizes.all fun n => (List.range n).all fun i => (List.range (2 * n - 1)).all fun x => decide ((upN n i).contains x = (decide (x % 2 = 1) && decide (spF (x : Nat) ≤ (i : Nat)) && decide ((i : Nat) ≤ spT (x : Nat))))) = true := by decide +kernel
theorem fin_span : (sizes.all fun n => (List.range (2 * n - 1)).all fun x => decide (0 ≤ spF (x : Nat)) && decide (spF (x : Nat) ≤ spT (x : Nat)) && decide (spT (x : Nat) < (n : Nat)) && (decide (x % 2 = 1) || decide (2 * spF (x : Nat) = (x : Nat) ∧ 2 * spT (x : Nat) = (x : Nat)))
    && (decide (x % 2 = 0) || (decide (lfV (x : Nat) = (lN x : Nat)) && decide (rtV (x : Nat) = (rN x : Nat)) && decide (lfB (x : Nat) = true) && decide (rtB (x : Nat) = true) && decide (lN x < 2 * n - 1) && decide (rN x < 2 * n - 1) && decide (lvl (lN x : Nat) + 1 = lvl (x : Nat)) && decide (lvl (rN x : Nat) + 1 = lvl (x : Nat))
      && decide (spF (lN x : Nat) = spF (x : Nat)) && decide (spT (lN x : Nat) + 1 = spF (rN x : Nat)) && decide (spT (rN x : Nat) = spT (x : Nat))))
    && decide (0 ≤ lvl (x : Nat)) && decide (lvl (x : Nat) ≤ 3) && decide ((lvl (x : Nat) = 0) ↔ x % 2 = 0) && decide (lfB (x : Nat) = decide (x % 2 = 1))) = true := by decide +kernel
theorem fin_wi : ((List.range 15).all fun x => (List.range 8).all fun i => decide (wi ((2 * i : Nat) : Int) (x : Nat) = (decide (spF (x : Nat) ≤ (i : Nat)) && decide ((i : Nat) ≤ spT (x : Nat))))) = true := by decide +kernel
theorem fin_sd : (sizes.all fun n => (List.range n).all fun i => (List.range n).all fun j => decide (((sdN n i).filter fun s => wi ((2 * j : Nat) : Int) (s : Nat)).length = if i = j then 0 else 1)) = true := by decide +kernel
end Go.Proofs.YtcbafeneaoaglaaGreatDoor

/- The append of one row of numbers to another, as a law of the walk. -/
namespace Go.Proofs.YtcbafeneaoaglaaGreatDoor
open Go.RowKit

theorem wpList_join {w : World} {ops : Array Oper} {rest : List Oper} {o : Oper} {a : Act} {Q : Exit → Act → World → Prop} (hgd : o.guard = none) (s x : Operand)
    (ho : o.op = .call { callee := .builtin .append, args := #[s, x], argTypes := #[55, 55] })
    (base b' : Nat) (v u : Value) (l l' : List Int) (hs : a.eval s = v) (hown : Ints base w v l) (hx : a.eval x = u) (hu : Ints b' w u l') (hlen : l.length + l'.length ≤ 100000) (hbase : base ≤ w.heap.size)
    (h : ∀ v' w', Ints base w' v' (l ++ l') → Below base w w' → wpList Tryz.prog ops Q rest (a.put o.dst v') w') : wpList Tryz.prog ops Q (o :: rest) a w := by
  obtain ⟨i0, hi, hz0, hz1, hz2⟩ := info_parts Tryz.infoInt
  rcases hu.2 with ⟨rfl, h0⟩ | ⟨g, cap, cur, rfl, _⟩
  · obtain rfl := List.length_eq_zero_iff.1 h0
    refine wpList_append_own_none hgd s x 55 ho base 3 i0 1 Tryz.underlying55 hi v l.length _ hs hown hx ?_
    have := h v w (by simpa using hown) (Below.refl _ _)
    exact this
  · refine wpList_append_own _ hgd s x 55 ho base 3 i0 (.int .i64 0) 1 8 Tryz.underlying55 hi hz0 hz1 hz2 rfl (by decide) v l.length _ hs hown ⟨g, 0, none⟩ l'.length cap (l'.map I64) hx (by simp) (World.ownsRow.cells hu rfl) ?_ ?_ ?_ hbase ?_
    · intro y hy
      obtain ⟨z, _, rfl⟩ := List.mem_map.1 hy
      rfl
    · unfold maxLen; omega
    · omega
    · intro v' w' h1 h2 _
      refine h v' w' ?_ ((Below.refl base w).grown h2 hbase (fun k hk => (World.ownsRow.lt hown k hk).1))
      simpa [Ints] using h1

theorem one_own (w : World) (a : Int) : Ints w.heap.size (w.alloc (.cells #[.int .i64 a] 3)) (.slice (some ⟨w.heap.size, 0, none⟩) 1 1) [a] :=
  ⟨rfl, Or.inr ⟨w.heap.size, 1, #[.int .i64 a], rfl, Nat.le_refl _, heap_alloc_new w _, Nat.le_refl _, by unfold maxLen; omega, rfl, rfl⟩⟩
theorem Ints.mono {B B' : Nat} {w : World} {v : Value} {l : List Int} (h : Ints B w v l) (hb : B' ≤ B) : Ints B' w v l := by
  refine ⟨h.1, ?_⟩
  rcases h.2 with h | ⟨g, cap, cur, hv, h0, r⟩
  · exact Or.inl h
  · exact Or.inr ⟨g, cap, cur, hv, Nat.le_trans hb h0, r⟩

end Go.Proofs.YtcbafeneaoaglaaGreatDoor

/- Frames, rows of any kind, and resources that lie apart, behind layer 2. No walk is in this text. -/
namespace Go.Proofs.YtcbafeneaoaglaaGreatDoor
open Go.RowKit Go.Maps


/-- The world w' is as w was but for the blocks of S and new ones. -/
structure Fr (S : List Nat) (w w' : World) : Prop where
  os : w'.os = w.os
  tape : w'.tape = w.tape
  output : w'.output = w.output
  size : w.heap.size ≤ w'.heap.size
  block : ∀ k, k < w.heap.size → k ∉ S → w'.heap[k]? = w.heap[k]?

theorem Fr.refl (S : List Nat) (w : World) : Fr S w w := ⟨rfl, rfl, rfl, Nat.le_refl _, fun _ _ _ => rfl⟩
theorem Fr.trans {S S' T : List Nat} {w w1 w2 : World} (h : Fr S w w1) (k : Fr S' w1 w2) (h1 : ∀ x, x < w.heap.size → x ∈ S → x ∈ T) (h2 : ∀ x, x < w.heap.size → x ∈ S' → x ∈ T) : Fr T w w2 :=
  ⟨k.os.trans h.os, k.tape.trans h.tape, k.output.trans h.output, Nat.le_trans h.size k.size,
   fun x hx hn => (k.block x (Nat.lt_of_lt_of_le hx h.size) (fun c => hn (h2 x hx c))).trans (h.block x hx (fun c => hn (h1 x hx c)))⟩
theorem Fr.mono {S T : List Nat} {w w1 : World} (h : Fr S w w1) (h1 : ∀ x, x < w.heap.size → x ∈ S → x ∈ T) : Fr T w w1 :=
  ⟨h.os, h.tape, h.output, h.size, fun x hx hn => h.block x hx (fun c => hn (h1 x hx c))⟩
theorem Fr.tr {S : List Nat} {w w1 w2 : World} (h : Fr S w w1) (k : Fr S w1 w2) : Fr S w w2 := h.trans k (fun _ _ c => c) (fun _ _ c => c)
theorem Fr.alloc {S : List Nat} {w w1 : World} (h : Fr S w w1) (o : Obj) : Fr S w (w1.alloc o) :=
  h.tr ⟨rfl, rfl, rfl, by simp, fun k hk _ => Below.heap_alloc _ _ _ hk⟩
theorem Fr.setCell {S : List Nat} {w w1 : World} (h : Fr S w w1) {a : Addr} (ha : w.heap.size ≤ a.block ∨ a.block ∈ S) (u : Value) : Fr S w (w1.setCell a u) :=
  h.trans (S' := [a.block]) ⟨rfl, rfl, rfl, by simp [World.setCell], fun k _ hn => Below.heap_setCell _ _ _ _ (by simpa using hn)⟩ (fun _ _ c => c)
    (fun x hx c => by simp at c; subst c; rcases ha with h | h; omega; exact h)
theorem Fr.drew {S : List Nat} {w w1 : World} (h : Fr S w w1) : Fr S w w1.drew := ⟨h.os, h.tape, h.output, h.size, h.block⟩
theorem Fr.drewN {S : List Nat} {w w1 : World} (h : Fr S w w1) (n : Nat) : Fr S w (w1.drewN n) := by
  have hb : Below w1.heap.size w1 (w1.drewN n) := below_drewN (Below.refl _ _) n
  exact h.tr ⟨hb.os, hb.tape, hb.output, hb.size, fun k hk _ => hb.block k hk⟩
theorem Fr.ofBelow {w w' : World} (h : Below w.heap.size w w') : Fr [] w w' := ⟨h.os, h.tape, h.output, h.size, fun k hk _ => h.block k hk⟩
theorem Fr.below {S : List Nat} {w w1 w2 : World} (h : Fr S w w1) (hb : Below w1.heap.size w1 w2) : Fr S w w2 :=
  h.tr ⟨hb.os, hb.tape, hb.output, hb.size, fun k hk _ => hb.block k hk⟩
theorem Fr.toBelow {w w' : World} (h : Fr [] w w') : Below w.heap.size w w' := ⟨h.os, h.tape, h.output, h.size, fun k hk => h.block k hk (by simp)⟩
theorem Fr.ofGrown {w w' : World} {row : Option Nat} (hg : w.grownBy w' row) : Fr row.toList w w' :=
  ⟨hg.os, hg.tape, hg.output, hg.size, fun k hk hn => hg.block k hk (fun c => hn (by rw [← c]; simp))⟩
theorem Fr.toBase {S : List Nat} {w w1 w2 : World} (h : Below w.heap.size w w1) (k : Fr S w1 w2) (hS : ∀ x ∈ S, w.heap.size ≤ x) : Below w.heap.size w w2 :=
  ((Fr.ofBelow h).trans (T := []) k (fun _ _ c => by cases c) (fun x hx c => by have := hS x c; omega)).toBelow

theorem lt_of_blk {w : World} {b : Nat} {o : Obj} (h : w.heap[b]? = some o) : b < w.heap.size := by
  rcases Nat.lt_or_ge b w.heap.size with h1 | h1
  · exact h1
  · rw [Array.getElem?_eq_none h1] at h; cases h
theorem lt_of_cell {w : World} {a : Addr} {v : Value} (h : w.cell? a = some v) : a.block < w.heap.size := World.block_lt_of_cell? w a h

theorem wf_u8 {x : Int} (h1 : 0 ≤ x) (h2 : x ≤ 255) : (Lit.int .u8 x).wf = true := by
  simp [Lit.wf, IntKind.min, IntKind.max, IntKind.signed, IntKind.bits]; omega
theorem wf_i64 {x : Int} (h1 : -9223372036854775808 ≤ x) (h2 : x ≤ 9223372036854775807) : (Lit.int .i64 x).wf = true := by
  simp [Lit.wf, IntKind.min, IntKind.max, IntKind.signed, IntKind.bits]; omega

/-! Rows of any kind. -/
theorem own_keep {B : Nat} {w w' : World} {e : TypeId} {c : Nat} {v : Value} {n : Nat} {xs : List Value} (h : w.ownsRow B e c v n xs) (hb : ∀ k, v.ownBlock = some k → w'.heap[k]? = w.heap[k]?) : w'.ownsRow B e c v n xs := by
  refine ⟨h.1, ?_⟩
  rcases h.2 with h2 | ⟨g, cap, cur, hv, h0, hg, r⟩
  · exact Or.inl h2
  · exact Or.inr ⟨g, cap, cur, hv, h0, by rw [hb g (by rw [hv]; rfl)]; exact hg, r⟩
theorem own_kind {B : Nat} {w : World} {e : TypeId} {c : Nat} {v : Value} {n : Nat} {xs : List Value} (h : w.ownsRow B e c v n xs) {k : Nat} (hk : v.ownBlock = some k) : ∃ cur, w.heap[k]? = some (.cells cur e (0, 0)) := by
  rcases h.2 with ⟨rfl, _⟩ | ⟨g, cap, cur, rfl, _, hg, _⟩
  · cases hk
  · simp [Value.ownBlock] at hk; subst hk; exact ⟨cur, hg⟩
theorem own_apart {B B' : Nat} {w : World} {e e' : TypeId} {c c' : Nat} {v v' : Value} {n n' : Nat} {xs xs' : List Value} (h : w.ownsRow B e c v n xs) (h' : w.ownsRow B' e' c' v' n' xs') (he : e ≠ e') {k : Nat} (hk : v.ownBlock = some k) : v'.ownBlock ≠ some k := by
  intro q
  obtain ⟨_, h1⟩ := own_kind h hk
  obtain ⟨_, h2⟩ := own_kind h' q
  rw [h1] at h2
  simp only [Option.some.injEq, Obj.cells.injEq] at h2
  exact he h2.2.1
theorem own_block_ne {B : Nat} {w : World} {e T : TypeId} {c : Nat} {v : Value} {n b : Nat} {xs : List Value} {cs : Array Value} {z : Nat × Nat} (h : w.ownsRow B e c v n xs) (hb : w.heap[b]? = some (.cells cs T z)) (he : e ≠ T) : v.ownBlock ≠ some b := by
  intro q
  obtain ⟨_, h1⟩ := own_kind h q
  rw [hb] at h1
  simp only [Option.some.injEq, Obj.cells.injEq] at h1
  exact he h1.2.1.symm
theorem own_cell {B : Nat} {w : World} {e : TypeId} {c : Nat} {v : Value} {n : Nat} {xs : List Value} (h : w.ownsRow B e c v n xs) {g : Nat} (hg : v.ownBlock = some g) {j : Nat} {u : Value} (hj : xs[j]? = some u) : w.cell? ⟨g, j, none⟩ = some u := by
  have := World.ownsRow.cells h hg j u hj
  cases j <;> simpa [Addr.add] using this
theorem own_open {B : Nat} {w : World} {e : TypeId} {c : Nat} {v : Value} {n : Nat} {xs : List Value} (h : w.ownsRow B e c v n xs) (hn : 0 < n) : ∃ g cap, v = .slice (some ⟨g, 0, none⟩) n cap ∧ g < w.heap.size ∧ n ≤ cap ∧ w.frozen? ⟨g, 0, none⟩ = false := by
  rcases h.2 with ⟨_, h2⟩ | ⟨g, cap, cur, hv, _, hg, h1, _⟩
  · omega
  · exact ⟨g, cap, hv, lt_of_blk hg, h1, by simp [World.frozen?, hg]⟩
theorem own_slice {B : Nat} {w : World} {e : TypeId} {c : Nat} {v : Value} {n : Nat} {xs : List Value} (h : w.ownsRow B e c v n xs) : ∃ a cap, v = .slice a n cap := by
  rcases h.2 with ⟨h1, h2⟩ | ⟨g, cap, cur, hv, _⟩
  · exact ⟨none, 0, by rw [h1, h2]⟩
  · exact ⟨_, cap, hv⟩
theorem own_set {B : Nat} {w : World} {e : TypeId} {c : Nat} {v : Value} {n : Nat} {xs : List Value} (h : w.ownsRow B e c v n xs) {g : Nat} (hg : v.ownBlock = some g) {j : Nat} (u : Value) : (w.setCell ⟨g, j, none⟩ u).ownsRow B e c v n (xs.set j u) := by
  have h1 := h.1
  refine ⟨by simpa using h1, ?_⟩
  rcases h.2 with ⟨rfl, _⟩ | ⟨g', cap, cur, rfl, hB, hb, q1, q2, q3, q4⟩
  · cases hg
  · simp [Value.ownBlock] at hg
    subst hg
    refine Or.inr ⟨g', cap, cur.setIfInBounds j u, rfl, hB, by simp [World.setCell, Array.getElem?_modify, hb], q1, q2, by simpa using q3, ?_⟩
    rw [Array.toList_setIfInBounds, ← q4, List.take_set]
theorem own_frozen {B : Nat} {w : World} {e : TypeId} {c : Nat} {v : Value} {n : Nat} {xs : List Value} (h : w.ownsRow B e c v n xs) {g : Nat} (hg : v.ownBlock = some g) (j : Nat) : w.frozen? ⟨g, j, none⟩ = false := by
  obtain ⟨cur, hb⟩ := own_kind h hg
  simp [World.frozen?, hb]

/-- What a step leaves: changed are blocks of Z alone; those of Z' are of Z, or new. -/
structure Mv (w w' : World) (Z Z' : List Nat) : Prop where
  fr : Fr Z w w'
  place : ∀ x ∈ Z', x ∈ Z ∨ w.heap.size ≤ x
theorem Mv.refl (w : World) (Z : List Nat) : Mv w w Z Z := ⟨Fr.refl _ _, fun _ h => Or.inl h⟩
theorem Mv.same {w w' : World} (Z : List Nat) (h : Below w.heap.size w w') : Mv w w' Z Z := ⟨(Fr.ofBelow h).mono (fun _ _ c => by cases c), fun _ h => Or.inl h⟩
theorem Mv.trans {w w1 w2 : World} {Z Z1 Z2 : List Nat} (h : Mv w w1 Z Z1) (k : Mv w1 w2 Z1 Z2) : Mv w w2 Z Z2 := by
  refine ⟨h.fr.trans k.fr (fun _ _ c => c) (fun x hx c => ?_), fun x hx => ?_⟩
  · rcases h.place x c with c | c
    · exact c
    · omega
  · rcases k.place x hx with c | c
    · exact h.place x c
    · exact Or.inr (Nat.le_trans h.fr.size c)
theorem Mv.before {w w0 w1 : World} {Z Z1 : List Nat} (h : Below w.heap.size w w0) (k : Mv w0 w1 Z Z1) : Mv w w1 Z Z1 := (Mv.same Z h).trans k
theorem Mv.after {w w0 w1 : World} {Z Z1 : List Nat} (k : Mv w w0 Z Z1) (h : Below w0.heap.size w0 w1) : Mv w w1 Z Z1 := k.trans (Mv.same Z1 h)

/-! Resources that lie apart. -/
structure Res where
  Z : List Nat
  P : World → Prop
  keep : ∀ w w' S, P w → Fr S w w' → (∀ x ∈ Z, x ∉ S) → P w'
  lt : ∀ w, P w → ∀ x ∈ Z, x < w.heap.size
structure Env (w wr : World) (rs : List Res) : Prop where
  bel : Below w.heap.size w wr
  hold : ∀ r ∈ rs, r.P wr
  low : ∀ r ∈ rs, ∀ x ∈ r.Z, w.heap.size ≤ x
  dis : rs.Pairwise (fun r s => ∀ x ∈ r.Z, x ∉ s.Z)
theorem Env.nil (w : World) : Env w w [] := ⟨Below.refl _ _, by simp, by simp, List.Pairwise.nil⟩
theorem Env.new {w wr w1 : World} {rs : List Res} (h : Env w wr rs) (hb : Below wr.heap.size wr w1) : Env w w1 rs :=
  ⟨bw_tr h.bel hb, fun r hr => r.keep wr w1 [] (h.hold r hr) (Fr.ofBelow hb) (by simp), h.low, h.dis⟩
theorem Env.add {w wr w1 : World} {rs : List Res} (h : Env w wr rs) (r : Res) (hb : Below wr.heap.size wr w1) (hP : r.P w1) (hn : ∀ x ∈ r.Z, wr.heap.size ≤ x) : Env w w1 (r :: rs) := by
  have h1 := h.new hb
  refine ⟨h1.bel, ?_, ?_, ?_⟩
  · intro s hs
    rcases List.mem_cons.1 hs with rfl | hs
    · exact hP
    · exact h1.hold s hs
  · intro s hs x hx
    rcases List.mem_cons.1 hs with rfl | hs
    · have := hn x hx; have := h.bel.size; omega
    · exact h.low s hs x hx
  · refine List.Pairwise.cons (fun s hs x hx c => ?_) h.dis
    have := hn x hx
    have := s.lt wr (h.hold s hs) x c
    omega
theorem Env.step {w wr w1 : World} {r r' : Res} {rs : List Res} (h : Env w wr (r :: rs)) (hg : Mv wr w1 r.Z r'.Z) (hP : r'.P w1) : Env w w1 (r' :: rs) := by
  have hd := List.pairwise_cons.1 h.dis
  have hl : ∀ x ∈ r.Z, w.heap.size ≤ x := h.low r (by simp)
  refine ⟨Fr.toBase h.bel hg.fr hl, ?_, ?_, ?_⟩
  · intro s hs
    rcases List.mem_cons.1 hs with rfl | hs
    · exact hP
    · exact s.keep wr w1 r.Z (h.hold s (List.mem_cons_of_mem _ hs)) hg.fr (fun x hx c => hd.1 s hs x c hx)
  · intro s hs x hx
    rcases List.mem_cons.1 hs with rfl | hs
    · rcases hg.place x hx with c | c
      · exact hl x c
      · have := h.bel.size; omega
    · exact h.low s (List.mem_cons_of_mem _ hs) x hx
  · refine List.Pairwise.cons (fun s hs x hx c => ?_) hd.2
    rcases hg.place x hx with q | q
    · exact hd.1 s hs x q c
    · have := s.lt wr (h.hold s (List.mem_cons_of_mem _ hs)) x c; omega
theorem Env.swap {w wr : World} {r s : Res} {rs : List Res} (h : Env w wr (r :: s :: rs)) : Env w wr (s :: r :: rs) := by
  have hm : ∀ q, q ∈ s :: r :: rs → q ∈ r :: s :: rs := by intro q hq; simp at hq ⊢; rcases hq with h | h | h <;> simp [h]
  refine ⟨h.bel, fun q hq => h.hold q (hm q hq), fun q hq => h.low q (hm q hq), ?_⟩
  have h1 := List.pairwise_cons.1 h.dis
  have h2 := List.pairwise_cons.1 h1.2
  refine List.Pairwise.cons (fun q hq x hx c => ?_) (List.Pairwise.cons (fun q hq => h1.1 q (List.mem_cons_of_mem _ hq)) h2.2)
  rcases List.mem_cons.1 hq with rfl | hq
  · exact h1.1 s (by simp) x c hx
  · exact h2.1 q hq x hx c
theorem Env.rot3 {w wr : World} {r s t : Res} {rs : List Res} (h : Env w wr (r :: s :: t :: rs)) : Env w wr (t :: r :: s :: rs) := by
  have hm : ∀ q, q ∈ t :: r :: s :: rs → q ∈ r :: s :: t :: rs := by intro q hq; simp at hq ⊢; rcases hq with h | h | h | h <;> simp [h]
  refine ⟨h.bel, fun q hq => h.hold q (hm q hq), fun q hq => h.low q (hm q hq), ?_⟩
  have h1 := List.pairwise_cons.1 h.dis
  have h2 := List.pairwise_cons.1 h1.2
  have h3 := List.pairwise_cons.1 h2.2
  refine List.Pairwise.cons (fun q hq x hx c => ?_) (List.Pairwise.cons (fun q hq => ?_) (List.Pairwise.cons (fun q hq => h2.1 q (List.mem_cons_of_mem _ hq)) h3.2))
  · rcases List.mem_cons.1 hq with rfl | hq
    · exact h1.1 t (by simp) x c hx
    · rcases List.mem_cons.1 hq with rfl | hq
      · exact h2.1 t (by simp) x c hx
      · exact h3.1 q hq x hx c
  · rcases List.mem_cons.1 hq with rfl | hq
    · exact h1.1 q (by simp)
    · exact h1.1 q (List.mem_cons_of_mem _ (List.mem_cons_of_mem _ hq))
theorem Env.drop {w wr : World} {r : Res} {rs : List Res} (h : Env w wr (r :: rs)) : Env w wr rs :=
  ⟨h.bel, fun q hq => h.hold q (List.mem_cons_of_mem _ hq), fun q hq => h.low q (List.mem_cons_of_mem _ hq), (List.pairwise_cons.1 h.dis).2⟩
theorem Env.hd {w wr : World} {r : Res} {rs : List Res} (h : Env w wr (r :: rs)) : r.P wr := h.hold r (by simp)
theorem Env.sd {w wr : World} {r s : Res} {rs : List Res} (h : Env w wr (r :: s :: rs)) : s.P wr := h.hold s (by simp)
theorem Env.apart {w wr : World} {r s : Res} {rs : List Res} (h : Env w wr (r :: s :: rs)) : ∀ x ∈ r.Z, x ∉ s.Z := (List.pairwise_cons.1 h.dis).1 s (by simp)

end Go.Proofs.YtcbafeneaoaglaaGreatDoor
