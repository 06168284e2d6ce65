/- Plain trees: what may be, who is in, who comes and goes. No walk is in this text. -/
import Derived.Test.YtjjkhjiiakamaaaDoorIxList
namespace Go.Proofs.YtjjkhjiiakamaaaDoor
open Go.RowKit

structure Nd where
  pub : Int
  mem : Int
  ep : Int
  un : List Int
theorem Nd.eq {a b : Nd} (h1 : a.pub = b.pub) (h2 : a.mem = b.mem) (h3 : a.ep = b.ep) (h4 : a.un = b.un) : a = b := by
  cases a; cases b; simp_all
def nd0 : Nd := ⟨0, 0, 0, []⟩
def ndAt (T : List Nd) (x : Nat) : Nd := T.getD x nd0
def nlv (T : List Nd) : Nat := (T.length + 1) / 2
def lvs (T : List Nd) : List Nd := (List.range (nlv T)).map fun i => ndAt T (2 * i)
/-- Not blank. -/
def pos (n : Nd) : Bool := n.pub != 0
def memsOf (L : List Nd) : List Int := (L.filter pos).map (·.mem)
def mems (T : List Nd) : List Int := memsOf (lvs T)
def hit (m : Int) (n : Nd) : Bool := pos n && n.mem == m
def fnd (T : List Nd) (m : Int) : Int := if (lvs T).findIdx (hit m) < nlv T then ((lvs T).findIdx (hit m) : Nat) else -1
def fb (T : List Nd) : Nat := (lvs T).findIdx fun n => !pos n
def anyM (T : List Nd) (a b : Nat) : Bool := (List.range b).any fun i => decide (a ≤ i) && pos (ndAt T (2 * i))
def unM (T : List Nd) (first last : Int) : List Int → Bool
  | [] => true
  | u :: us => decide (first ≤ u) && decide (u ≤ last) && pos (ndAt T (2 * u.toNat)) && unM T (u + 1) last us
def ndM (T : List Nd) (x : Nat) : Bool :=
  if (ndAt T x).pub = 0 then (ndAt T x).mem == 0 && (ndAt T x).ep == 0 && (ndAt T x).un.isEmpty
  else if (ndAt T x).pub < 0 then false
  else if x % 2 = 0 then decide (0 ≤ (ndAt T x).mem) && decide (0 ≤ (ndAt T x).ep) && (ndAt T x).un.isEmpty
  else (ndAt T x).mem == 0 && (ndAt T x).ep == 0 && unM T (spF (x : Nat)) (spT (x : Nat)) (ndAt T x).un
def mayB (T : List Nd) : Bool := T.isEmpty || (decide (nlv T ≤ 8) && decide (wid (nlv T : Nat) = (T.length : Nat)) && (List.range T.length).all (ndM T) && decide (mems T).Nodup && anyM T (nlv T / 2) (nlv T))

def upN (n i : Nat) : List Nat := (dir ((2 * i : Nat) : Int) (n : Nat)).map Int.toNat
def sdN (n i : Nat) : List Nat := (cop ((2 * i : Nat) : Int) (n : Nat)).map Int.toNat
def lN (x : Nat) : Nat := (lfV (x : Nat)).toNat
def rN (x : Nat) : Nat := (rtV (x : Nat)).toNat
def rsF : Nat → List Nd → Nat → List Int
  | 0, _, _ => []
  | f + 1, T, x => if pos (ndAt T x) = true then (x : Int) :: (ndAt T x).un.map (2 * ·) else if x % 2 = 0 then [] else rsF f T (lN x) ++ rsF f T (rN x)
/-- The resolution. -/
def rsl (T : List Nd) (x : Nat) : List Int := rsF 5 T x
def prs (T : List Nd) (i : Nat) : List (Nat × List Int) := (((upN (nlv T) i).zip (sdN (nlv T) i)).map fun p => (p.1, rsl T p.2)).filter fun p => !p.2.isEmpty
def pth (T : List Nd) (i : Nat) : List Int := (prs T i).map fun p => (p.1 : Int)
def oth (T : List Nd) (i : Nat) : List (List Int) := (prs T i).map (·.2)
def keepF (fresh : List Int) (x : Int) : Bool := !(x % 2 == 0 && fresh.contains (x / 2))
def tgt (T : List Nd) (i : Nat) (fresh : List Int) : List (List Int) := (oth T i).map fun l => l.filter (keepF fresh)

def insU (u : Int) (l : List Int) : List Int := l.takeWhile (fun z => decide (z < u)) ++ u :: l.dropWhile (fun z => decide (z < u))
def addU (u : Int) (n : Nd) : Nd := if pos n = true then ⟨n.pub, n.mem, n.ep, insU u n.un⟩ else n
def fit (m : Nat) (T : List Nd) : List Nd := (List.range m).map (ndAt T)
def onAll (f : Nd → Nd) (xs : List Nat) (T : List Nd) : List Nd := xs.foldl (fun T x => T.set x (f (ndAt T x))) T
def wRoom (n i : Nat) : Nat := if i < n then n else if n = 0 then 1 else 2 * n
def addT (T : List Nd) (m e p : Int) : List Nd :=
  onAll (addU (fb T : Nat)) (upN (wRoom (nlv T) (fb T)) (fb T)) ((fit (2 * wRoom (nlv T) (fb T) - 1) T).set (2 * fb T) ⟨p, m, e, []⟩)
def addE (T : List Nd) (m e p : Int) : Int :=
  if mayB T = false ∨ m < 0 ∨ e < 0 ∨ p < 1 then 1 else if 0 ≤ fnd T m then 13 else if fb T = 8 then 3 else 0
def blk (i : Nat) (T : List Nd) : List Nd := onAll (fun _ => nd0) (upN (nlv T) i) (T.set (2 * i) nd0)
def needF : Nat → List Nd → Nat → Nat
  | 0, _, n => n
  | f + 1, T, n => if 1 < n ∧ anyM T (n / 2) n = false then needF f T (n / 2) else n
def need (T : List Nd) : Nat := needF 4 T (nlv T)
def remT (T : List Nd) (m : Int) : List Nd := fit (2 * need (blk (fnd T m).toNat T) - 1) (blk (fnd T m).toNat T)
def remE (T : List Nd) (m : Int) : Int :=
  if mayB T = false then 1 else if fnd T m < 0 then 7 else if (mems T).length = 1 then 9 else 0
/-- Is there a leaf of that number, with a member? -/
def hasL (T : List Nd) (i : Int) : Bool := decide (0 ≤ i) && decide (i < (nlv T : Nat)) && pos (ndAt T (2 * i.toNat))
def askE (T : List Nd) (i : Int) : Int := if mayB T = false then 1 else if hasL T i = false then 7 else 0
def setP (T : List Nd) (xs : List Int) (ps : List Int) : List Nd := (xs.zip ps).foldl (fun T q => T.set q.1.toNat ⟨q.2, (ndAt T q.1.toNat).mem, (ndAt T q.1.toNat).ep, (ndAt T q.1.toNat).un⟩) T
def setT (T : List Nd) (i : Nat) (e p : Int) (ps : List Int) : List Nd :=
  setP (onAll (fun _ => nd0) (upN (nlv T) i) (T.set (2 * i) ⟨p, (ndAt T (2 * i)).mem, e, (ndAt T (2 * i)).un⟩)) (pth T i) ps
def setE (T : List Nd) (i e p : Int) (ps : List Int) : Int :=
  if mayB T = false ∨ e < 0 ∨ p < 1 then 1 else if hasL T i = false then 7 else if ps.length ≠ (pth T i.toNat).length ∨ ps.any (fun q => decide (q < 1)) = true then 1 else 0

/-! What is so of small trees, looked through. -/
def sizes : List Nat := [1, 2, 4, 8]
theorem fin_up : (sizes.all fun n => (List.range n).all fun i => decide (dir ((2 * i : Nat) : Int) (n : Nat) = (upN n i).map fun (x : Nat) => (x : Int)) && decide (cop ((2 * i : Nat) : Int) (n : Nat) = (sdN n i).map fun (x : Nat) => (x : Int))
    && decide ((upN n i).length = (sdN n i).length) && decide (upN n i).Nodup && (upN n i).all (fun x => decide (x < 2 * n - 1) && decide (x % 2 = 1)) && (sdN n i).all (fun x => decide (x < 2 * n - 1))) = true := by decide +kernel
theorem fin_in : (sizes.all fun n => (List.range n).all fun i => (List.range (2 * n - 1)).all fun x => decide ((upN n i).contains x = (decide (x % 2 = 1) && decide (spF (x : Nat) ≤ (i : Nat)) && decide ((i : Nat) ≤ spT (x : Nat))))) = true := by decide +kernel
theorem fin_span : (sizes.all fun n => (List.range (2 * n - 1)).all fun x => decide (0 ≤ spF (x : Nat)) && decide (spF (x : Nat) ≤ spT (x : Nat)) && decide (spT (x : Nat) < (n : Nat)) && (decide (x % 2 = 1) || decide (2 * spF (x : Nat) = (x : Nat) ∧ 2 * spT (x : Nat) = (x : Nat)))
    && (decide (x % 2 = 0) || (decide (lfV (x : Nat) = (lN x : Nat)) && decide (rtV (x : Nat) = (rN x : Nat)) && decide (lfB (x : Nat) = true) && decide (rtB (x : Nat) = true) && decide (lN x < 2 * n - 1) && decide (rN x < 2 * n - 1) && decide (lvl (lN x : Nat) + 1 = lvl (x : Nat)) && decide (lvl (rN x : Nat) + 1 = lvl (x : Nat))
      && decide (spF (lN x : Nat) = spF (x : Nat)) && decide (spT (lN x : Nat) + 1 = spF (rN x : Nat)) && decide (spT (rN x : Nat) = spT (x : Nat))))
    && decide (0 ≤ lvl (x : Nat)) && decide (lvl (x : Nat) ≤ 3) && decide ((lvl (x : Nat) = 0) ↔ x % 2 = 0) && decide (lfB (x : Nat) = decide (x % 2 = 1))) = true := by decide +kernel
theorem fin_wi : ((List.range 15).all fun x => (List.range 8).all fun i => decide (wi ((2 * i : Nat) : Int) (x : Nat) = (decide (spF (x : Nat) ≤ (i : Nat)) && decide ((i : Nat) ≤ spT (x : Nat))))) = true := by decide +kernel
theorem fin_sd : (sizes.all fun n => (List.range n).all fun i => (List.range n).all fun j => decide (((sdN n i).filter fun s => wi ((2 * j : Nat) : Int) (s : Nat)).length = if i = j then 0 else 1)) = true := by decide +kernel
end Go.Proofs.YtjjkhjiiakamaaaDoor
