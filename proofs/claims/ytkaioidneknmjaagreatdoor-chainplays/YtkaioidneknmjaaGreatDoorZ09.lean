/- Texts joined: NDdA NDdB NDdC. -/
import Derived.Test.YtkaioidneknmjaaGreatDoorZ06
import Derived.Test.YtkaioidneknmjaaGreatDoorNTmB
import Derived.Deep.QuietTactic
import Derived.Deep.RegionHeld3
import Derived.Test.YtkaioidneknmjaaGreatDoorZ03
/- Contracts of missing, canMake, opener and wait of package deduce. -/
namespace Go.Proofs.YtkaioidneknmjaaGreatDoor.Tn
open Go.RowKit Go.Maps

theorem getT_nat {L : List Tm} (hG : Good L) {m : Nat} (h1 : 1 ≤ m) (h2 : m ≤ L.length) : thr L.length (m : Int) = true ∧ getT L (m : Int) = tmAt L m ∧ (tmAt L m).a = (pA L m : Int) ∧ (tmAt L m).b = (pB L m : Int) := by
  have ht : thr L.length (m : Int) = true := thr_iff.2 (by omega)
  have := hG.tmAt_parts h1 h2
  exact ⟨ht, by simp [getT, ht], this.1, this.2⟩
/-- What opens what is sealed with A. -/
def opA (L : List Tm) (A : Nat) : Nat := if kdOf L A = 5 then pA L A else A
theorem opn_opA (L : List Tm) (m : Nat) : opn L m = opA L (pA L m) := rfl

/-- The contract of Get at a number that is there. -/
theorem get_nat (b : Nat) (sv : Value) (mb : Nat) (L : List Tm) (m : Nat) (w : World) (h : St w b sv mb L) (h1 : 1 ≤ m) (h2 : m ≤ L.length) :
    Calls Tryz.prog 34 #[.pointer (some ⟨b, 0, none⟩), .int .i64 (m : Int)] w fun e w' => e = .returned (.tuple #[.agg #[.int .u8 (kdOf L m), .int .i64 (tmAt L m).n, .int .i64 (pA L m : Int), .int .i64 (pB L m : Int)], .bool true]) ∧ Below w.heap.size w w' := by
  obtain ⟨e1, e2, e3, e4⟩ := getT_nat h.good h1 h2
  have K := get_any b sv mb L m w h
  rw [e1, e2, e3, e4] at K
  exact K

/-! A term that is got, and laid into a block of its own, ahead of the call or behind it. -/
theorem new4_kept {w W : World} {x0 x1 x2 x3 : Value} {t : TypeId} (hb : Below (w.alloc (.cells #[x0, x1, x2, x3] t)).heap.size (w.alloc (.cells #[x0, x1, x2, x3] t)) W) :
    W.cell? ⟨w.heap.size, 0, none⟩ = some x0 ∧ W.cell? ⟨w.heap.size, 1, none⟩ = some x1 ∧ W.cell? ⟨w.heap.size, 2, none⟩ = some x2 ∧ W.cell? ⟨w.heap.size, 3, none⟩ = some x3 ∧ (∀ j, W.frozen? ⟨w.heap.size, j, none⟩ = false) ∧ w.heap.size < W.heap.size ∧ W.heap[w.heap.size]? = some (.cells #[x0, x1, x2, x3] t (0, 0)) := by
  have e : W.heap[w.heap.size]? = some (.cells #[x0, x1, x2, x3] t (0, 0)) := by rw [hb.block _ (by simp)]; exact heap_alloc_new _ _
  exact ⟨by simp [World.cell?, e], by simp [World.cell?, e], by simp [World.cell?, e], by simp [World.cell?, e], fun j => by simp [World.frozen?, e], lt_of_blk e, e⟩
theorem bw_put4 {w W : World} (h : Below w.heap.size w W) {g : Nat} (hg : w.heap.size ≤ g) (v0 v1 v2 v3 : Value) : Below w.heap.size w ((((W.setCell ⟨g, 0, none⟩ v0).setCell ⟨g, 1, none⟩ v1).setCell ⟨g, 2, none⟩ v2).setCell ⟨g, 3, none⟩ v3) :=
  (((h.setCell hg _).setCell hg _).setCell hg _).setCell hg _
theorem tat_put4 {W : World} {g : Nat} {x0 x1 x2 x3 : Value} {t : TypeId} (e : W.heap[g]? = some (.cells #[x0, x1, x2, x3] t (0, 0))) (u : Tm) : TAt ((((W.setCell ⟨g, 0, none⟩ (.int .u8 u.kd)).setCell ⟨g, 1, none⟩ (.int .i64 u.n)).setCell ⟨g, 2, none⟩ (.int .i64 u.a)).setCell ⟨g, 3, none⟩ (.int .i64 u.b)) g 0 u := by
  refine ⟨?_, ?_, ?_, ?_⟩ <;> simp [World.cell?, World.setCell, Array.getElem?_modify, e]
theorem tat_new (w : World) (u : Tm) (t : TypeId) : TAt (w.alloc (.cells #[.int .u8 u.kd, .int .i64 u.n, .int .i64 u.a, .int .i64 u.b] t)) w.heap.size 0 u := by
  unfold TAt World.cell?; simp only [heap_alloc_new]; exact ⟨rfl, rfl, rfl, rfl⟩
/-- The term is there. -/
structure Gt (w W : World) (h : Nat) (u : Tm) : Prop where
  bel : Below w.heap.size w W
  lay : TAt W h 0 u
  pl : w.heap.size ≤ h
theorem Gt.cells {w W : World} {h : Nat} {u : Tm} (k : Gt w W h u) : W.cell? ⟨h, 0, none⟩ = some (.int .u8 u.kd) ∧ W.cell? ⟨h, 1, none⟩ = some (.int .i64 u.n) ∧ W.cell? ⟨h, 2, none⟩ = some (.int .i64 u.a) ∧ W.cell? ⟨h, 3, none⟩ = some (.int .i64 u.b) := by
  have := k.lay; unfold TAt at this; simpa using this
theorem Gt.new {w W W1 : World} {h : Nat} {u : Tm} (k : Gt w W h u) (hb : Below W.heap.size W W1) : Gt w W1 h u := ⟨bw_tr k.bel hb, k.lay.keep (hb.block h k.lay.lt), k.pl⟩
theorem gt_new {w z : World} (u : Tm) (t : TypeId) (h : Below w.heap.size w z) : Gt w (z.alloc (.cells #[.int .u8 u.kd, .int .i64 u.n, .int .i64 u.a, .int .i64 u.b] t)) z.heap.size u :=
  ⟨h.alloc h.size _, tat_new z u t, h.size⟩
theorem gt_put {w z : World} {g : Nat} {x0 x1 x2 x3 : Value} {t : TypeId} (u : Tm) (h : Below w.heap.size w z) (hg : w.heap.size ≤ g) (e : z.heap[g]? = some (.cells #[x0, x1, x2, x3] t (0, 0))) : Gt w ((((z.setCell ⟨g, 0, none⟩ (.int .u8 u.kd)).setCell ⟨g, 1, none⟩ (.int .i64 u.n)).setCell ⟨g, 2, none⟩ (.int .i64 u.a)).setCell ⟨g, 3, none⟩ (.int .i64 u.b)) g u :=
  ⟨bw_put4 h hg _ _ _ _, tat_put4 e u, hg⟩

end Go.Proofs.YtkaioidneknmjaaGreatDoor.Tn

/- A row of what is known grows by one; the contract of wait of package deduce. -/
namespace Go.Proofs.YtkaioidneknmjaaGreatDoor.Tn
open Go.RowKit Go.Maps

/-- A link more. -/
theorem cells_new2 (w : World) (x0 x1 : Value) (t : TypeId) : ∀ j u, [x0, x1][j]? = some u → (w.alloc (.cells #[x0, x1] t)).cell? ((⟨w.heap.size, 0, none⟩ : Addr).add j) = some u := by
  intro j u hj
  have e : ∀ j, (⟨w.heap.size, 0, none⟩ : Addr).add j = ⟨w.heap.size, j, none⟩ := fun j => by cases j <;> simp [Addr.add]
  rw [e]
  unfold World.cell?; simp only [heap_alloc_new]
  match j, hj with
  | 0, hj | 1, hj => simpa using hj
  | j + 2, hj => simp at hj
theorem Tryz.infoBool : (Tryz.prog.info? 4).map (fun i => (i.zero, i.size, i.bytes)) = some (some (.bool false), 1, 1) := by kernel_rfl

end Go.Proofs.YtkaioidneknmjaaGreatDoor.Tn

/- The contract of read of package deduce. -/
namespace Go.Proofs.YtkaioidneknmjaaGreatDoor.Tn
open Go.RowKit Go.Maps

/-- A term that lies beside. -/
structure Tk (W : World) (Z : List Nat) (h : Nat) (u : Tm) : Prop where
  lay : TAt W h 0 u
  out : h ∉ Z
theorem Tk.step {W W' : World} {Z Z' : List Nat} {h : Nat} {u : Tm} (k : Tk W Z h u) (m : Mv W W' Z Z') : Tk W' Z' h u :=
  ⟨k.lay.keep (m.fr.block h k.lay.lt k.out), fun c => by
    rcases m.place h c with q | q
    · exact k.out q
    · have := k.lay.lt; omega⟩
theorem Tk.new {W W' : World} {Z : List Nat} {h : Nat} {u : Tm} (k : Tk W Z h u) (hb : Below W.heap.size W W') : Tk W' Z h u := k.step (Mv.same _ hb)
theorem Tk.cells {W : World} {Z : List Nat} {h : Nat} {u : Tm} (k : Tk W Z h u) : W.cell? ⟨h, 0, none⟩ = some (.int .u8 u.kd) ∧ W.cell? ⟨h, 1, none⟩ = some (.int .i64 u.n) ∧ W.cell? ⟨h, 2, none⟩ = some (.int .i64 u.a) ∧ W.cell? ⟨h, 3, none⟩ = some (.int .i64 u.b) := by
  have := k.lay; unfold TAt at this; simpa using this
theorem Tk.grown {W W' : World} {Z : List Nat} {h : Nat} {u : Tm} {ob : Obj} {row : Option Nat} (k : Tk W Z h u) (hg : (W.alloc ob).grownBy W' row) (hr : ∀ x, row = some x → x ∈ Z) : Tk W' Z h u :=
  ⟨k.lay.keep (by rw [hg.block h (by have := k.lay.lt; simp; omega) (fun c => k.out (hr h c.symm)), Below.heap_alloc _ _ _ k.lay.lt]), k.out⟩
theorem Lk.moreN {L : List Tm} {F : List Bool} {fs : List Nat} {ls : List (Nat × Nat)} {M : Nat} (h : Lk L F fs ls none2 0) (hG : Good L) (hM : F.length = M) (hl : M ≤ L.length) (x : Bool) : Lk L (F ++ [x]) (fs ++ [0]) ls (fun m _ => m = M) 3 := by
  subst hM; exact h.more hG hl x
theorem Lk.done2 {L : List Tm} {F : List Bool} {fs : List Nat} {ls : List (Nat × Nat)} {M A B s : Nat} (h : Lk L F fs ls (fun m d => (m = M ∧ ¬ (m = M ∧ d = A)) ∧ ¬ (m = M ∧ d = B)) s) (hA : A = pA L M) (hB : B = pB L M) (hk : kdOf L M ≠ 6) : Lk L F fs ls none2 0 :=
  h.weak fun m d _ _ hd hx => by
    obtain ⟨⟨rfl, h2⟩, h3⟩ := hx
    rcases hd with e | e | ⟨e, _⟩
    · exact h2 ⟨rfl, by rw [hA]; exact e⟩
    · exact h3 ⟨rfl, by rw [hB]; exact e⟩
    · exact hk e
theorem Lk.done3 {L : List Tm} {F : List Bool} {fs : List Nat} {ls : List (Nat × Nat)} {M A B C s : Nat} (h : Lk L F fs ls (fun m d => ((m = M ∧ ¬ (m = M ∧ d = A)) ∧ ¬ (m = M ∧ d = B)) ∧ ¬ (m = M ∧ d = C)) s) (hA : A = pA L M) (hB : B = pB L M) (hC : C = opn L M) : Lk L F fs ls none2 0 :=
  h.weak fun m d _ _ hd hx => by
    obtain ⟨⟨⟨rfl, h2⟩, h3⟩, h4⟩ := hx
    rcases hd with e | e | ⟨_, e⟩
    · exact h2 ⟨rfl, by rw [hA]; exact e⟩
    · exact h3 ⟨rfl, by rw [hB]; exact e⟩
    · exact h4 ⟨rfl, by rw [hC]; exact e⟩
theorem one_bool (x : Bool) : ∀ u ∈ [Value.bool x], u.oneCell' = true := by intro u hu; simp at hu; subst hu; rfl
theorem one_int (x : Int) : ∀ u ∈ [Value.int .i64 x], u.oneCell' = true := by intro u hu; simp at hu; subst hu; rfl

end Go.Proofs.YtkaioidneknmjaaGreatDoor.Tn
