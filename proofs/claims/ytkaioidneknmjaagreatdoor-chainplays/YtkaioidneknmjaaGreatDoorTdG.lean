/- Numbers of a Book, and what is kept beside it. -/
import Derived.Test.YtkaioidneknmjaaGreatDoorTdF
import Derived.Laws.Tables
namespace Go.Proofs.YtkaioidneknmjaaGreatDoor.Tn.Td
open Go.RowKit Go.Maps

theorem numbers_any (B b : Nat) (lv : Value) (vs : List Value) (p : Option Addr) (n cap : Nat) (w : World) (h : Bk B w b lv vs) (hB : B ≤ w.heap.size) (hl : vs.length ≤ 100) :
    Calls Tryz.prog 14 #[.pointer (some ⟨b, 0, none⟩), .slice p n cap] w fun e w' => e = .returned (.tuple #[]) ∧ ∃ lv', Bk B w' b lv' (vs ++ [.slice p n cap]) ∧ Fr (b :: lv.ownBlock.toList) w w' ∧ (∀ k, lv'.ownBlock = some k → lv.ownBlock = some k ∨ w.heap.size ≤ k) := by
  have K := keep_any B b lv vs p n cap w h hB hl
  go_enter Tryz.func14, Tryz.ntmps14
  go_wp2_with fail
  refine K.mono ?_
  rintro e w1 ⟨rfl, hq⟩
  go_wp2
  go_end0
  exact ⟨rfl, hq⟩

theorem Ints.keep {B : Nat} {w w' : World} {b : Nat} {lv v : Value} {vs : List Value} {l : List Int} (h : Ints B w v l) (hk : Bk B w b lv vs) (hf : Fr (b :: lv.ownBlock.toList) w w') : Ints B w' v l := by
  refine ⟨h.1, ?_⟩
  rcases h.2 with h2 | ⟨g, cap, cur, hv, q0, hg, r⟩
  · exact Or.inl h2
  · refine Or.inr ⟨g, cap, cur, hv, q0, ?_, r⟩
    rw [hf.block g]
    · exact hg
    · rcases Nat.lt_or_ge g w.heap.size with h1 | h1
      · exact h1
      · rw [Array.getElem?_eq_none h1] at hg; cases hg
    · intro c
      rcases List.mem_cons.1 c with rfl | c
      · rw [hk.blk] at hg; simp at hg
      · have e : lv.ownBlock = some g := by simpa using c
        have := owns_type hk.own e hg
        exact absurd this (by decide)
theorem fr_below {B : Nat} {w w' : World} {b : Nat} {lv : Value} {vs : List Value} (hk : Bk B w b lv vs) (hb : B ≤ b) (hf : Fr (b :: lv.ownBlock.toList) w w') (hB : B ≤ w.heap.size) : Below B w w' := by
  refine ⟨hf.os, hf.tape, hf.output, hf.size, fun k hk2 => hf.block k (by omega) ?_⟩
  intro c
  rcases List.mem_cons.1 c with rfl | c
  · omega
  · have e : lv.ownBlock = some k := by simpa using c
    have := (World.ownsRow.lt hk.own k e).1
    omega
theorem setRow_new (w : World) (cells : Array Value) (t : TypeId) (new : Array Value) : ((w.alloc (.cells cells t)).setRow w.heap.size new).heap[w.heap.size]? = some (.cells new t (0, 0)) := by
  have h := heap_alloc_new w (.cells cells t)
  simp only [World.setRow, Array.getElem?_modify, h]
  simp
theorem setRow_below (w : World) (cells : Array Value) (t : TypeId) (new : Array Value) : Below w.heap.size w ((w.alloc (.cells cells t)).setRow w.heap.size new) := by
  have hb : Below w.heap.size w (w.alloc (.cells cells t)) := (Below.refl _ _).alloc (Nat.le_refl _) _
  refine ⟨hb.os, hb.tape, hb.output, by simp [World.setRow], fun k hk => ?_⟩
  rw [← hb.block k hk]
  have hne : ¬ w.heap.size = k := by omega
  simp only [World.setRow, Array.getElem?_modify, if_neg hne]
theorem two_apart {v1 v2 : Value} {a b c : Nat} (h1 : ∀ k, v1.ownBlock = some k → a ≤ k ∧ k < b) (h2 : ∀ k, v2.ownBlock = some k → b ≤ k ∧ k < c) :
    ∀ (i j : Nat) (u v : Value) (k : Nat), i ≠ j → [v1, v2][i]? = some u → [v1, v2][j]? = some v → u.ownBlock = some k → v.ownBlock ≠ some k := by
  intro i j u v k hij hu hv hk hk2
  have hb : ∀ (i : Nat) (u : Value), [v1, v2][i]? = some u → u.ownBlock = some k → (i = 0 ∧ a ≤ k ∧ k < b) ∨ (i = 1 ∧ b ≤ k ∧ k < c) := by
    intro i u hu hk
    match i, hu with
    | 0, hu => simp at hu; subst hu; exact Or.inl ⟨rfl, h1 k hk⟩
    | 1, hu => simp at hu; subst hu; exact Or.inr ⟨rfl, h2 k hk⟩
    | i + 2, hu => simp at hu
  have q1 := hb i u hu hk
  have q2 := hb j v hv hk2
  omega
theorem two_rows {B : Nat} {w : World} {v1 v2 : Value} {l1 l2 : List Int} (h1 : Ints B w v1 l1) (h2 : Ints B w v2 l2) : ∀ (i : Nat) (v : Value) (l : List Int), [v1, v2][i]? = some v → [l1, l2][i]? = some l → Ints B w v l := by
  intro i v l hv hl
  match i, hv, hl with
  | 0, hv, hl => simp at hv hl; subst hv; subst hl; exact h1
  | 1, hv, hl => simp at hv hl; subst hv; subst hl; exact h2
  | i + 2, hv, _ => simp at hv
end Go.Proofs.YtkaioidneknmjaaGreatDoor.Tn.Td
