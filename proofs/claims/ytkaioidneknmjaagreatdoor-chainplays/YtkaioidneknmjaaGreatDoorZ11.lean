/- Texts joined: NDdG NDdH NDdI NDdJ. -/
import Derived.Test.YtkaioidneknmjaaGreatDoorZ10
import Derived.Lib.SliceRun
import Derived.Test.YtkaioidneknmjaaGreatDoorZ03
/- Contracts of Clone, New and Follows of package deduce. -/
namespace Go.Proofs.YtkaioidneknmjaaGreatDoor.Tn
open Go.RowKit Go.Maps

theorem list_nil (b : Nat) (sv : Value) (mb : Nat) (L : List Tm) (a : Option Addr) (cap : Nat) (w : World) (h : St w b sv mb L) :
    Calls Tryz.prog 140 #[.pointer (some ⟨b, 0, none⟩), .slice a 0 cap] w fun e w' => e = .returned (.tuple #[.int .i64 0, .int .i64 0]) ∧ w' = w := by
  have K := missing_any b sv mb L w h
  clear h
  go_enter Tryz.func140, Tryz.ntmps140
  go_wp2_with fail
  refine K.mono ?_
  rintro e w ⟨rfl, rfl⟩
  go_wp2_with fail
  go_loopw [15] (fun iv wr => iv = .int .i64 0 ∧ wr = w) (fun _ _ => 0)
  case atStart => exact ⟨rfl, rfl⟩
  case round =>
    obtain ⟨rfl, hwr⟩ := hrel
    obtain rfl : w = wr := hwr.symm
    go_wp2_with fail
    go_ret2
    exact ⟨rfl, rfl⟩
/-- The error of New. -/
def newE (L : List Tm) (l : List Int) : Int := if l.all (thr L.length) = true then 0 else 1
theorem newE_ok {L : List Tm} {l : List Int} (h : ∀ x ∈ l, thr L.length x = true) : newE L l = 0 := by
  unfold newE; rw [if_pos (List.all_eq_true.2 h)]
theorem newE_bad {L : List Tm} {l : List Int} {x : Int} (hx : x ∈ l) (h : thr L.length x = false) : newE L l = 1 := by
  unfold newE
  rw [if_neg]
  intro c
  have := List.all_eq_true.1 c x hx
  rw [h] at this; cases this
theorem newE_zero {L : List Tm} {l : List Int} (h : newE L l = 0) : ∀ x ∈ l, thr L.length x = true := by
  unfold newE at h
  split at h
  · rename_i c; exact List.all_eq_true.1 c
  · cases h

end Go.Proofs.YtkaioidneknmjaaGreatDoor.Tn

/- The contract of Follows; what is known beside its store and other things; the chapter's example. -/
namespace Go.Proofs.YtkaioidneknmjaaGreatDoor.Tn
open Go.RowKit Go.Maps

theorem thr_or (L : List Tm) (x : Int) : thr L.length x = true ∨ thr L.length x = false := by cases thr L.length x <;> simp

def chap : List Tm := [⟨1, 1, 0, 0⟩, ⟨5, 0, 1, 0⟩, ⟨1, 2, 0, 0⟩, ⟨6, 0, 2, 3⟩, ⟨1, 3, 0, 0⟩, ⟨6, 0, 3, 5⟩, ⟨3, 0, 4, 6⟩, ⟨7, 0, 5, 0⟩]
theorem chap_fill : fillL [] chap = chap := by decide +kernel
theorem chap_good : Good chap := by
  have h : ∀ l L, Good L → Good (fillL L l) := by
    intro l
    induction l with
    | nil => intro L h; exact h
    | cons t l ih => intro L h; exact ih _ (h.made t)
  have := h chap [] good_nil
  rw [chap_fill] at this
  exact this
theorem chap_yes : Fol chap (fun m => (m : Int) ∈ [7, 1]) 5 := by
  have k7 : Fol chap (fun m => (m : Int) ∈ [(7 : Int), 1]) 7 := .known (by decide) (by decide) (by decide)
  have k1 : Fol chap (fun m => (m : Int) ∈ [(7 : Int), 1]) 1 := .known (by decide) (by decide) (by decide)
  have k4 : Fol chap (fun m => (m : Int) ∈ [(7 : Int), 1]) 4 := .pairA k7 (by decide)
  have k6 : Fol chap (fun m => (m : Int) ∈ [(7 : Int), 1]) 6 := .pairB k7 (by decide)
  have k3 : Fol chap (fun m => (m : Int) ∈ [(7 : Int), 1]) 3 := .opens k4 (by decide) k1
  exact .opens k6 (by decide) k3
theorem chap_no : ¬ Fol chap (fun m => (m : Int) ∈ [7]) 5 := by
  intro h
  have rg : ∀ m, 1 ≤ m → m ≤ chap.length → m ∈ [1, 2, 3, 4, 5, 6, 7, 8] := by
    intro m h1 h2
    have : m ≤ 8 := h2
    simp; omega
  have hc : Clo chap (fun m => m ∈ [4, 6, 7]) := by
    refine ⟨fun m h1 h2 => ?_, fun m h1 h2 => ?_, fun m h1 h2 => ?_, fun m h1 h2 => ?_⟩
    · exact (by decide : ∀ m ∈ [1, 2, 3, 4, 5, 6, 7, 8], kdOf chap m ≠ 1 → (pA chap m ≠ 0 → pA chap m ∈ [4, 6, 7]) → (pB chap m ≠ 0 → pB chap m ∈ [4, 6, 7]) → m ∈ [4, 6, 7]) m (rg m h1 h2)
    · exact (by decide : ∀ m ∈ [1, 2, 3, 4, 5, 6, 7, 8], m ∈ [4, 6, 7] → kdOf chap m = 3 → pA chap m ∈ [4, 6, 7]) m (rg m h1 h2)
    · exact (by decide : ∀ m ∈ [1, 2, 3, 4, 5, 6, 7, 8], m ∈ [4, 6, 7] → kdOf chap m = 3 → pB chap m ∈ [4, 6, 7]) m (rg m h1 h2)
    · exact (by decide : ∀ m ∈ [1, 2, 3, 4, 5, 6, 7, 8], m ∈ [4, 6, 7] → kdOf chap m = 6 → opn chap m ∈ [4, 6, 7] → pB chap m ∈ [4, 6, 7]) m (rg m h1 h2)
  have := h.least chap_good hc (fun m h1 h2 hk => by simp at hk; simp; omega)
  revert this; decide
theorem chap_facts : newE chap [7, 1] = 0 ∧ newE chap [7] = 0 ∧ thr chap.length 5 = true ∧ hasB chap (fun m => (m : Int) ∈ [7, 1]) 5 = true ∧ hasB chap (fun m => (m : Int) ∈ [7]) 5 = false := by
  refine ⟨by decide, by decide, by decide, hasB_iff.2 ⟨by decide, chap_yes⟩, ?_⟩
  cases e : hasB chap (fun m => (m : Int) ∈ [7]) 5
  · rfl
  · exact absurd (hasB_iff.1 e).2 chap_no

end Go.Proofs.YtkaioidneknmjaaGreatDoor.Tn

/- The chapter's example lives; what is known beside its store and other things, as the laws keep it. -/
namespace Go.Proofs.YtkaioidneknmjaaGreatDoor.Tn
open Go.RowKit Go.Maps

def chapC : Array Value := #[.int .u8 1, .int .i64 1, .int .i64 0, .int .i64 0, .int .u8 5, .int .i64 0, .int .i64 1, .int .i64 0, .int .u8 1, .int .i64 2, .int .i64 0, .int .i64 0, .int .u8 6, .int .i64 0, .int .i64 2, .int .i64 3, .int .u8 1, .int .i64 3, .int .i64 0, .int .i64 0, .int .u8 6, .int .i64 0, .int .i64 3, .int .i64 5, .int .u8 3, .int .i64 0, .int .i64 4, .int .i64 6, .int .u8 7, .int .i64 0, .int .i64 5, .int .i64 0]
theorem chap_flat : chap.flatMap tmC = chapC.toList := rfl
theorem chap_tms (w : World) : Tms (w.alloc (.cells chapC 89)) (.slice (some ⟨w.heap.size, 0, none⟩) 8 8) chap := by
  have hr : TmRow 0 (w.alloc (.cells chapC 89)) (.slice (some ⟨w.heap.size, 0, none⟩) 8 8) chap :=
    ⟨rfl, Or.inr ⟨w.heap.size, 8, chapC, rfl, Nat.zero_le _, heap_alloc_new _ _, Nat.le_refl _, by unfold maxLen; omega, rfl, rfl⟩⟩
  exact hr.tms (by decide)
theorem chap_ok : ∀ t ∈ chap, t.ok := by
  intro t ht
  simp only [chap, List.mem_cons, List.not_mem_nil, or_false] at ht
  rcases ht with rfl | rfl | rfl | rfl | rfl | rfl | rfl | rfl <;> exact ⟨by decide, by decide, by decide, by decide, by decide, by decide, by decide, by decide⟩
def resR (rb : Nat) (rv : Value) (R : List Tm) : Res := ⟨rfoot rb rv, fun w => Rs w rb rv R, fun _ _ _ h hf hd => h.keep hf hd, fun _ h => h.lt⟩
theorem Env.ofTwo {w wr : World} {b : Nat} {sv : Value} {mb rb : Nat} {rv : Value} {L R : List Tm} (h : Two w wr b sv mb rb rv L R) : Env w wr [resS b sv mb L, resR rb rv R] := by
  refine ⟨h.bel, ?_, ?_, ?_⟩
  · intro r hr
    simp at hr
    rcases hr with rfl | rfl
    · exact h.st
    · exact h.rs
  · intro r hr
    simp at hr
    rcases hr with rfl | rfl
    · exact h.low
    · exact h.rlow
  · simp only [List.pairwise_cons, List.mem_singleton, forall_eq, List.not_mem_nil, false_imp_iff, implies_true, List.Pairwise.nil, and_self, and_true]
    exact h.dis
theorem Env.imp {w wr : World} {r r' : Res} {rs : List Res} (h : Env w wr (r :: rs)) (hz : r'.Z = r.Z) (hp : r.P wr → r'.P wr) : Env w wr (r' :: rs) := by
  have := h.step (r' := r') (w1 := wr) ⟨Fr.refl _ _, fun x hx => Or.inl (by rw [← hz]; exact hx)⟩ (hp h.hd)
  exact this
/-- The first and the third change places. -/
theorem Env.flip3 {w wr : World} {r s t : Res} {rs : List Res} (h : Env w wr (r :: s :: t :: rs)) : Env w wr (t :: s :: r :: rs) := by
  have h1 := h.rot3
  have h2 := h1.drop.swap
  refine ⟨h.bel, fun q hq => ?_, fun q hq => ?_, ?_⟩
  · exact h.hold q (by simp at hq ⊢; rcases hq with c | c | c | c <;> simp [c])
  · exact h.low q (by simp at hq ⊢; rcases hq with c | c | c | c <;> simp [c])
  · refine List.Pairwise.cons (fun q hq => ?_) h2.dis
    have := (List.pairwise_cons.1 h1.dis).1 q
    exact this (by simp at hq ⊢; rcases hq with c | c | c <;> simp [c])
theorem env_make {w W : World} {b : Nat} {sv : Value} {mb : Nat} {L : List Tm} {rs : List Res} (h : Env w W (resS b sv mb L :: rs)) (t : Tm) (ht : t.ok) :
    Calls Tryz.prog 18 #[.pointer (some ⟨b, 0, none⟩), .agg #[.int .u8 t.kd, .int .i64 t.n, .int .i64 t.a, .int .i64 t.b]] W fun e W' => e = .returned (.tuple #[.int .i64 (mkN L t : Nat), .int .i64 (mkE L t)]) ∧ ∃ sv', Env w W' (resS b sv' mb (mkL L t) :: rs) := by
  refine (make_any b sv mb L t W h.hd ht).mono ?_
  rintro e W' ⟨rfl, sv', s⟩
  exact ⟨rfl, sv', h.step (r' := resS b sv' mb (mkL L t)) (go_S s) s.st⟩
theorem env_list {w W : World} {b : Nat} {sv : Value} {mb : Nat} {L : List Tm} {rs : List Res} (h : Env w W (resS b sv mb L :: rs)) (v : Value) (l : List Int) (hv : NIs W v l) (hsep : ∀ k, v.ownBlock = some k → k ∉ foot b sv mb) :
    Calls Tryz.prog 140 #[.pointer (some ⟨b, 0, none⟩), v] W fun e W' => e = .returned (.tuple #[.int .i64 (ls L l).2.1, .int .i64 (ls L l).2.2]) ∧ ∃ sv', Env w W' (resS b sv' mb (ls L l).1 :: rs) := by
  refine (list_any b sv mb L v l W h.hd hv hsep).mono ?_
  rintro e W' ⟨rfl, sv', s⟩
  exact ⟨rfl, sv', h.step (r' := resS b sv' mb _) (go_S s) s.st⟩

/-- The same of a list that the law was handed. -/
theorem env_lista {w W : World} {b : Nat} {sv : Value} {mb : Nat} {L : List Tm} {rs : List Res} (h : Env w W (resS b sv mb L :: rs)) (v : Value) (l : List Int) (hv : NIs w v l) :
    Calls Tryz.prog 140 #[.pointer (some ⟨b, 0, none⟩), v] W fun e W' => e = .returned (.tuple #[.int .i64 (ls L l).2.1, .int .i64 (ls L l).2.2]) ∧ ∃ sv', Env w W' (resS b sv' mb (ls L l).1 :: rs) := by
  have hv1 := hv
  obtain ⟨a, cap, rfl, _, _, hc⟩ := hv1
  rcases hc with c | ⟨g, o, rfl, hc⟩
  · subst c
    have e : ls L [] = (L, 0, 0) := by simp [ls]
    rw [e]
    refine (list_nil b sv mb L a cap W h.hd).mono ?_
    rintro e W' ⟨rfl, rfl⟩
    exact ⟨rfl, sv, h⟩
  · cases l with
    | nil =>
      have e : ls L [] = (L, 0, 0) := by simp [ls]
      rw [e]
      refine (list_nil b sv mb L _ cap W h.hd).mono ?_
      rintro e W' ⟨rfl, rfl⟩
      exact ⟨rfl, sv, h⟩
    | cons x l =>
      have hg : g < w.heap.size := lt_of_cell (hc 0 x rfl)
      refine env_list h _ _ (hv.bw h.bel) (fun k hk c => ?_)
      simp [Value.ownBlock] at hk
      subst hk
      have := h.low (resS b sv mb L) (by simp) _ c
      omega
theorem fill_good (l L : List Tm) (h : Good L) : Good (fillL L l) := by
  induction l generalizing L with
  | nil => exact h
  | cons t l ih => exact ih _ (h.made t)
theorem NIs.len {w : World} {v : Value} {l : List Int} (h : NIs w v l) : l.length ≤ 140737488355328 := by obtain ⟨_, _, _, h, _⟩ := h; exact h
theorem NIs.get {w : World} {a : Option Addr} {cap : Nat} {l : List Int} (h : NIs w (.slice a l.length cap) l) {i : Nat} {z : Int} (hi : l[i]? = some z) : ∃ g o, a = some ⟨g, o, none⟩ ∧ ∀ W, Below w.heap.size w W → W.cell? ⟨g, o + i, none⟩ = some (.int .i64 z) := by
  obtain ⟨a', cap', hv, _, _, hc⟩ := h
  cases hv
  rcases hc with c | ⟨g, o, rfl, hc⟩
  · rw [c] at hi; simp at hi
  · refine ⟨g, o, rfl, fun W hW => ?_⟩
    have := hc i z hi
    rw [World.cell?_of_block (w := w) (hW.block _ (lt_of_cell this))]; exact this

end Go.Proofs.YtkaioidneknmjaaGreatDoor.Tn

/- Two of what is known beside their store, and a row of numbers, as the laws keep them. -/
namespace Go.Proofs.YtkaioidneknmjaaGreatDoor.Tn
open Go.RowKit Go.Maps

theorem Env.sub {w wr : World} {rs rs' : List Res} (h : Env w wr rs) (hs : rs'.Sublist rs) : Env w wr rs' :=
  ⟨h.bel, fun q hq => h.hold q (hs.subset hq), fun q hq => h.low q (hs.subset hq), h.dis.sublist hs⟩
/-- A row of numbers. -/
def resN (v : Value) (l : List Nat) : Res := ⟨v.ownBlock.toList, fun w => NRow 0 w v l, fun _ _ _ h hf hd => h.keep (fun k hk => hf.block k (h.lt k hk).2 (hd k (by simpa using hk))), fun _ h x hx => (h.lt x (by simpa using hx)).2⟩
end Go.Proofs.YtkaioidneknmjaaGreatDoor.Tn
