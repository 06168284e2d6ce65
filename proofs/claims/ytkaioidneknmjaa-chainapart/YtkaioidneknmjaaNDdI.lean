/- The chapter's example lives; what is known beside its store and other things, as the laws keep it. -/
import Derived.Test.YtkaioidneknmjaaNDdH
namespace Go.Proofs.Ytkaioidneknmjaa.Tn
open Go.RowKit Go.Maps

def chapC : Array Value := #[.int .u8 1, .int .i64 1, .int .i64 0, .int .i64 0, .int .u8 5, .int .i64 0, .int .i64 1, .int .i64 0, .int .u8 1, .int .i64 2, .int .i64 0, .int .i64 0, .int .u8 6, .int .i64 0, .int .i64 2, .int .i64 3, .int .u8 1, .int .i64 3, .int .i64 0, .int .i64 0, .int .u8 6, .int .i64 0, .int .i64 3, .int .i64 5, .int .u8 3, .int .i64 0, .int .i64 4, .int .i64 6, .int .u8 7, .int .i64 0, .int .i64 5, .int .i64 0]
theorem chap_flat : chap.flatMap tmC = chapC.toList := rfl
theorem chap_tms (w : World) : Tms (w.alloc (.cells chapC 40)) (.slice (some ⟨w.heap.size, 0, none⟩) 8 8) chap := by
  have hr : TmRow 0 (w.alloc (.cells chapC 40)) (.slice (some ⟨w.heap.size, 0, none⟩) 8 8) chap :=
    ⟨rfl, Or.inr ⟨w.heap.size, 8, chapC, rfl, Nat.zero_le _, heap_alloc_new _ _, Nat.le_refl _, by unfold maxLen; omega, rfl, rfl⟩⟩
  exact hr.tms (by decide)
theorem chap_ok : ∀ t ∈ chap, t.ok := by
  intro t ht
  simp only [chap, List.mem_cons, List.not_mem_nil, or_false] at ht
  rcases ht with rfl | rfl | rfl | rfl | rfl | rfl | rfl | rfl <;> exact ⟨by decide, by decide, by decide, by decide, by decide, by decide, by decide, by decide⟩
def resR (rb : Nat) (rv : Value) (R : List Tm) : Res := ⟨rfoot rb rv, fun w => Rs w rb rv R, fun _ _ _ h hf hd => h.keep hf hd, fun _ h => h.lt⟩
theorem Env.ofTwo {w wr : World} {b : Nat} {sv : Value} {mb rb : Nat} {rv : Value} {L R : List Tm} (h : Two w wr b sv mb rb rv L R) : Env w wr [resS b sv mb L, resR rb rv R] := by
  refine ⟨h.bel, ?_, ?_, ?_⟩
  · intro r hr
    simp at hr
    rcases hr with rfl | rfl
    · exact h.st
    · exact h.rs
  · intro r hr
    simp at hr
    rcases hr with rfl | rfl
    · exact h.low
    · exact h.rlow
  · simp only [List.pairwise_cons, List.mem_singleton, forall_eq, List.not_mem_nil, false_imp_iff, implies_true, List.Pairwise.nil, and_self, and_true]
    exact h.dis
theorem Env.imp {w wr : World} {r r' : Res} {rs : List Res} (h : Env w wr (r :: rs)) (hz : r'.Z = r.Z) (hp : r.P wr → r'.P wr) : Env w wr (r' :: rs) := by
  have := h.step (r' := r') (w1 := wr) ⟨Fr.refl _ _, fun x hx => Or.inl (by rw [← hz]; exact hx)⟩ (hp h.hd)
  exact this
/-- The first and the third change places. -/
theorem Env.flip3 {w wr : World} {r s t : Res} {rs : List Res} (h : Env w wr (r :: s :: t :: rs)) : Env w wr (t :: s :: r :: rs) := by
  have h1 := h.rot3
  have h2 := h1.drop.swap
  refine ⟨h.bel, fun q hq => ?_, fun q hq => ?_, ?_⟩
  · exact h.hold q (by simp at hq ⊢; rcases hq with c | c | c | c <;> simp [c])
  · exact h.low q (by simp at hq ⊢; rcases hq with c | c | c | c <;> simp [c])
  · refine List.Pairwise.cons (fun q hq => ?_) h2.dis
    have := (List.pairwise_cons.1 h1.dis).1 q
    exact this (by simp at hq ⊢; rcases hq with c | c | c <;> simp [c])
theorem env_has {w W : World} {kb b : Nat} {sv : Value} {mb : Nat} {L : List Tm} {K : Nat → Prop} {Z : List Nat} {rs : List Res} (h : Env w W (resK kb b L K Z :: resS b sv mb L :: rs)) (x : Int) :
    Calls Try.prog 16 #[.pointer (some ⟨kb, 0, none⟩), .int .i64 x] W fun e W' => e = .returned (.bool (hasB L K x)) ∧ ∃ Z', Env w W' (resK kb b L K Z' :: resS b sv mb L :: rs) := by
  refine (kHas_any kb b sv mb L K Z x W h.hd h.sd h.apart).mono ?_
  rintro e W' ⟨rfl, Z', k, m⟩
  exact ⟨rfl, Z', h.step (r' := resK kb b L K Z') m k⟩
theorem env_new {w W : World} {b : Nat} {sv : Value} {mb : Nat} {L : List Tm} {rs : List Res} (h : Env w W (resS b sv mb L :: rs)) (a : Option Addr) (cap : Nat) (l : List Int) (hv : NIs W (.slice a l.length cap) l) (hl : l.length ≤ 65536) :
    Calls Try.prog 14 #[.pointer (some ⟨b, 0, none⟩), .slice a l.length cap] W fun e W' => ∃ p, e = .returned (.tuple #[.pointer p, .int .i64 (newE L l)]) ∧ ((newE L l = 1 ∧ p = none ∧ Env w W' (resS b sv mb L :: rs)) ∨ (newE L l = 0 ∧ ∃ kb Z, p = some ⟨kb, 0, none⟩ ∧ Env w W' (resK kb b L (fun m => (m : Int) ∈ l) Z :: resS b sv mb L :: rs))) := by
  refine (kNew_any b sv mb L a cap l W h.hd hv hl).mono ?_
  rintro e W' ⟨p, rfl, hb, hp⟩
  refine ⟨p, rfl, ?_⟩
  rcases hp with ⟨e1, rfl⟩ | ⟨e1, kb, Z, rfl, hk, hz⟩
  · exact Or.inl ⟨e1, rfl, h.new hb⟩
  · exact Or.inr ⟨e1, kb, Z, rfl, h.add (resK kb b L _ Z) hb hk hz⟩
theorem env_make {w W : World} {b : Nat} {sv : Value} {mb : Nat} {L : List Tm} {rs : List Res} (h : Env w W (resS b sv mb L :: rs)) (t : Tm) (ht : t.ok) :
    Calls Try.prog 19 #[.pointer (some ⟨b, 0, none⟩), .agg #[.int .u8 t.kd, .int .i64 t.n, .int .i64 t.a, .int .i64 t.b]] W fun e W' => e = .returned (.tuple #[.int .i64 (mkN L t : Nat), .int .i64 (mkE L t)]) ∧ ∃ sv', Env w W' (resS b sv' mb (mkL L t) :: rs) := by
  refine (make_any b sv mb L t W h.hd ht).mono ?_
  rintro e W' ⟨rfl, sv', s⟩
  exact ⟨rfl, sv', h.step (r' := resS b sv' mb (mkL L t)) (go_S s) s.st⟩
theorem env_list {w W : World} {b : Nat} {sv : Value} {mb : Nat} {L : List Tm} {rs : List Res} (h : Env w W (resS b sv mb L :: rs)) (v : Value) (l : List Int) (hv : NIs W v l) (hsep : ∀ k, v.ownBlock = some k → k ∉ foot b sv mb) :
    Calls Try.prog 45 #[.pointer (some ⟨b, 0, none⟩), v] W fun e W' => e = .returned (.tuple #[.int .i64 (ls L l).2.1, .int .i64 (ls L l).2.2]) ∧ ∃ sv', Env w W' (resS b sv' mb (ls L l).1 :: rs) := by
  refine (list_any b sv mb L v l W h.hd hv hsep).mono ?_
  rintro e W' ⟨rfl, sv', s⟩
  exact ⟨rfl, sv', h.step (r' := resS b sv' mb _) (go_S s) s.st⟩

/-- The same of a list that the law was handed. -/
theorem env_lista {w W : World} {b : Nat} {sv : Value} {mb : Nat} {L : List Tm} {rs : List Res} (h : Env w W (resS b sv mb L :: rs)) (v : Value) (l : List Int) (hv : NIs w v l) :
    Calls Try.prog 45 #[.pointer (some ⟨b, 0, none⟩), v] W fun e W' => e = .returned (.tuple #[.int .i64 (ls L l).2.1, .int .i64 (ls L l).2.2]) ∧ ∃ sv', Env w W' (resS b sv' mb (ls L l).1 :: rs) := by
  have hv1 := hv
  obtain ⟨a, cap, rfl, _, _, hc⟩ := hv1
  rcases hc with c | ⟨g, o, rfl, hc⟩
  · subst c
    have e : ls L [] = (L, 0, 0) := by simp [ls]
    rw [e]
    refine (list_nil b sv mb L a cap W h.hd).mono ?_
    rintro e W' ⟨rfl, rfl⟩
    exact ⟨rfl, sv, h⟩
  · cases l with
    | nil =>
      have e : ls L [] = (L, 0, 0) := by simp [ls]
      rw [e]
      refine (list_nil b sv mb L _ cap W h.hd).mono ?_
      rintro e W' ⟨rfl, rfl⟩
      exact ⟨rfl, sv, h⟩
    | cons x l =>
      have hg : g < w.heap.size := lt_of_cell (hc 0 x rfl)
      refine env_list h _ _ (hv.bw h.bel) (fun k hk c => ?_)
      simp [Value.ownBlock] at hk
      subst hk
      have := h.low (resS b sv mb L) (by simp) _ c
      omega
/-- What is known stands when its store has grown. -/
theorem Env.grownK {w W : World} {kb b : Nat} {sv : Value} {mb : Nat} {L L' : List Tm} {K : Nat → Prop} {Z : List Nat} {rs : List Res} (h : Env w W (resS b sv mb L' :: resK kb b L K Z :: rs)) (hG : Good L) (hq : ∃ q, L' = L ++ q) : Env w W (resK kb b L' K Z :: resS b sv mb L' :: rs) := by
  obtain ⟨q, rfl⟩ := hq
  exact h.swap.imp (r' := resK kb b (L ++ q) K Z) rfl (fun k => k.ext hG q)
theorem fill_good (l L : List Tm) (h : Good L) : Good (fillL L l) := by
  induction l generalizing L with
  | nil => exact h
  | cons t l ih => exact ih _ (h.made t)
theorem NIs.len {w : World} {v : Value} {l : List Int} (h : NIs w v l) : l.length ≤ 140737488355328 := by obtain ⟨_, _, _, h, _⟩ := h; exact h
theorem NIs.get {w : World} {a : Option Addr} {cap : Nat} {l : List Int} (h : NIs w (.slice a l.length cap) l) {i : Nat} {z : Int} (hi : l[i]? = some z) : ∃ g o, a = some ⟨g, o, none⟩ ∧ ∀ W, Below w.heap.size w W → W.cell? ⟨g, o + i, none⟩ = some (.int .i64 z) := by
  obtain ⟨a', cap', hv, _, _, hc⟩ := h
  cases hv
  rcases hc with c | ⟨g, o, rfl, hc⟩
  · rw [c] at hi; simp at hi
  · refine ⟨g, o, rfl, fun W hW => ?_⟩
    have := hc i z hi
    rw [World.cell?_of_block (w := w) (hW.block _ (lt_of_cell this))]; exact this

end Go.Proofs.Ytkaioidneknmjaa.Tn
