/- What Across keeps in memory. No walk is in this text. -/
import Derived.Test.YtokdflbajnecpaaNTmBuild
import Derived.Test.YtokdflbajnecpaaNTmAcr
namespace Go.Proofs.Ytokdflbajnecpaa.Tn
open Go.RowKit Go.Maps

structure Ac (w wr : World) (b : Nat) (sv : Value) (mb rb : Nat) (rv : Value) (L R : List Tm) (mp : Nat) (lv : Value) (ph : List Nat) : Prop where
  two : Two w wr b sv mb rb rv L R
  blk : wr.heap[mp]? = some (.cells #[lv] 89 (0, 0))
  row : NRow 0 wr lv ph
  mlow : w.heap.size ≤ mp
  llow : ∀ k, lv.ownBlock = some k → w.heap.size ≤ k
theorem Ac.apart {w wr : World} {b : Nat} {sv : Value} {mb rb : Nat} {rv : Value} {L R : List Tm} {mp : Nat} {lv : Value} {ph : List Nat} (h : Ac w wr b sv mb rb rv L R mp lv ph) :
    lv.ownBlock ≠ some mp ∧ mp ∉ foot b sv mb ∧ mp ∉ rfoot rb rv ∧ (∀ k, lv.ownBlock = some k → k ∉ foot b sv mb) ∧ ∀ k, lv.ownBlock = some k → k ∉ rfoot rb rv := by
  refine ⟨fun c => ?_, fun c => ?_, fun c => ?_, h.row.foot h.two.st, fun k hk c => ?_⟩
  · obtain ⟨_, h1⟩ := h.row.block c; rw [h.blk] at h1; simp at h1
  · rcases mem_foot.1 c with e | e | e
    · have := h.two.st.blk; rw [← e, h.blk] at this; simp at this
    · obtain ⟨es, ck, hm⟩ := h.two.st.map.block; rw [← e, h.blk] at hm; simp at hm
    · obtain ⟨_, h1⟩ := h.two.st.row.block e; rw [h.blk] at h1; simp at h1
  · rcases mem_rfoot.1 c with e | e
    · have := h.two.rs.blk; rw [← e, h.blk] at this; simp at this
    · obtain ⟨_, h1⟩ := h.two.rs.row.block e; rw [h.blk] at h1; simp at h1
  · obtain ⟨_, h1⟩ := h.row.block hk
    rcases mem_rfoot.1 c with e | e
    · have := h.two.rs.blk; rw [← e, h1] at this; simp at this
    · exact rows_apart h.two.rs.row h.row e hk
theorem Ac.new {w wr w1 : World} {b : Nat} {sv : Value} {mb rb : Nat} {rv : Value} {L R : List Tm} {mp : Nat} {lv : Value} {ph : List Nat} (h : Ac w wr b sv mb rb rv L R mp lv ph) (hb : Below wr.heap.size wr w1) : Ac w w1 b sv mb rb rv L R mp lv ph :=
  ⟨h.two.new hb, by rw [hb.block mp (lt_of_blk h.blk)]; exact h.blk, h.row.keep (fun k hk => hb.block k (h.row.lt k hk).2), h.mlow, h.llow⟩
theorem Ac.stepR {w wr w1 : World} {b : Nat} {sv : Value} {mb rb : Nat} {rv rv1 : Value} {L R R1 : List Tm} {mp : Nat} {lv : Value} {ph : List Nat} (h : Ac w wr b sv mb rb rv L R mp lv ph) (s : RStep wr w1 rb rv rv1 R1) : Ac w w1 b sv mb rb rv1 L R1 mp lv ph := by
  obtain ⟨a1, a2, a3, a4, a5⟩ := h.apart
  exact ⟨h.two.stepR s, by rw [s.fr.block mp (lt_of_blk h.blk) a3]; exact h.blk, h.row.keep (fun k hk => s.fr.block k (h.row.lt k hk).2 (a5 k hk)), h.mlow, h.llow⟩
/-- A number is put behind the others, and the new slice is stored. -/
theorem Ac.push {w w1 w2 : World} {b : Nat} {sv : Value} {mb rb : Nat} {rv : Value} {L R : List Tm} {mp : Nat} {lv v' : Value} {ph : List Nat} {k : Nat} {ob : Obj} (h : Ac w w1 b sv mb rb rv L R mp lv ph)
    (hown : w2.ownsRow 0 3 1 v' (ph.length + 1) (ph.map (fun m => .int .i64 ((m : Nat) : Int)) ++ [.int .i64 (k : Int)])) (hg : (w1.alloc ob).grownBy w2 lv.ownBlock) (hat : v'.ownBlock = lv.ownBlock ∨ v'.ownBlock = some (w1.alloc ob).heap.size) :
    w2.cell? ⟨mp, 0, none⟩ = some lv ∧ w2.frozen? ⟨mp, 0, none⟩ = false ∧ Ac w (w2.setCell ⟨mp, 0, none⟩ v') b sv mb rb rv L R mp v' (ph ++ [k]) := by
  obtain ⟨a1, a2, a3, a4, a5⟩ := h.apart
  have f1 : Fr lv.ownBlock.toList w1 w2 := ((Fr.refl lv.ownBlock.toList w1).alloc ob).tr (Fr.ofGrown hg)
  have f2 : Fr (mp :: lv.ownBlock.toList) w1 (w2.setCell ⟨mp, 0, none⟩ v') := (f1.mono (fun x _ c => List.mem_cons_of_mem _ c)).setCell (Or.inr (by simp)) _
  have hs1 := h.two.bel.size
  have hb2 : w2.heap[mp]? = some (.cells #[lv] 89 (0, 0)) := by
    rw [f1.block mp (lt_of_blk h.blk) (fun c => a1 (by simpa using c))]; exact h.blk
  have hne : v'.ownBlock ≠ some mp := by
    rcases hat with c | c
    · rw [c]; exact a1
    · rw [c]; intro e; have := lt_of_blk h.blk; simp at e; omega
  have d1 : ∀ x, x ∈ foot b sv mb → x ∉ mp :: lv.ownBlock.toList := fun x hx c => by
    rcases List.mem_cons.1 c with c | c
    · rw [c] at hx; exact a2 hx
    · exact a4 x (by simpa using c) hx
  have d2 : ∀ x, x ∈ rfoot rb rv → x ∉ mp :: lv.ownBlock.toList := fun x hx c => by
    rcases List.mem_cons.1 c with c | c
    · rw [c] at hx; exact a3 hx
    · exact a5 x (by simpa using c) hx
  refine ⟨by simp [World.cell?, hb2], by simp [World.frozen?, hb2], ⟨⟨h.two.st.keep f2 d1, h.two.rs.keep f2 d2, h.two.low, h.two.rlow, h.two.dis, ?_⟩, by simp [World.setCell, Array.getElem?_modify, hb2], ?_, h.mlow, ?_⟩⟩
  · refine Fr.toBase h.two.bel f2 (fun x hx => ?_)
    rcases List.mem_cons.1 hx with c | c
    · rw [c]; exact h.mlow
    · exact h.llow x (by simpa using c)
  · have hr : NRow 0 w2 v' (ph ++ [k]) := by unfold NRow; simpa using hown
    exact hr.keep fun x hx => Below.heap_setCell _ _ _ _ (fun c => hne (by rw [hx, c]))
  · intro x hx
    rcases hat with c | c
    · exact h.llow x (by rw [← c]; exact hx)
    · rw [c] at hx; simp at hx; omega
theorem Ac.start {w wr : World} {b : Nat} {sv : Value} {mb rb : Nat} {rv : Value} {L R : List Tm} (h : Two w wr b sv mb rb rv L R) :
    Ac w ((wr.alloc (.cells #[.int .i64 0] 3)).alloc (.cells #[.slice (some ⟨wr.heap.size, 0, none⟩) 1 1] 89)) b sv mb rb rv L R (wr.heap.size + 1) (.slice (some ⟨wr.heap.size, 0, none⟩) 1 1) [0] := by
  have e : (wr.alloc (.cells #[.int .i64 0] 3)).heap.size = wr.heap.size + 1 := by simp
  have hs := h.bel.size
  refine ⟨h.new (((Below.refl _ _).alloc (Nat.le_refl _) _).alloc (by simp) _), ?_, ?_, by omega, ?_⟩
  · rw [← e]; exact heap_alloc_new _ _
  · refine ⟨rfl, Or.inr ⟨wr.heap.size, 1, #[.int .i64 0], rfl, Nat.zero_le _, ?_, Nat.le_refl _, by unfold maxLen; omega, rfl, rfl⟩⟩
    rw [Below.heap_alloc _ _ _ (by simp)]; exact heap_alloc_new _ _
  · intro k hk
    simp [Value.ownBlock] at hk
    omega
theorem Ac.cells {w wr : World} {b : Nat} {sv : Value} {mb rb : Nat} {rv : Value} {L R : List Tm} {mp : Nat} {lv : Value} {ph : List Nat} (h : Ac w wr b sv mb rb rv L R mp lv ph) : wr.cell? ⟨mp, 0, none⟩ = some lv ∧ wr.frozen? ⟨mp, 0, none⟩ = false := by
  refine ⟨?_, ?_⟩ <;> simp [World.cell?, World.frozen?, h.blk]
/-- The slice of numbers, open. -/
theorem Ac.form {w wr : World} {b : Nat} {sv : Value} {mb rb : Nat} {rv : Value} {L R : List Tm} {mp : Nat} {lv : Value} {ph : List Nat} (h : Ac w wr b sv mb rb rv L R mp lv ph) (hp : 0 < ph.length) : ∃ g cap, lv = .slice (some ⟨g, 0, none⟩) ph.length cap ∧ g < wr.heap.size := by
  rcases h.row.form with ⟨_, c⟩ | ⟨g, cap, hv, _, hg, _⟩
  · rw [c] at hp; simp at hp
  · exact ⟨g, cap, hv, hg⟩
theorem Ac.at {w wr : World} {b : Nat} {sv : Value} {mb rb : Nat} {rv : Value} {L R : List Tm} {mp g n cap : Nat} {ph : List Nat} (h : Ac w wr b sv mb rb rv L R mp (.slice (some ⟨g, 0, none⟩) n cap) ph) {i : Nat} (hi : i < ph.length) : wr.cell? ⟨g, i, none⟩ = some (.int .i64 ((ph.getD i 0 : Nat) : Int)) :=
  h.row.at rfl (by simp [List.getD, List.getElem?_eq_getElem hi])

end Go.Proofs.Ytokdflbajnecpaa.Tn
