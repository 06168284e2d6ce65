/- What the law TermLists keeps in memory. No walk is in this text. -/
import Derived.Test.YticljbimbbiedaaTmLs
import Derived.Test.YticljbimbbiedaaTmTwW
namespace Go.Proofs.Yticljbimbbiedaa
open Go.RowKit Go.Maps

theorem NIs.low {w : World} {v : Value} {l : List Int} (h : NIs w v l) (hl : l ≠ []) : ∀ k, v.ownBlock = some k → k < w.heap.size := by
  obtain ⟨a, cap, rfl, _, _, hc⟩ := h
  rcases hc with hc | ⟨g, o, rfl, hc⟩
  · exact absurd hc hl
  · intro k hk
    cases l with
    | nil => exact absurd rfl hl
    | cons z r =>
      have := lt_of_cell (hc 0 z rfl)
      simp [Value.ownBlock] at hk
      subst hk
      exact this
theorem Twint.keep {w w' : World} {g : Nat} {l : List Int} (h : Twint w g l) (hb : w'.heap[g]? = w.heap[g]?) : Twint w' g l := by unfold Twint; rw [hb]; exact h
theorem Twint.lt {w : World} {g : Nat} {l : List Int} (h : Twint w g l) : g < w.heap.size := lt_of_blk h
theorem Twi64.keep {w w' : World} {g : Nat} {l : List Int} (h : Twi64 w g l) (hb : w'.heap[g]? = w.heap[g]?) : Twi64 w' g l := by unfold Twi64; rw [hb]; exact h
theorem Twi64.lt {w : World} {g : Nat} {l : List Int} (h : Twi64 w g l) : g < w.heap.size := lt_of_blk h

/-- Two stores, and copies of the lists beside them. -/
structure Lt (w W : World) (sb : Nat) (sv : Value) (mb rb : Nat) (rv : Value) (L R : List Tm) (va vb : Value) (la lb : List Int) (ga gb nA nB : Nat) : Prop where
  two : Two w W sb sv mb rb rv L R
  ta : Twint W ga la
  tb : Twi64 W gb lb
  fa1 : ga ∉ foot sb sv mb
  fa2 : ga ∉ rfoot rb rv
  fb1 : gb ∉ foot sb sv mb
  fb2 : gb ∉ rfoot rb rv
  na : NIs w va la
  nb : NIs w vb lb
  eA : nA = la.length
  eB : nB = lb.length
  hA : la.length ≤ 200
  hB : lb.length ≤ 200
theorem Lt.start {w w1 w2 w3 : World} {sb : Nat} {sv : Value} {mb rb : Nat} {rv : Value} {L R : List Tm} {va vb : Value} {la lb : List Int} {nA nB : Nat} (h : Two w w1 sb sv mb rb rv L R) (b1 : Below w1.heap.size w1 w2) (t1 : Twint w2 w1.heap.size la) (b2 : Below w2.heap.size w2 w3) (t2 : Twi64 w3 w2.heap.size lb)
    (na : NIs w va la) (nb : NIs w vb lb) (eA : nA = la.length) (eB : nB = lb.length) (hA : la.length ≤ 200) (hB : lb.length ≤ 200) : Lt w w3 sb sv mb rb rv L R va vb la lb w1.heap.size w2.heap.size nA nB := by
  have hs := b1.size
  refine ⟨(h.new b1).new b2, t1.keep (b2.block _ t1.lt), t2, fun c => ?_, fun c => ?_, fun c => ?_, fun c => ?_, na, nb, eA, eB, hA, hB⟩
  · have := h.st.lt _ c; omega
  · have := h.rs.lt _ c; omega
  · have := h.st.lt _ c; omega
  · have := h.rs.lt _ c; omega
theorem foot_step {W W1 : World} {sb : Nat} {sv sv1 : Value} {mb : Nat} {L1 : List Tm} (s : SStep W W1 sb sv sv1 mb L1) {g : Nat} (hg : g < W.heap.size) (h : g ∉ foot sb sv mb) : g ∉ foot sb sv1 mb := fun c => by
  rcases mem_foot.1 c with e | e | e
  · exact h (mem_foot.2 (Or.inl e))
  · exact h (mem_foot.2 (Or.inr (Or.inl e)))
  · rcases s.place g e with q | q
    · exact h (mem_foot.2 (Or.inr (Or.inr q)))
    · omega
theorem rfoot_step {W W1 : World} {rb : Nat} {rv rv1 : Value} {R1 : List Tm} (s : RStep W W1 rb rv rv1 R1) {g : Nat} (hg : g < W.heap.size) (h : g ∉ rfoot rb rv) : g ∉ rfoot rb rv1 := fun c => by
  rcases mem_rfoot.1 c with e | e
  · exact h (mem_rfoot.2 (Or.inl e))
  · rcases s.place g e with q | q
    · exact h (mem_rfoot.2 (Or.inr q))
    · omega
section
variable {w W W1 : World} {sb : Nat} {sv sv1 : Value} {mb rb : Nat} {rv rv1 : Value} {L L1 R R1 : List Tm} {va vb : Value} {la lb : List Int} {ga gb nA nB : Nat}
theorem Lt.stepS (h : Lt w W sb sv mb rb rv L R va vb la lb ga gb nA nB) (s : SStep W W1 sb sv sv1 mb L1) : Lt w W1 sb sv1 mb rb rv L1 R va vb la lb ga gb nA nB :=
  ⟨h.two.stepS s, h.ta.keep (s.fr.block _ h.ta.lt h.fa1), h.tb.keep (s.fr.block _ h.tb.lt h.fb1), foot_step s h.ta.lt h.fa1, h.fa2, foot_step s h.tb.lt h.fb1, h.fb2, h.na, h.nb, h.eA, h.eB, h.hA, h.hB⟩
theorem Lt.stepR (h : Lt w W sb sv mb rb rv L R va vb la lb ga gb nA nB) (s : RStep W W1 rb rv rv1 R1) : Lt w W1 sb sv mb rb rv1 L R1 va vb la lb ga gb nA nB :=
  ⟨h.two.stepR s, h.ta.keep (s.fr.block _ h.ta.lt h.fa2), h.tb.keep (s.fr.block _ h.tb.lt h.fb2), h.fa1, rfoot_step s h.ta.lt h.fa2, h.fb1, rfoot_step s h.tb.lt h.fb2, h.na, h.nb, h.eA, h.eB, h.hA, h.hB⟩
theorem NIs.bd {w : World} {v : Value} {l : List Int} (h : NIs w v l) : ∀ z ∈ l, -9223372036854775808 ≤ z ∧ z ≤ 9223372036854775807 := by
  obtain ⟨_, _, _, _, hz, _⟩ := h; exact hz
theorem own_slice {g n c k : Nat} (h : (Value.slice (some ⟨g, 0, none⟩) n c).ownBlock = some k) : k = g := by
  simp [Value.ownBlock] at h; exact h.symm
theorem Lt.list (h : Lt w W sb sv mb rb rv L R va vb la lb ga gb nA nB) :
    Calls Try.prog 10 #[.pointer (some ⟨sb, 0, none⟩), .slice (some ⟨ga, 0, none⟩) nA (nA + 2)] W fun e w' => e = .returned (.tuple #[.int .i64 (ls L la).2.1, .int .i64 (ls L la).2.2]) ∧ ∃ sv', Lt w w' sb sv' mb rb rv (ls L la).1 R va vb la lb ga gb nA nB := by
  rw [h.eA]
  refine (list_any sb sv mb L _ la W h.two.st (h.ta.nis h.hA h.na.bd) (fun k hk => by rw [own_slice hk]; exact h.fa1)).mono ?_
  rintro e w' ⟨rfl, sv', s⟩
  exact ⟨rfl, sv', by rw [← h.eA]; exact h.stepS s⟩
theorem Lt.data (h : Lt w W sb sv mb rb rv L R va vb la lb ga gb nA nB) :
    Calls Try.prog 12 #[.pointer (some ⟨sb, 0, none⟩), .slice (some ⟨gb, 0, none⟩) nB (nB + 2)] W fun e w' => e = .returned (.tuple #[.int .i64 (dt L lb).2.1, .int .i64 (dt L lb).2.2]) ∧ ∃ sv', Lt w w' sb sv' mb rb rv (dt L lb).1 R va vb la lb ga gb nA nB := by
  rw [h.eB]
  refine (data_any sb sv mb L _ lb W h.two.st (h.tb.nis h.hB h.nb.bd) (fun k hk => by rw [own_slice hk]; exact h.fb1) (by have := h.hB; omega)).mono ?_
  rintro e w' ⟨rfl, sv', s⟩
  exact ⟨rfl, sv', by rw [← h.eB]; exact h.stepS s⟩
theorem Lt.rlist (h : Lt w W sb sv mb rb rv L R va vb la lb ga gb nA nB) :
    Calls Try.prog 11 #[.pointer (some ⟨rb, 0, none⟩), va] W fun e w' => e = .returned (.tuple #[.int .i64 (ls R la).2.1, .int .i64 (ls R la).2.2]) ∧ ∃ rv', Lt w w' sb sv mb rb rv' L (ls R la).1 va vb la lb ga gb nA nB := by
  refine (rlist_any rb rv R va la W h.two.rs (h.na.bw h.two.bel) (fun hl k hk c => by have := h.na.low hl k hk; have := h.two.rlow k c; omega)).mono ?_
  rintro e w' ⟨rfl, rv', s⟩
  exact ⟨rfl, rv', h.stepR s⟩
theorem Lt.rdata (h : Lt w W sb sv mb rb rv L R va vb la lb ga gb nA nB) :
    Calls Try.prog 13 #[.pointer (some ⟨rb, 0, none⟩), vb] W fun e w' => e = .returned (.tuple #[.int .i64 (dt R lb).2.1, .int .i64 (dt R lb).2.2]) ∧ ∃ rv', Lt w w' sb sv mb rb rv' L (dt R lb).1 va vb la lb ga gb nA nB := by
  refine (rdata_any rb rv R vb lb W h.two.rs (h.nb.bw h.two.bel) (fun hl k hk c => by have := h.nb.low hl k hk; have := h.two.rlow k c; omega) (by have := h.hB; omega)).mono ?_
  rintro e w' ⟨rfl, rv', s⟩
  exact ⟨rfl, rv', h.stepR s⟩
end

/-- What stands at the law's last row. -/
structure Le (w W : World) (va vb : Value) (la lb : List Int) (ga gb nA nB mp g np cp k1 k2 : Nat) : Prop where
  c0 : W.cell? ⟨mp, 0, none⟩ = some (.slice (some ⟨g, 0, none⟩) np cp)
  c1 : W.cell? ⟨g, k1, none⟩ = some (.int .i64 (k1 : Int))
  c2 : W.cell? ⟨g, k2, none⟩ = some (.int .i64 (k2 : Int))
  l1 : k1 < np
  l2 : k2 < np
  ln : np ≤ 4000
  ta : Twint W ga la
  tb : Twi64 W gb lb
  na : NIs W va la
  nb : NIs W vb lb
  eA : nA = la.length
  eB : nB = lb.length
  hA : la.length ≤ 200
  hB : lb.length ≤ 200
  bel : Below w.heap.size w W
section
variable {w W W1 : World} {va vb : Value} {la lb : List Int} {ga gb nA nB mp g np cp k1 k2 : Nat}
theorem Le.new (h : Le w W va vb la lb ga gb nA nB mp g np cp k1 k2) (hb : Below W.heap.size W W1) : Le w W1 va vb la lb ga gb nA nB mp g np cp k1 k2 :=
  ⟨by rw [World.cell?_of_block (w := W) (hb.block _ (lt_of_cell h.c0))]; exact h.c0, by rw [World.cell?_of_block (w := W) (hb.block _ (lt_of_cell h.c1))]; exact h.c1, by rw [World.cell?_of_block (w := W) (hb.block _ (lt_of_cell h.c2))]; exact h.c2,
    h.l1, h.l2, h.ln, h.ta.keep (hb.block _ h.ta.lt), h.tb.keep (hb.block _ h.tb.lt), h.na.bw hb, h.nb.bw hb, h.eA, h.eB, h.hA, h.hB, bw_tr h.bel hb⟩
theorem Le.s1 (h : Le w W va vb la lb ga gb nA nB mp g np cp k1 k2) : Calls Try.prog 15 #[.pointer (some ⟨mp, 0, none⟩), .int .i64 (k1 : Int), .int .i64 (k1 : Int)] W fun e w' => e = .returned (.bool true) ∧ w' = W := msame_any mp g np cp k1 W h.l1 h.ln h.c0 h.c1
theorem Le.s2 (h : Le w W va vb la lb ga gb nA nB mp g np cp k1 k2) : Calls Try.prog 15 #[.pointer (some ⟨mp, 0, none⟩), .int .i64 (k2 : Int), .int .i64 (k2 : Int)] W fun e w' => e = .returned (.bool true) ∧ w' = W := msame_any mp g np cp k2 W h.l2 h.ln h.c0 h.c2
theorem Le.f1 (h : Le w W va vb la lb ga gb nA nB mp g np cp k1 k2) : Calls Try.prog 16 #[.slice (some ⟨ga, 0, none⟩) nA (nA + 2), va] W fun e w' => e = .returned (.bool true) ∧ Le w w' va vb la lb ga gb nA nB mp g np cp k1 k2 := by
  rw [h.eA]
  refine (leftint_any W ga va la h.ta h.na h.hA).mono ?_
  rintro e w' ⟨rfl, hb⟩
  exact ⟨rfl, by rw [← h.eA]; exact h.new hb⟩
theorem Le.f2 (h : Le w W va vb la lb ga gb nA nB mp g np cp k1 k2) : Calls Try.prog 17 #[.slice (some ⟨gb, 0, none⟩) nB (nB + 2), vb] W fun e w' => e = .returned (.bool true) ∧ Le w w' va vb la lb ga gb nA nB mp g np cp k1 k2 := by
  rw [h.eB]
  refine (lefti64_any W gb vb lb h.tb h.nb h.hB).mono ?_
  rintro e w' ⟨rfl, hb⟩
  exact ⟨rfl, by rw [← h.eB]; exact h.new hb⟩
theorem Le.f3 (h : Le w W va vb la lb ga gb nA nB mp g np cp k1 k2) : Calls Try.prog 18 #[] W fun e w' => e = .returned (.bool true) ∧ Below w.heap.size w w' := by
  refine (lives_any W).mono ?_
  rintro e w' ⟨rfl, hb⟩
  exact ⟨rfl, bw_tr h.bel hb⟩
end
/-- Across, after List and Data on both. -/
theorem Lt.across {w W : World} {sb : Nat} {sv : Value} {mb rb : Nat} {rv : Value} {L : List Tm} {va vb : Value} {la lb : List Int} {ga gb nA nB k1 k2 : Nat} (h : Lt w W sb sv mb rb rv L L va vb la lb ga gb nA nB) (hl : L.length ≤ 3000) (hk1 : k1 ≤ L.length) (hk2 : k2 ≤ L.length) :
    Calls Try.prog 14 #[.pointer (some ⟨sb, 0, none⟩), .pointer (some ⟨rb, 0, none⟩)] W fun e w' => ∃ mp g np cp, e = .returned (.tuple #[.pointer (some ⟨mp, 0, none⟩), .bool true]) ∧ Le w w' va vb la lb ga gb nA nB mp g np cp k1 k2 := by
  refine (acrossx_any w W sb sv mb rb rv L L h.two hl hl).mono ?_
  rintro e w' ⟨mp, lv, rv', R', ph, rfl, hAc, hAr, hpre, hfr⟩
  have hlen := hAr.len
  have hid := hAr.ident hAc.two.st.good hpre
  obtain ⟨g, cp, rfl, _⟩ := hAc.form (by omega)
  have c1 := hAc.at (i := k1) (by omega)
  have c2 := hAc.at (i := k2) (by omega)
  rw [hid k1 hk1] at c1
  rw [hid k2 hk2] at c2
  exact ⟨mp, g, ph.length, cp, rfl, hAc.cells.1, c1, c2, by omega, by omega, by omega, h.ta.keep (hfr.block _ h.ta.lt h.fa2), h.tb.keep (hfr.block _ h.tb.lt h.fb2), h.na.bw hAc.two.bel, h.nb.bw hAc.two.bel, h.eA, h.eB, h.hA, h.hB, hAc.two.bel⟩

end Go.Proofs.Yticljbimbbiedaa
