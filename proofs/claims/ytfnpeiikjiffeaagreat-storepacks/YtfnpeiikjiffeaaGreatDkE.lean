/- Contracts of Crash, do, Sync and Write of package disk. -/
import Derived.Test.YtfnpeiikjiffeaaGreatDkD
import Derived.Test.YtfnpeiikjiffeaaGreatDkF
namespace Go.Proofs.YtfnpeiikjiffeaaGreat
open Go.RowKit Go.Maps

theorem fall_any {d : Nat} {S : DS} {Z : List Nat} {w : World} (h : DkS w d S Z) (bits : Int) :
    Calls Tryz.prog 48 #[ptr d, .int .i64 bits] w fun e w' => e = .returned (.tuple #[]) ∧ ∃ Z', DkS w' d (S.fall bits) Z' ∧ Mv w w' Z Z' := by
  obtain ⟨nb, sb, cb, fv, cv, rfl, h1⟩ := h
  exact fall_core h1 bits
theorem crash_any {d : Nat} {S : DS} {Z : List Nat} {w : World} (h : DkS w d S Z) (bits : Int) :
    Calls Tryz.prog 19 #[ptr d, .int .i64 bits] w fun e w' => e = .returned (.int .i64 (S.crash bits).2) ∧ ∃ Z', DkS w' d (S.crash bits).1 Z' ∧ Mv w w' Z Z' := by
  have K := ready_any h
  have KF := fall_any h bits
  have H := hide h
  clear h
  unfold DS.crash
  unfold rdy at K
  cases hu : S.up
  · rw [hu] at K
    simp only [if_true] at K ⊢
    unfold ptr at *
    go_enter Tryz.func19, Tryz.ntmps19
    go_wp2_with fail
    refine K.mono ?_
    rintro e w ⟨rfl, rfl⟩
    go_wp2_with fail
    go_ret
    exact ⟨rfl, _, unhide H, Mv.refl _ _⟩
  · rw [hu] at K
    simp only [Bool.true_eq_false, if_false] at K ⊢
    unfold ptr at *
    go_enter Tryz.func19, Tryz.ntmps19
    go_wp2_with fail
    refine K.mono ?_
    rintro e w ⟨rfl, rfl⟩
    go_wp2_with fail
    refine KF.mono ?_
    rintro e w1 ⟨rfl, hz⟩
    have HZ := hide hz
    clear hz KF
    go_wp2_with fail
    go_ret
    exact ⟨rfl, unhide HZ⟩
theorem Dk.did {w : World} {d nb sb cb : Nat} {fv cv : Value} {S : DS} (h : Dk w d nb sb cb fv cv S) : Dk (w.setCell ⟨d, 2, none⟩ (.int .i64 ((S.cnt + 1 : Nat) : Int))) d nb sb cb fv cv S.did := by
  obtain ⟨a1, a2, a3, a4, a5⟩ := h.apart
  have sc : ∀ x, x ≠ d → (w.setCell ⟨d, 2, none⟩ (.int .i64 ((S.cnt + 1 : Nat) : Int))).heap[x]? = w.heap[x]? := fun x hx => Below.heap_setCell _ _ _ _ hx
  refine ⟨by rw [dset h.blk 2 _]; rfl, h.now.keep (sc nb (Ne.symm a1)), h.syn.keep (sc sb (Ne.symm a2)), own_keep h.row (fun k hk => sc k (fun c => a3 (by rw [← c]; exact hk))), h.come.keep rfl rfl (fun q1 q2 => sc cb (h.apartC q1 q2).1), h.ok.did, h.ne⟩
theorem DkS.did {w : World} {d : Nat} {S : DS} {Z : List Nat} (h : DkS w d S Z) : DkS (w.setCell ⟨d, 2, none⟩ (.int .i64 ((S.cnt + 1 : Nat) : Int))) d S.did Z ∧ w.cell? ⟨d, 2, none⟩ = some (.int .i64 (S.cnt : Int)) ∧ w.frozen? ⟨d, 2, none⟩ = false ∧ Fr Z w (w.setCell ⟨d, 2, none⟩ (.int .i64 ((S.cnt + 1 : Nat) : Int))) := by
  obtain ⟨nb, sb, cb, fv, cv, rfl, h1⟩ := h
  exact ⟨⟨nb, sb, cb, fv, cv, rfl, h1.did⟩, dcell h1.blk 2 rfl, dfroz h1.blk 2, (Fr.refl _ _).setCell (a := ⟨d, 2, none⟩) (Or.inr (mem_dfoot.2 (Or.inl rfl))) _⟩
/-- The closure that Write hands over. -/
def CloAt (w : World) (d b1 b2 k : Nat) (s : ByteArray) : Prop := w.heap[b1]? = some (.cells #[ptr d] 33 (0, 0)) ∧ w.heap[b2]? = some (.cells (wrC (k, s)).toArray 125 (0, 0))
theorem clo_any {d : Nat} {S : DS} {Z : List Nat} {w : World} (h : DkS w d S Z) {b1 b2 k : Nat} {s : ByteArray} (hc : CloAt w d b1 b2 k s) (hk : k < S.N) (hs : s.size = 64) (hq : S.since.length < 4611686018427387904) :
    Calls Tryz.prog 134 #[ptr b1, ptr b2] w fun e w' => e = .returned (.tuple #[]) ∧ ∃ Z', DkS w' d (S.put k s) Z' ∧ Mv w w' Z Z' := by
  have KP := put_any h hk hs hq
  have c1 := dcell hc.1 0 rfl
  have HC := hide hc.2
  have hz : (wrC (k, s)).toArray.size = 65 := by simp only [List.size_toArray]; exact wrC_len hs
  have HI : Hid ((Tryz.prog.info? 125).map (·.size) = some (wrC (k, s)).toArray.size) := by unfold Hid; rw [hz]; exact Tryz.infoWrite
  clear h hc hk hs hq hz
  unfold ptr at *
  go_enter Tryz.func134, Tryz.ntmps134
  go_wp2_with (refine wpList_load_row rfl 125 (.tmp 1) rfl b2 rfl 125 (wrC (k, s)).toArray (0, 0) _ (unhide HC) Tryz.underlying125 rfl (unhide HI) ?_)
  refine KP.mono ?_
  rintro e w1 ⟨rfl, hz⟩
  have HZ := hide hz
  clear hz KP
  go_wp2_with fail
  go_end0
  exact ⟨rfl, unhide HZ⟩
theorem do_settle {d : Nat} {S : DS} {Z : List Nat} {w : World} (h : DkS w d S Z) (hn : S.cnt < 4611686018427387904) :
    Calls Tryz.prog 39 #[ptr d, .func (.func 72) #[ptr d] #[]] w fun e w' => e = .returned (.int .i64 0) ∧ ∃ Z', DkS w' d (S.settle).did Z' ∧ Mv w w' Z Z' := by
  have KJ := settle_any h
  have e1 : (S.settle).cnt = S.cnt := rfl
  obtain ⟨T, hT⟩ : ∃ T, T = S.settle := ⟨_, rfl⟩
  rw [← hT] at KJ e1 ⊢
  have hn2 : (T.cnt : Int) < 4611686018427387904 := by omega
  clear h hT e1 hn
  unfold ptr at *
  go_enter Tryz.func39, Tryz.ntmps39
  go_wp2_with fail
  refine KJ.mono ?_
  rintro e w1 ⟨rfl, Z1, h1, m1⟩
  obtain ⟨h2, c2, f2, r2⟩ := h1.did
  have w2 : IntKind.i64.wrap ((T.cnt : Int) + 1) = ((T.cnt + 1 : Nat) : Int) := by rw [wrap_i64 (by omega) (by omega)]; omega
  have HH := hide (And.intro h2 (And.intro r2 m1))
  clear h1 h2 r2 m1 KJ
  have e3 : ((T.cnt : Int) + 1) = ((T.cnt + 1 : Nat) : Int) := by omega
  generalize ((T.cnt + 1 : Nat) : Int) = q at *
  go_wp2_with fail
  go_ret
  first
    | exact ⟨rfl, Z1, (unhide HH).1, (unhide HH).2.2.trans ⟨(unhide HH).2.1, fun _ hx => Or.inl hx⟩⟩
    | (rw [e3]; exact ⟨rfl, Z1, (unhide HH).1, (unhide HH).2.2.trans ⟨(unhide HH).2.1, fun _ hx => Or.inl hx⟩⟩)
/-- A cut that lets one more through. -/
theorem cut_settle {d nb sb cb : Nat} {fv cv : Value} {S : DS} {w : World} (h : Dk w d nb sb cb fv cv S) (hu : S.up = true) {m : Nat} {bits : Int} (hcut : S.cut = some (m + 1, bits)) (hn : S.cnt < 4611686018427387904) :
    Calls Tryz.prog 46 #[ptr cb, .func (.func 72) #[ptr d] #[]] w fun e w' => e = .returned (.int .i64 0) ∧ ∃ Z', DkS w' d (({ S with cut := some (m, bits) } : DS).settle).did Z' ∧ Mv w w' (dfoot d nb sb cb fv S) Z' := by
  have hne : S.cut ≠ none := by rw [hcut]; simp
  obtain ⟨n', bits', e1, hcv, hle, hcb⟩ := h.come.cut hu hne
  rw [hcut] at e1
  simp only [Option.some.injEq, Prod.mk.injEq] at e1
  obtain ⟨rfl, rfl⟩ := e1
  obtain ⟨b1', b2', b3', b4'⟩ := h.apartC hu hne
  have sc : ∀ x, x ≠ cb → (w.setCell ⟨cb, 1, none⟩ (.int .i64 (m : Int))).heap[x]? = w.heap[x]? := fun x hx => Below.heap_setCell _ _ _ _ hx
  have D1 := dset hcb 1 (.int .i64 (m : Int))
  have h1 : Dk (w.setCell ⟨cb, 1, none⟩ (.int .i64 (m : Int))) d nb sb cb fv cv ({ S with cut := some (m, bits) } : DS) :=
    ⟨(sc d (Ne.symm b1')).trans h.blk, h.now.keep (sc nb (Ne.symm b2')), h.syn.keep (sc sb (Ne.symm b3')), own_keep h.row (fun k hk => sc k (fun c => b4' (by rw [← c]; exact hk))), ⟨h.come.1, fun _ => ⟨hcv, by omega, D1⟩⟩, h.ok.cutTo _, h.ne⟩
  have KD := do_settle (S := { S with cut := some (m, bits) }) ⟨nb, sb, cb, fv, cv, rfl, h1⟩ hn
  have c0 := dcell hcb 0 rfl
  have c1 := dcell hcb 1 rfl
  have f1 := dfroz hcb 1
  have HF : Hid (Mv w (w.setCell ⟨cb, 1, none⟩ (.int .i64 (m : Int))) (dfoot d nb sb cb fv S) (dfoot d nb sb cb fv ({ S with cut := some (m, bits) } : DS))) :=
    ⟨(Fr.refl _ _).setCell (a := ⟨cb, 1, none⟩) (Or.inr (mem_dfoot.2 (Or.inr (Or.inr (Or.inr (Or.inr ⟨rfl, hu, hne⟩)))))) _, fun x hx => Or.inl (by
      rcases mem_dfoot.1 hx with q | q | q | q | ⟨q, _, _⟩
      · exact mem_dfoot.2 (Or.inl q)
      · exact mem_dfoot.2 (Or.inr (Or.inl q))
      · exact mem_dfoot.2 (Or.inr (Or.inr (Or.inl q)))
      · exact mem_dfoot.2 (Or.inr (Or.inr (Or.inr (Or.inl q))))
      · exact mem_dfoot.2 (Or.inr (Or.inr (Or.inr (Or.inr ⟨q, hu, hne⟩)))))⟩
  have z0 : (((m + 1 : Nat) : Int) == 0) = false := by simp; omega
  have z1 : decide (((m + 1 : Nat) : Int) = 0) = false := by simp; omega
  have z2 : IntKind.i64.wrap (((m + 1 : Nat) : Int) - 1) = (m : Int) := by rw [wrap_i64 (by omega) (by omega)]; omega
  have z3 : ((m + 1 : Nat) : Int) - 1 = (m : Int) := by omega
  have z4 : wrap64 (m : Int) = (m : Int) := by unfold wrap64; omega
  generalize ((m + 1 : Nat) : Int) = M at *
  clear h h1 hcv hle hcb D1 sc b1' b2' b3' b4' hne hcut hu hn
  unfold ptr at *
  go_enter Tryz.func46, Tryz.ntmps46
  go_wp2_with fail
  refine KD.mono ?_
  rintro e w2 ⟨rfl, Z2, h2, m2⟩
  have HH := hide (And.intro h2 m2)
  clear h2 m2 KD
  go_wp2_with fail
  go_ret
  exact ⟨rfl, Z2, (unhide HH).1, (unhide HF).trans (unhide HH).2⟩
theorem do_put {d : Nat} {S : DS} {Z : List Nat} {w : World} (h : DkS w d S Z) {b1 b2 k : Nat} {s : ByteArray} (hc : CloAt w d b1 b2 k s) (hk : k < S.N) (hs : s.size = 64) (hq : S.since.length < 4611686018427387904) (hn : S.cnt < 4611686018427387904) :
    Calls Tryz.prog 39 #[ptr d, .func (.func 134) #[] #[ptr b1, ptr b2]] w fun e w' => e = .returned (.int .i64 0) ∧ ∃ Z', DkS w' d (S.put k s).did Z' ∧ Mv w w' Z Z' := by
  have KJ := clo_any h hc hk hs hq
  have e1 : (S.put k s).cnt = S.cnt := rfl
  obtain ⟨T, hT⟩ : ∃ T, T = S.put k s := ⟨_, rfl⟩
  rw [← hT] at KJ e1 ⊢
  have hn2 : (T.cnt : Int) < 4611686018427387904 := by omega
  clear h hT e1 hn hc hk hs hq
  unfold ptr at *
  go_enter Tryz.func39, Tryz.ntmps39
  go_wp2_with fail
  refine KJ.mono ?_
  rintro e w1 ⟨rfl, Z1, h1, m1⟩
  obtain ⟨h2, c2, f2, r2⟩ := h1.did
  have w2 : IntKind.i64.wrap ((T.cnt : Int) + 1) = ((T.cnt + 1 : Nat) : Int) := by rw [wrap_i64 (by omega) (by omega)]; omega
  have HH := hide (And.intro h2 (And.intro r2 m1))
  clear h1 h2 r2 m1 KJ
  have e3 : ((T.cnt : Int) + 1) = ((T.cnt + 1 : Nat) : Int) := by omega
  generalize ((T.cnt + 1 : Nat) : Int) = q at *
  go_wp2_with fail
  go_ret
  first
    | exact ⟨rfl, Z1, (unhide HH).1, (unhide HH).2.2.trans ⟨(unhide HH).2.1, fun _ hx => Or.inl hx⟩⟩
    | (rw [e3]; exact ⟨rfl, Z1, (unhide HH).1, (unhide HH).2.2.trans ⟨(unhide HH).2.1, fun _ hx => Or.inl hx⟩⟩)
/-- A cut that lets one more through. -/
theorem cut_put {d nb sb cb : Nat} {fv cv : Value} {S : DS} {w : World} (h : Dk w d nb sb cb fv cv S) (hu : S.up = true) {m : Nat} {bits : Int} (hcut : S.cut = some (m + 1, bits)) {b1 b2 k : Nat} {s : ByteArray} (hc : CloAt w d b1 b2 k s) (hk : k < S.N) (hs : s.size = 64) (hq : S.since.length < 4611686018427387904) (hn : S.cnt < 4611686018427387904) (hb1 : b1 ≠ cb) (hb2 : b2 ≠ cb) :
    Calls Tryz.prog 46 #[ptr cb, .func (.func 134) #[] #[ptr b1, ptr b2]] w fun e w' => e = .returned (.int .i64 0) ∧ ∃ Z', DkS w' d (({ S with cut := some (m, bits) } : DS).put k s).did Z' ∧ Mv w w' (dfoot d nb sb cb fv S) Z' := by
  have hne : S.cut ≠ none := by rw [hcut]; simp
  obtain ⟨n', bits', e1, hcv, hle, hcb⟩ := h.come.cut hu hne
  rw [hcut] at e1
  simp only [Option.some.injEq, Prod.mk.injEq] at e1
  obtain ⟨rfl, rfl⟩ := e1
  obtain ⟨b1', b2', b3', b4'⟩ := h.apartC hu hne
  have sc : ∀ x, x ≠ cb → (w.setCell ⟨cb, 1, none⟩ (.int .i64 (m : Int))).heap[x]? = w.heap[x]? := fun x hx => Below.heap_setCell _ _ _ _ hx
  have D1 := dset hcb 1 (.int .i64 (m : Int))
  have h1 : Dk (w.setCell ⟨cb, 1, none⟩ (.int .i64 (m : Int))) d nb sb cb fv cv ({ S with cut := some (m, bits) } : DS) :=
    ⟨(sc d (Ne.symm b1')).trans h.blk, h.now.keep (sc nb (Ne.symm b2')), h.syn.keep (sc sb (Ne.symm b3')), own_keep h.row (fun k hk => sc k (fun c => b4' (by rw [← c]; exact hk))), ⟨h.come.1, fun _ => ⟨hcv, by omega, D1⟩⟩, h.ok.cutTo _, h.ne⟩
  have KD := do_put (S := { S with cut := some (m, bits) }) ⟨nb, sb, cb, fv, cv, rfl, h1⟩ (b1 := b1) (b2 := b2) ⟨(sc b1 hb1).trans hc.1, (sc b2 hb2).trans hc.2⟩ hk hs hq hn
  have c0 := dcell hcb 0 rfl
  have c1 := dcell hcb 1 rfl
  have f1 := dfroz hcb 1
  have HF : Hid (Mv w (w.setCell ⟨cb, 1, none⟩ (.int .i64 (m : Int))) (dfoot d nb sb cb fv S) (dfoot d nb sb cb fv ({ S with cut := some (m, bits) } : DS))) :=
    ⟨(Fr.refl _ _).setCell (a := ⟨cb, 1, none⟩) (Or.inr (mem_dfoot.2 (Or.inr (Or.inr (Or.inr (Or.inr ⟨rfl, hu, hne⟩)))))) _, fun x hx => Or.inl (by
      rcases mem_dfoot.1 hx with q | q | q | q | ⟨q, _, _⟩
      · exact mem_dfoot.2 (Or.inl q)
      · exact mem_dfoot.2 (Or.inr (Or.inl q))
      · exact mem_dfoot.2 (Or.inr (Or.inr (Or.inl q)))
      · exact mem_dfoot.2 (Or.inr (Or.inr (Or.inr (Or.inl q))))
      · exact mem_dfoot.2 (Or.inr (Or.inr (Or.inr (Or.inr ⟨q, hu, hne⟩)))))⟩
  have z0 : (((m + 1 : Nat) : Int) == 0) = false := by simp; omega
  have z1 : decide (((m + 1 : Nat) : Int) = 0) = false := by simp; omega
  have z2 : IntKind.i64.wrap (((m + 1 : Nat) : Int) - 1) = (m : Int) := by rw [wrap_i64 (by omega) (by omega)]; omega
  have z3 : ((m + 1 : Nat) : Int) - 1 = (m : Int) := by omega
  have z4 : wrap64 (m : Int) = (m : Int) := by unfold wrap64; omega
  generalize ((m + 1 : Nat) : Int) = M at *
  clear h h1 hcv hle hcb D1 sc b1' b2' b3' b4' hne hcut hu hn hc hk hs hq hb1 hb2
  unfold ptr at *
  go_enter Tryz.func46, Tryz.ntmps46
  go_wp2_with fail
  refine KD.mono ?_
  rintro e w2 ⟨rfl, Z2, h2, m2⟩
  have HH := hide (And.intro h2 m2)
  clear h2 m2 KD
  go_wp2_with fail
  go_ret
  exact ⟨rfl, Z2, (unhide HH).1, (unhide HF).trans (unhide HH).2⟩
/-- A cut that lets nothing more through. -/
theorem cut_falls {d nb sb cb : Nat} {fv cv : Value} {S : DS} {w : World} (h : Dk w d nb sb cb fv cv S) (hu : S.up = true) {bits : Int} (hcut : S.cut = some (0, bits)) (J : Value) :
    Calls Tryz.prog 46 #[ptr cb, J] w fun e w' => e = .returned (.int .i64 6) ∧ ∃ Z', DkS w' d (S.fall bits) Z' ∧ Mv w w' (dfoot d nb sb cb fv S) Z' := by
  have hne : S.cut ≠ none := by rw [hcut]; simp
  obtain ⟨n', bits', e1, hcv, hle, hcb⟩ := h.come.cut hu hne
  rw [hcut] at e1
  simp only [Option.some.injEq, Prod.mk.injEq] at e1
  obtain ⟨rfl, rfl⟩ := e1
  have KF : Calls Tryz.prog 48 #[ptr d, .int .i64 bits] w.drew fun e w' => e = .returned (.tuple #[]) ∧ ∃ Z', DkS w' d (S.fall bits) Z' ∧ Mv w w' (dfoot d nb sb cb fv S) Z' := by
    have hf : Fr [] w w.drew := (Fr.refl [] w).drew
    refine (fall_core (h.keep hf (by simp)) bits).mono ?_
    rintro e w' ⟨e1, Z', h1, m1⟩
    exact ⟨e1, Z', h1, (Mv.same _ hf.toBelow).trans m1⟩
  have c0 := dcell hcb 0 rfl
  have c1 : w.cell? ⟨cb, 1, none⟩ = some (.int .i64 0) := dcell hcb 1 rfl
  have c2 := dcell hcb 2 rfl
  clear h hcv hle hcb hne hcut hu
  unfold ptr at *
  go_enter Tryz.func46, Tryz.ntmps46
  go_wp2_with fail
  go_region_law (go_simp; go_wp2_with (first | (go_at_call 48; refine KF.mono ?_; rintro e z1 ⟨rfl, hz⟩)))
  all_goals
    have HZ := hide hz
    clear hz
    go_wp2_with fail
    go_ret
    exact ⟨rfl, unhide HZ⟩

end Go.Proofs.YtfnpeiikjiffeaaGreat
