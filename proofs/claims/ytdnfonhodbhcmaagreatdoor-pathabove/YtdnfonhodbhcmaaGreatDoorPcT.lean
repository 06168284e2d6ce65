/- What PathSecrets keeps: both stores, and rows of numbers beside them. No walk is in this text. -/
import Derived.Test.YtdnfonhodbhcmaaGreatDoorZ33
import Derived.Test.YtdnfonhodbhcmaaGreatDoorZ22
namespace Go.Proofs.YtdnfonhodbhcmaaGreatDoor.Tn.Pa
open Go.RowKit Go.Maps

structure S9 (w W : World) (b : Nat) (sv : Value) (mb rb : Nat) (rv : Value) (L R : List Tm) (rows : List (Value × List Nat)) : Prop where
  two : Two w W b sv mb rb rv L R
  rw : ∀ x ∈ rows, NRow 0 W x.1 x.2
section
variable {w W W' : World} {b : Nat} {sv sv' : Value} {mb rb : Nat} {rv rv' : Value} {L R L' R' : List Tm} {rows : List (Value × List Nat)}
theorem S9.stepS (h : S9 w W b sv mb rb rv L R rows) (s : SStep W W' b sv sv' mb L') : S9 w W' b sv' mb rb rv L' R rows :=
  ⟨h.two.stepS s, fun x hx => (h.rw x hx).keep (fun k hk => by obtain ⟨cur, e⟩ := (h.rw x hx).block hk; exact s.fr.block k (lt_of_blk e) (h.two.st.notin e (by decide) (by decide)))⟩
theorem S9.stepR (h : S9 w W b sv mb rb rv L R rows) (s : RStep W W' rb rv rv' R') : S9 w W' b sv mb rb rv' L R' rows :=
  ⟨h.two.stepR s, fun x hx => (h.rw x hx).keep (fun k hk => by obtain ⟨cur, e⟩ := (h.rw x hx).block hk; exact s.fr.block k (lt_of_blk e) (rs_notin h.two.rs e (by decide) (by decide)))⟩
theorem S9.new (h : S9 w W b sv mb rb rv L R rows) (hb : Below W.heap.size W W') : S9 w W' b sv mb rb rv L R rows :=
  ⟨h.two.new hb, fun x hx => (h.rw x hx).keep (fun k hk => hb.block k ((h.rw x hx).lt k hk).2)⟩
theorem S9.put (h : S9 w W b sv mb rb rv L R rows) {v : Value} {ks : List Nat} (hr : NRow 0 W v ks) : S9 w W b sv mb rb rv L R ((v, ks) :: rows) :=
  ⟨h.two, fun x hx => by rcases List.mem_cons.1 hx with rfl | hx; exact hr; exact h.rw x hx⟩
end
/-! The plain answers. -/
def scG (L : List Tm) (x n : Int) : Bool := decide (0 ≤ n) && decide (n ≤ 16) && thr L.length x
def scE (L : List Tm) (x n : Int) : Int := if scG L x n = true then 0 else 1
def scL (L : List Tm) (x n : Int) : List Tm := if scG L x n = true then (sec (L, x.toNat) n.toNat).1 else L
def scK (L : List Tm) (x n : Int) : List Nat := if scG L x n = true then row (L, x.toNat) n.toNat else []
def ndE (L : List Tm) (x : Int) : Int := if thr L.length x = true then 0 else 1
def ndL (L : List Tm) (x : Int) : List Tm := if thr L.length x = true then (pub (L, x.toNat)).1 else L
def ndK (L : List Tm) (x : Int) : Nat := if thr L.length x = true then (key (L, x.toNat)).2 else 0
def ndP (L : List Tm) (x : Int) : Nat := if thr L.length x = true then (pub (L, x.toNat)).2 else 0
theorem thr_gd {L : List Tm} {x : Int} (h : thr L.length x = true) : Gd (L, x.toNat) ∧ ((x.toNat : Nat) : Int) = x := by
  have := thr_iff.1 h
  exact ⟨⟨by simp; omega, by simp; omega⟩, by omega⟩
theorem nrow_nil (W : World) : NRow 0 W (.slice none 0 0) [] := World.ownsRow_nil _ _ _ _
theorem nr_mono {B : Nat} {W : World} {v : Value} {l : List Nat} (h : NRow B W v l) : NRow 0 W v l := own_base h (Nat.zero_le _)
theorem sc_rng {L : List Tm} (x n : Int) (hl : L.length + 100 ≤ 1048575) : (∀ k ∈ scK L x n, k ≤ (scL L x n).length) ∧ (scL L x n).length ≤ L.length + 16 ∧ L.length ≤ (scL L x n).length ∧ (scK L x n).length ≤ 17 := by
  unfold scK scL
  split
  · next h =>
    unfold scG at h
    simp only [Bool.and_eq_true, decide_eq_true_eq] at h
    obtain ⟨h1, h2⟩ := thr_gd h.2
    have q := sec_len (L, x.toNat) n.toNat
    have r := row_rng h1 n.toNat (by simp; omega)
    simp only at q r
    exact ⟨fun k hk => (r k hk).2, by omega, by omega, by rw [row_len]; omega⟩
  · exact ⟨fun k hk => (by cases hk), by omega, by omega, by simp⟩
theorem nd_rng {L : List Tm} (x : Int) (hl : L.length + 100 ≤ 1048575) : ndK L x ≤ (ndL L x).length ∧ ndP L x ≤ (ndL L x).length ∧ (ndL L x).length ≤ L.length + 2 ∧ L.length ≤ (ndL L x).length := by
  unfold ndK ndP ndL
  split
  · next h =>
    obtain ⟨h1, -⟩ := thr_gd h
    have q := key_len (L, x.toNat)
    have g := key_gd h1 (by simp; omega)
    have p1 : (pub (L, x.toNat)).1.length ≤ (key (L, x.toNat)).1.length + 1 := mkL_len _ _
    have p2 : (key (L, x.toNat)).1.length ≤ (pub (L, x.toNat)).1.length := mkL_le _ _
    have g2 : Gd (pub (L, x.toNat)) := gd_of (may_pb g) (by simp only at q; omega)
    have := g.2
    have := g2.2
    simp only at q
    exact ⟨by omega, by omega, by omega, by omega⟩
  · exact ⟨by omega, by omega, by omega, by omega⟩
section
variable {w W : World} {b : Nat} {sv : Value} {mb rb : Nat} {rv : Value} {L R : List Tm} {rows : List (Value × List Nat)}
theorem psec9 (h : S9 w W b sv mb rb rv L R rows) (x n : Int) (hl : L.length + 100 ≤ 1048575) : Calls Tryz.prog 8 #[.pointer (some ⟨b, 0, none⟩), .int .i64 x, .int .i64 n] W fun e W' => ∃ a c, e = .returned (.tuple #[.slice a (scK L x n).length c, .int .i64 (scE L x n)]) ∧ ∃ sv', S9 w W' b sv' mb rb rv (scL L x n) R ((.slice a (scK L x n).length c, scK L x n) :: rows) := by
  unfold scE scL scK
  by_cases hg : scG L x n = true
  · rw [if_pos hg, if_pos hg, if_pos hg]
    unfold scG at hg
    simp only [Bool.and_eq_true, decide_eq_true_eq] at hg
    obtain ⟨h1, h2⟩ := thr_gd hg.2
    have K := pSecrets_ok (L, x.toNat) n.toNat h.two.st h1 (by omega) (by simp; omega)
    simp only [h2, show ((n.toNat : Nat) : Int) = n by omega] at K
    refine K.mono ?_
    rintro e W' ⟨a, c, rfl, sv', k⟩
    rw [row_len]
    exact ⟨a, c, rfl, sv', (h.stepS k.s).put (nr_mono k.r)⟩
  · rw [if_neg hg, if_neg hg, if_neg hg]
    refine (pSecrets_err h.two.st x n (by unfold scG at hg; simpa using hg)).mono ?_
    rintro e W' ⟨rfl, k⟩
    exact ⟨none, 0, rfl, sv, (h.new k).put (nrow_nil _)⟩
theorem qsec9 (h : S9 w W b sv mb rb rv L R rows) (x n : Int) (hl : R.length + 100 ≤ 1048575) : Calls Tryz.prog 9 #[.pointer (some ⟨rb, 0, none⟩), .int .i64 x, .int .i64 n] W fun e W' => ∃ a c, e = .returned (.tuple #[.slice a (scK R x n).length c, .int .i64 (scE R x n)]) ∧ ∃ rv', S9 w W' b sv mb rb rv' L (scL R x n) ((.slice a (scK R x n).length c, scK R x n) :: rows) := by
  unfold scE scL scK
  by_cases hg : scG R x n = true
  · rw [if_pos hg, if_pos hg, if_pos hg]
    unfold scG at hg
    simp only [Bool.and_eq_true, decide_eq_true_eq] at hg
    obtain ⟨h1, h2⟩ := thr_gd hg.2
    have K := qSecrets_ok (R, x.toNat) n.toNat h.two.rs h1 (by omega) (by simp; omega)
    simp only [h2, show ((n.toNat : Nat) : Int) = n by omega] at K
    refine K.mono ?_
    rintro e W' ⟨a, c, rfl, sv', k⟩
    rw [row_len]
    exact ⟨a, c, rfl, sv', (h.stepR k.s).put (nr_mono k.r)⟩
  · rw [if_neg hg, if_neg hg, if_neg hg]
    refine (qSecrets_err h.two.rs x n (by unfold scG at hg; simpa using hg)).mono ?_
    rintro e W' ⟨rfl, k⟩
    exact ⟨none, 0, rfl, rv, (h.new k).put (nrow_nil _)⟩
theorem pnod9 (h : S9 w W b sv mb rb rv L R rows) (x : Int) (hl : L.length + 100 ≤ 1048575) : Calls Tryz.prog 10 #[.pointer (some ⟨b, 0, none⟩), .int .i64 x] W fun e W' => e = .returned (.tuple #[.int .i64 (ndK L x : Nat), .int .i64 (ndP L x : Nat), .int .i64 (ndE L x)]) ∧ ∃ sv', S9 w W' b sv' mb rb rv (ndL L x) R rows := by
  unfold ndK ndP ndE ndL
  by_cases hg : thr L.length x = true
  · rw [if_pos hg, if_pos hg, if_pos hg, if_pos hg]
    obtain ⟨h1, h2⟩ := thr_gd hg
    have K := pNode_ok (L, x.toNat) h.two.st h1 (by simp; omega)
    simp only [h2] at K
    refine K.mono ?_
    rintro e W' ⟨rfl, sv', k⟩
    exact ⟨rfl, sv', h.stepS k⟩
  · rw [if_neg hg, if_neg hg, if_neg hg, if_neg hg]
    refine (pNode_err h.two.st x (by simpa using hg)).mono ?_
    rintro e W' ⟨rfl, k⟩
    exact ⟨rfl, sv, h.new k⟩
theorem qnod9 (h : S9 w W b sv mb rb rv L R rows) (x : Int) (hl : R.length + 100 ≤ 1048575) : Calls Tryz.prog 11 #[.pointer (some ⟨rb, 0, none⟩), .int .i64 x] W fun e W' => e = .returned (.tuple #[.int .i64 (ndK R x : Nat), .int .i64 (ndP R x : Nat), .int .i64 (ndE R x)]) ∧ ∃ rv', S9 w W' b sv mb rb rv' L (ndL R x) rows := by
  unfold ndK ndP ndE ndL
  by_cases hg : thr R.length x = true
  · rw [if_pos hg, if_pos hg, if_pos hg, if_pos hg]
    obtain ⟨h1, h2⟩ := thr_gd hg
    have K := qNode_ok (R, x.toNat) h.two.rs h1 (by simp; omega)
    simp only [h2] at K
    refine K.mono ?_
    rintro e W' ⟨rfl, sv', k⟩
    exact ⟨rfl, sv', h.stepR k⟩
  · rw [if_neg hg, if_neg hg, if_neg hg, if_neg hg]
    refine (qNode_err h.two.rs x (by simpa using hg)).mono ?_
    rintro e W' ⟨rfl, k⟩
    exact ⟨rfl, rv, h.new k⟩
/-- Across, where both stores have the same terms: each is the same in both, and the rows stay. -/
theorem across9 (h : S9 w W b sv mb rb rv L L rows) (hl : L.length ≤ 3000) : Calls Tryz.prog 12 #[.pointer (some ⟨b, 0, none⟩), .pointer (some ⟨rb, 0, none⟩)] W fun e W' => ∃ mp, e = .returned (.tuple #[.pointer (some ⟨mp, 0, none⟩), .bool true]) ∧ Below w.heap.size w W' ∧ (∀ x ∈ rows, NRow 0 W' x.1 x.2) ∧ ∀ V, Below W'.heap.size W' V → ∀ k, k ≤ L.length → Calls Tryz.prog 14 #[.pointer (some ⟨mp, 0, none⟩), .int .i64 (k : Int), .int .i64 (k : Int)] V fun e w' => e = .returned (.bool true) ∧ w' = V := by
  refine (acrossx_any w W b sv mb rb rv L L h.two hl hl).mono ?_
  rintro e w' ⟨mp, lv, rv', R', ph, h1, hAc, hAr, hpre, hfr⟩
  have hlen := hAr.len
  have hid := hAr.ident hAc.two.st.good hpre
  obtain ⟨g9, cp, rfl, _⟩ := hAc.form (by omega)
  refine ⟨mp, h1, hAc.two.bel, fun x hx => (h.rw x hx).keep (fun k hk => by obtain ⟨cur, e⟩ := (h.rw x hx).block hk; exact hfr.block k (lt_of_blk e) (rs_notin h.two.rs e (by decide) (by decide))), fun V hV k hk => ?_⟩
  have c1 := hAc.at (i := k) (by omega)
  rw [hid k hk] at c1
  refine msame_any mp g9 ph.length cp k V (by omega) (by omega) ?_ ?_
  · rw [hV.cell (lt_of_cell hAc.cells.1)]; exact hAc.cells.1
  · rw [hV.cell (lt_of_cell c1)]; exact c1
end
end Go.Proofs.YtdnfonhodbhcmaaGreatDoor.Tn.Pa
