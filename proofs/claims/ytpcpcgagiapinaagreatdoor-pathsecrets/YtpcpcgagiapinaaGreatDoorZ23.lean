/- Texts joined: PbB PcT PbC. -/
import Derived.Test.YtpcpcgagiapinaaGreatDoorZ22
import Derived.Test.YtpcpcgagiapinaaGreatDoorZ04
import Derived.Test.YtpcpcgagiapinaaGreatDoorZ19
/- What path.newRow makes, plainly. No walk is in this text. -/
namespace Go.Proofs.YtpcpcgagiapinaaGreatDoor.Tn.Pa
open Go.RowKit Go.Maps
def kpS (p : List Tm × List (Int × Int) × List Nat) (q : Nat × Int) : List Tm × List (Int × Int) × List Nat :=
  ((pub (p.1, q.1)).1, p.2.1 ++ [(q.2, ((key (p.1, q.1)).2 : Int))], p.2.2 ++ [(pub (p.1, q.1)).2])
def kpF (z : List (Nat × Int)) (L : List Tm) : Nat → List Tm × List (Int × Int) × List Nat
  | 0 => (L, [], [])
  | i + 1 => kpS (kpF z L i) (z.getD i (0, 0))
def slS (p : List Tm × List (Int × Int × Int)) (q : Int × Nat × Int × Int) : List Tm × List (Int × Int × Int) :=
  (mkL p.1 ⟨6, 0, q.1, (q.2.1 : Int)⟩, p.2 ++ [(q.2.2.1, q.2.2.2, (mkN p.1 ⟨6, 0, q.1, (q.2.1 : Int)⟩ : Int))])
def slF (L : List Tm) (D : List (Int × Nat × Int × Int)) : List Tm × List (Int × Int × Int) := D.foldl slS (L, [])
def sq (T : List Nd) (ls : List Nat) (pl : List Int) (i : Nat) (y : Int) : Int × Nat × Int × Int := ((ndAt T y.toNat).pub, ls.getD (i + 1) 0, pl.getD (i + 1) 0, y)
def dn (T : List Nd) (ls : List Nat) (pl : List Int) (tg : List (List Int)) : Nat → List (Int × Nat × Int × Int)
  | 0 => []
  | i + 1 => dn T ls pl tg i ++ (tg.getD i []).map (sq T ls pl i)
def nrK (pl : List Int) (p : List Tm × Nat) : List Tm × List (Int × Int) × List Nat := kpF ((row p pl.length).zip pl) (sec p pl.length).1 pl.length
def nrQ (T : List Nd) (pl : List Int) (tg : List (List Int)) (p : List Tm × Nat) : List Tm × List (Int × Int × Int) := slF (nrK pl p).1 (dn T (row p pl.length) pl tg tg.length)
theorem slF_snoc (L : List Tm) (D : List (Int × Nat × Int × Int)) (q : Int × Nat × Int × Int) : slF L (D ++ [q]) = slS (slF L D) q := by simp [slF]
theorem kpF_len (z : List (Nat × Int)) (L : List Tm) : ∀ i, (kpF z L i).1.length ≤ L.length + 2 * i ∧ L.length ≤ (kpF z L i).1.length ∧ (kpF z L i).2.1.length = i ∧ (kpF z L i).2.2.length = i
  | 0 => by simp [kpF]
  | i + 1 => by
    have h := kpF_len z L i
    have h2 := key_len ((kpF z L i).1, (z.getD i (0, 0)).1)
    have h3 := mkL_len (key ((kpF z L i).1, (z.getD i (0, 0)).1)).1 ⟨5, 0, ((key ((kpF z L i).1, (z.getD i (0, 0)).1)).2 : Int), 0⟩
    have h4 := mkL_le (key ((kpF z L i).1, (z.getD i (0, 0)).1)).1 ⟨5, 0, ((key ((kpF z L i).1, (z.getD i (0, 0)).1)).2 : Int), 0⟩
    simp only [kpF, kpS, List.length_append, List.length_cons, List.length_nil]
    simp only [pub]
    simp only at h2
    omega
theorem slF_len0 (D : List (Int × Nat × Int × Int)) : ∀ p, (D.foldl slS p).1.length ≤ p.1.length + D.length ∧ p.1.length ≤ (D.foldl slS p).1.length ∧ (D.foldl slS p).2.length = p.2.length + D.length := by
  induction D with
  | nil => intro p; simp
  | cons q D ih =>
    intro p
    have h := ih (slS p q)
    have h1 := mkL_len p.1 ⟨6, 0, q.1, (q.2.1 : Int)⟩
    have h2 := mkL_le p.1 ⟨6, 0, q.1, (q.2.1 : Int)⟩
    simp only [List.foldl_cons, List.length_cons]
    simp only [slS, List.length_append, List.length_cons, List.length_nil] at h ⊢
    omega
theorem slF_len (L : List Tm) (D : List (Int × Nat × Int × Int)) : (slF L D).1.length ≤ L.length + D.length ∧ L.length ≤ (slF L D).1.length ∧ (slF L D).2.length = D.length := by
  have := slF_len0 D (L, [])
  simpa [slF] using this
theorem row_rng {p : List Tm × Nat} (h : Gd p) : ∀ n, p.1.length + n ≤ 1048576 → ∀ x ∈ row p n, 1 ≤ x ∧ x ≤ (sec p n).1.length
  | 0, _, x, hx => by simp [row] at hx; subst hx; exact h
  | n + 1, hl, x, hx => by
    simp only [row, List.mem_append, List.mem_cons, List.not_mem_nil, or_false] at hx
    rcases hx with hx | rfl
    · have := row_rng h n (by omega) x hx
      have := nxt_len (sec p n)
      exact ⟨by omega, by show x ≤ (nxt _).1.length; omega⟩
    · exact sec_gd h (n + 1) hl
theorem may_seal {N : Nat} {a s : Int} (ha : thr N a = true) (hs : thr N s = true) : may N ⟨6, 0, a, s⟩ = true := by
  simp [may, ha, hs]
theorem ok_seal {a s : Int} (h : 0 ≤ a ∧ a ≤ 1048577 ∧ 0 ≤ s ∧ s ≤ 1048577) : Tm.ok ⟨6, 0, a, s⟩ := by
  refine ⟨by simp, by simp, by simp, by simp, ?_, ?_, ?_, ?_⟩ <;> simp <;> omega
theorem thr_more {N M : Nat} {x : Int} (h : thr N x = true) (hm : N ≤ M) : thr M x = true := by have := thr_iff.1 h; exact thr_iff.2 (by omega)
theorem dn_len (T : List Nd) (ls : List Nat) (pl : List Int) (tg : List (List Int)) (m : Nat) (h : ∀ l ∈ tg, l.length ≤ m) : ∀ i, (dn T ls pl tg i).length ≤ m * i
  | 0 => by simp [dn]
  | i + 1 => by
    have ih := dn_len T ls pl tg m h i
    have h1 : (tg.getD i []).length ≤ m := by
      rw [List.getD_eq_getElem?_getD]
      cases e : tg[i]? with
      | none => simp
      | some l => exact h l (List.mem_of_getElem? e)
    simp only [dn, List.length_append, List.length_map]
    have : m * (i + 1) = m * i + m := Nat.mul_succ m i
    omega
end Go.Proofs.YtpcpcgagiapinaaGreatDoor.Tn.Pa

/- What PathSecrets keeps: both stores, and rows of numbers beside them. No walk is in this text. -/
namespace Go.Proofs.YtpcpcgagiapinaaGreatDoor.Tn.Pa
open Go.RowKit Go.Maps
structure S9 (w W : World) (b : Nat) (sv : Value) (mb rb : Nat) (rv : Value) (L R : List Tm) (rows : List (Value × List Nat)) : Prop where
  two : Two w W b sv mb rb rv L R
  rw : ∀ x ∈ rows, NRow 0 W x.1 x.2
section
variable {w W W' : World} {b : Nat} {sv sv' : Value} {mb rb : Nat} {rv rv' : Value} {L R L' R' : List Tm} {rows : List (Value × List Nat)}
theorem S9.stepS (h : S9 w W b sv mb rb rv L R rows) (s : SStep W W' b sv sv' mb L') : S9 w W' b sv' mb rb rv L' R rows :=
  ⟨h.two.stepS s, fun x hx => (h.rw x hx).keep (fun k hk => by obtain ⟨cur, e⟩ := (h.rw x hx).block hk; exact s.fr.block k (lt_of_blk e) (h.two.st.notin e (by decide) (by decide)))⟩
theorem S9.stepR (h : S9 w W b sv mb rb rv L R rows) (s : RStep W W' rb rv rv' R') : S9 w W' b sv mb rb rv' L R' rows :=
  ⟨h.two.stepR s, fun x hx => (h.rw x hx).keep (fun k hk => by obtain ⟨cur, e⟩ := (h.rw x hx).block hk; exact s.fr.block k (lt_of_blk e) (rs_notin h.two.rs e (by decide) (by decide)))⟩
theorem S9.new (h : S9 w W b sv mb rb rv L R rows) (hb : Below W.heap.size W W') : S9 w W' b sv mb rb rv L R rows :=
  ⟨h.two.new hb, fun x hx => (h.rw x hx).keep (fun k hk => hb.block k ((h.rw x hx).lt k hk).2)⟩
theorem S9.put (h : S9 w W b sv mb rb rv L R rows) {v : Value} {ks : List Nat} (hr : NRow 0 W v ks) : S9 w W b sv mb rb rv L R ((v, ks) :: rows) :=
  ⟨h.two, fun x hx => by rcases List.mem_cons.1 hx with rfl | hx; exact hr; exact h.rw x hx⟩
end
def scG (L : List Tm) (x n : Int) : Bool := decide (0 ≤ n) && decide (n ≤ 16) && thr L.length x
def scE (L : List Tm) (x n : Int) : Int := if scG L x n = true then 0 else 1
def scL (L : List Tm) (x n : Int) : List Tm := if scG L x n = true then (sec (L, x.toNat) n.toNat).1 else L
def scK (L : List Tm) (x n : Int) : List Nat := if scG L x n = true then row (L, x.toNat) n.toNat else []
def ndE (L : List Tm) (x : Int) : Int := if thr L.length x = true then 0 else 1
def ndL (L : List Tm) (x : Int) : List Tm := if thr L.length x = true then (pub (L, x.toNat)).1 else L
def ndK (L : List Tm) (x : Int) : Nat := if thr L.length x = true then (key (L, x.toNat)).2 else 0
def ndP (L : List Tm) (x : Int) : Nat := if thr L.length x = true then (pub (L, x.toNat)).2 else 0
theorem thr_gd {L : List Tm} {x : Int} (h : thr L.length x = true) : Gd (L, x.toNat) ∧ ((x.toNat : Nat) : Int) = x := by
  have := thr_iff.1 h
  exact ⟨⟨by simp; omega, by simp; omega⟩, by omega⟩
theorem nrow_nil (W : World) : NRow 0 W (.slice none 0 0) [] := World.ownsRow_nil _ _ _ _
theorem nr_mono {B : Nat} {W : World} {v : Value} {l : List Nat} (h : NRow B W v l) : NRow 0 W v l := own_base h (Nat.zero_le _)
theorem sc_rng {L : List Tm} (x n : Int) (hl : L.length + 100 ≤ 1048575) : (∀ k ∈ scK L x n, k ≤ (scL L x n).length) ∧ (scL L x n).length ≤ L.length + 16 ∧ L.length ≤ (scL L x n).length ∧ (scK L x n).length ≤ 17 := by
  unfold scK scL
  split
  · next h =>
    unfold scG at h
    simp only [Bool.and_eq_true, decide_eq_true_eq] at h
    obtain ⟨h1, h2⟩ := thr_gd h.2
    have q := sec_len (L, x.toNat) n.toNat
    have r := row_rng h1 n.toNat (by simp; omega)
    simp only at q r
    exact ⟨fun k hk => (r k hk).2, by omega, by omega, by rw [row_len]; omega⟩
  · exact ⟨fun k hk => (by cases hk), by omega, by omega, by simp⟩
theorem nd_rng {L : List Tm} (x : Int) (hl : L.length + 100 ≤ 1048575) : ndK L x ≤ (ndL L x).length ∧ ndP L x ≤ (ndL L x).length ∧ (ndL L x).length ≤ L.length + 2 ∧ L.length ≤ (ndL L x).length := by
  unfold ndK ndP ndL
  split
  · next h =>
    obtain ⟨h1, -⟩ := thr_gd h
    have q := key_len (L, x.toNat)
    have g := key_gd h1 (by simp; omega)
    have p1 : (pub (L, x.toNat)).1.length ≤ (key (L, x.toNat)).1.length + 1 := mkL_len _ _
    have p2 : (key (L, x.toNat)).1.length ≤ (pub (L, x.toNat)).1.length := mkL_le _ _
    have g2 : Gd (pub (L, x.toNat)) := gd_of (may_pb g) (by simp only at q; omega)
    have := g.2
    have := g2.2
    simp only at q
    exact ⟨by omega, by omega, by omega, by omega⟩
  · exact ⟨by omega, by omega, by omega, by omega⟩
section
variable {w W : World} {b : Nat} {sv : Value} {mb rb : Nat} {rv : Value} {L R : List Tm} {rows : List (Value × List Nat)}
theorem psec9 (h : S9 w W b sv mb rb rv L R rows) (x n : Int) (hl : L.length + 100 ≤ 1048575) : Calls Tryz.prog 8 #[.pointer (some ⟨b, 0, none⟩), .int .i64 x, .int .i64 n] W fun e W' => ∃ a c, e = .returned (.tuple #[.slice a (scK L x n).length c, .int .i64 (scE L x n)]) ∧ ∃ sv', S9 w W' b sv' mb rb rv (scL L x n) R ((.slice a (scK L x n).length c, scK L x n) :: rows) := by
  unfold scE scL scK
  by_cases hg : scG L x n = true
  · rw [if_pos hg, if_pos hg, if_pos hg]
    unfold scG at hg
    simp only [Bool.and_eq_true, decide_eq_true_eq] at hg
    obtain ⟨h1, h2⟩ := thr_gd hg.2
    have K := pSecrets_ok (L, x.toNat) n.toNat h.two.st h1 (by omega) (by simp; omega)
    simp only [h2, show ((n.toNat : Nat) : Int) = n by omega] at K
    refine K.mono ?_
    rintro e W' ⟨a, c, rfl, sv', k⟩
    rw [row_len]
    exact ⟨a, c, rfl, sv', (h.stepS k.s).put (nr_mono k.r)⟩
  · rw [if_neg hg, if_neg hg, if_neg hg]
    refine (pSecrets_err h.two.st x n (by unfold scG at hg; simpa using hg)).mono ?_
    rintro e W' ⟨rfl, k⟩
    exact ⟨none, 0, rfl, sv, (h.new k).put (nrow_nil _)⟩
theorem qsec9 (h : S9 w W b sv mb rb rv L R rows) (x n : Int) (hl : R.length + 100 ≤ 1048575) : Calls Tryz.prog 9 #[.pointer (some ⟨rb, 0, none⟩), .int .i64 x, .int .i64 n] W fun e W' => ∃ a c, e = .returned (.tuple #[.slice a (scK R x n).length c, .int .i64 (scE R x n)]) ∧ ∃ rv', S9 w W' b sv mb rb rv' L (scL R x n) ((.slice a (scK R x n).length c, scK R x n) :: rows) := by
  unfold scE scL scK
  by_cases hg : scG R x n = true
  · rw [if_pos hg, if_pos hg, if_pos hg]
    unfold scG at hg
    simp only [Bool.and_eq_true, decide_eq_true_eq] at hg
    obtain ⟨h1, h2⟩ := thr_gd hg.2
    have K := qSecrets_ok (R, x.toNat) n.toNat h.two.rs h1 (by omega) (by simp; omega)
    simp only [h2, show ((n.toNat : Nat) : Int) = n by omega] at K
    refine K.mono ?_
    rintro e W' ⟨a, c, rfl, sv', k⟩
    rw [row_len]
    exact ⟨a, c, rfl, sv', (h.stepR k.s).put (nr_mono k.r)⟩
  · rw [if_neg hg, if_neg hg, if_neg hg]
    refine (qSecrets_err h.two.rs x n (by unfold scG at hg; simpa using hg)).mono ?_
    rintro e W' ⟨rfl, k⟩
    exact ⟨none, 0, rfl, rv, (h.new k).put (nrow_nil _)⟩
theorem pnod9 (h : S9 w W b sv mb rb rv L R rows) (x : Int) (hl : L.length + 100 ≤ 1048575) : Calls Tryz.prog 10 #[.pointer (some ⟨b, 0, none⟩), .int .i64 x] W fun e W' => e = .returned (.tuple #[.int .i64 (ndK L x : Nat), .int .i64 (ndP L x : Nat), .int .i64 (ndE L x)]) ∧ ∃ sv', S9 w W' b sv' mb rb rv (ndL L x) R rows := by
  unfold ndK ndP ndE ndL
  by_cases hg : thr L.length x = true
  · rw [if_pos hg, if_pos hg, if_pos hg, if_pos hg]
    obtain ⟨h1, h2⟩ := thr_gd hg
    have K := pNode_ok (L, x.toNat) h.two.st h1 (by simp; omega)
    simp only [h2] at K
    refine K.mono ?_
    rintro e W' ⟨rfl, sv', k⟩
    exact ⟨rfl, sv', h.stepS k⟩
  · rw [if_neg hg, if_neg hg, if_neg hg, if_neg hg]
    refine (pNode_err h.two.st x (by simpa using hg)).mono ?_
    rintro e W' ⟨rfl, k⟩
    exact ⟨rfl, sv, h.new k⟩
theorem qnod9 (h : S9 w W b sv mb rb rv L R rows) (x : Int) (hl : R.length + 100 ≤ 1048575) : Calls Tryz.prog 11 #[.pointer (some ⟨rb, 0, none⟩), .int .i64 x] W fun e W' => e = .returned (.tuple #[.int .i64 (ndK R x : Nat), .int .i64 (ndP R x : Nat), .int .i64 (ndE R x)]) ∧ ∃ rv', S9 w W' b sv mb rb rv' L (ndL R x) rows := by
  unfold ndK ndP ndE ndL
  by_cases hg : thr R.length x = true
  · rw [if_pos hg, if_pos hg, if_pos hg, if_pos hg]
    obtain ⟨h1, h2⟩ := thr_gd hg
    have K := qNode_ok (R, x.toNat) h.two.rs h1 (by simp; omega)
    simp only [h2] at K
    refine K.mono ?_
    rintro e W' ⟨rfl, sv', k⟩
    exact ⟨rfl, sv', h.stepR k⟩
  · rw [if_neg hg, if_neg hg, if_neg hg, if_neg hg]
    refine (qNode_err h.two.rs x (by simpa using hg)).mono ?_
    rintro e W' ⟨rfl, k⟩
    exact ⟨rfl, rv, h.new k⟩
theorem across9 (h : S9 w W b sv mb rb rv L L rows) (hl : L.length ≤ 3000) : Calls Tryz.prog 12 #[.pointer (some ⟨b, 0, none⟩), .pointer (some ⟨rb, 0, none⟩)] W fun e W' => ∃ mp, e = .returned (.tuple #[.pointer (some ⟨mp, 0, none⟩), .bool true]) ∧ Below w.heap.size w W' ∧ (∀ x ∈ rows, NRow 0 W' x.1 x.2) ∧ ∀ V, Below W'.heap.size W' V → ∀ k, k ≤ L.length → Calls Tryz.prog 14 #[.pointer (some ⟨mp, 0, none⟩), .int .i64 (k : Int), .int .i64 (k : Int)] V fun e w' => e = .returned (.bool true) ∧ w' = V := by
  refine (acrossx_any w W b sv mb rb rv L L h.two hl hl).mono ?_
  rintro e w' ⟨mp, lv, rv', R', ph, h1, hAc, hAr, hpre, hfr⟩
  have hlen := hAr.len
  have hid := hAr.ident hAc.two.st.good hpre
  obtain ⟨g9, cp, rfl, _⟩ := hAc.form (by omega)
  refine ⟨mp, h1, hAc.two.bel, fun x hx => (h.rw x hx).keep (fun k hk => by obtain ⟨cur, e⟩ := (h.rw x hx).block hk; exact hfr.block k (lt_of_blk e) (rs_notin h.two.rs e (by decide) (by decide))), fun V hV k hk => ?_⟩
  have c1 := hAc.at (i := k) (by omega)
  rw [hid k hk] at c1
  refine msame_any mp g9 ph.length cp k V (by omega) (by omega) ?_ ?_
  · rw [hV.cell (lt_of_cell hAc.cells.1)]; exact hAc.cells.1
  · rw [hV.cell (lt_of_cell c1)]; exact c1
end
end Go.Proofs.YtpcpcgagiapinaaGreatDoor.Tn.Pa

/- The contract of path.newRow. -/
namespace Go.Proofs.YtpcpcgagiapinaaGreatDoor.Tn.Pa
open Go.RowKit Go.Maps
abbrev nilV : Value := .slice none 0 0
def Nfix (F : World → Prop) (v : Value) (l : List Int) : Prop :=
  ∃ a c, v = .slice a l.length c ∧ (0 < l.length → ∃ g o, a = some ⟨g, o, none⟩ ∧ ∀ W, F W → ∀ i x, l[i]? = some x → W.cell? ⟨g, o + i, none⟩ = some (.int .i64 x))
def Rfix (F : World → Prop) (v : Value) (ls : List (List Int)) : Prop :=
  ∃ a c, v = .slice a ls.length c ∧ (0 < ls.length → ∃ g o, a = some ⟨g, o, none⟩ ∧ ∀ i l, ls[i]? = some l → ∃ u, (∀ W, F W → W.cell? ⟨g, o + i, none⟩ = some u) ∧ Nfix F u l)
def nrR (b : Nat) (sv : Value) (mb : Nat) (L : List Tm) (lv : Value) (ls : List Nat) (rb : Nat) (kv pv qv : Value) (cm : Nat) (ks : List (Int × Int)) (ps : List Nat) (qs : List (Int × Int × Int)) (rest : List Res) : List Res :=
  resS b sv mb L :: resC rb #[kv, pv, qv, .int .i64 (cm : Int)] 137 :: resW 71 2 kv ks.length (kysC ks) :: resN pv ps :: resW 76 3 qv qs.length (slsC qs) :: resN lv ls :: rest
theorem one2 (x y : Int) : ∀ u ∈ [Value.int .i64 x, .int .i64 y], u.oneCell' = true := by intro u hu; simp at hu; rcases hu with rfl | rfl <;> rfl
theorem one3 (x y z : Int) : ∀ u ∈ [Value.int .i64 x, .int .i64 y, .int .i64 z], u.oneCell' = true := by intro u hu; simp at hu; rcases hu with rfl | rfl | rfl <;> rfl
theorem nr_key {F : List Nat} {w W W5 : World} {b : Nat} {sv : Value} {mb : Nat} {L : List Tm} {lv : Value} {ls : List Nat} {rb : Nat} {kv pv qv v' : Value} {cm : Nat} {ks : List (Int × Int)} {ps : List Nat} {qs : List (Int × Int × Int)} {rest : List Res} {ob : Obj} {x y : Int}
    (h : EF F w W (nrR b sv mb L lv ls rb kv pv qv cm ks ps qs rest)) (hown : W5.ownsRow 0 71 2 v' (ks.length + 1) (kysC ks ++ [.int .i64 x, .int .i64 y])) (hg : (W.alloc ob).grownBy W5 kv.ownBlock) (hat : v'.ownBlock = kv.ownBlock ∨ v'.ownBlock = some (W.alloc ob).heap.size) :
    EF F w (W5.setCell ⟨rb, 0, none⟩ v') (nrR b sv mb L lv ls rb v' pv qv cm (ks ++ [(x, y)]) ps qs rest) ∧ W5.heap[rb]? = some (.cells #[kv, pv, qv, .int .i64 (cm : Int)] 137 (0, 0)) := by
  have h1 := (h.up 2 rfl).grow hown hg hat
  have h2 := h1.up 2 rfl
  have h3 := (h2.poke (i := 0) v').up 2 rfl
  refine ⟨?_, h2.hd⟩
  unfold nrR
  rw [kysC_snoc, List.length_append]
  exact h3
theorem nr_pub {F : List Nat} {w W W5 : World} {b : Nat} {sv : Value} {mb : Nat} {L : List Tm} {lv : Value} {ls : List Nat} {rb : Nat} {kv pv qv v' : Value} {cm : Nat} {ks : List (Int × Int)} {ps : List Nat} {qs : List (Int × Int × Int)} {rest : List Res} {ob : Obj} {x : Nat}
    (h : EF F w W (nrR b sv mb L lv ls rb kv pv qv cm ks ps qs rest)) (hown : W5.ownsRow 0 3 1 v' (ps.length + 1) (ps.map (fun m => .int .i64 ((m : Nat) : Int)) ++ [.int .i64 (x : Int)])) (hg : (W.alloc ob).grownBy W5 pv.ownBlock) (hat : v'.ownBlock = pv.ownBlock ∨ v'.ownBlock = some (W.alloc ob).heap.size) :
    EF F w (W5.setCell ⟨rb, 1, none⟩ v') (nrR b sv mb L lv ls rb kv v' qv cm ks (ps ++ [x]) qs rest) ∧ W5.heap[rb]? = some (.cells #[kv, pv, qv, .int .i64 (cm : Int)] 137 (0, 0)) := by
  have hr : NRow 0 W5 v' (ps ++ [x]) := by unfold NRow; rw [List.length_append]; simpa using hown
  have h1 := (h.up 3 rfl).step (r' := resN v' (ps ++ [x])) (mv_grown hg hat) hr
  have h2 := h1.up 2 rfl
  have h3 := (((h2.poke (i := 1) v').up 3 rfl).up 1 rfl).up 3 rfl
  exact ⟨h3, h2.hd⟩
theorem nr_seal {F : List Nat} {w W W5 : World} {b : Nat} {sv : Value} {mb : Nat} {L : List Tm} {lv : Value} {ls : List Nat} {rb : Nat} {kv pv qv v' : Value} {cm : Nat} {ks : List (Int × Int)} {ps : List Nat} {qs : List (Int × Int × Int)} {rest : List Res} {ob : Obj} {x y z : Int}
    (h : EF F w W (nrR b sv mb L lv ls rb kv pv qv cm ks ps qs rest)) (hown : W5.ownsRow 0 76 3 v' (qs.length + 1) (slsC qs ++ [.int .i64 x, .int .i64 y, .int .i64 z])) (hg : (W.alloc ob).grownBy W5 qv.ownBlock) (hat : v'.ownBlock = qv.ownBlock ∨ v'.ownBlock = some (W.alloc ob).heap.size) :
    EF F w (W5.setCell ⟨rb, 2, none⟩ v') (nrR b sv mb L lv ls rb kv pv v' cm ks ps (qs ++ [(x, y, z)]) rest) ∧ W5.heap[rb]? = some (.cells #[kv, pv, qv, .int .i64 (cm : Int)] 137 (0, 0)) := by
  have h1 := (h.up 4 rfl).grow hown hg hat
  have h2 := h1.up 2 rfl
  have h3 := ((((h2.poke (i := 2) v').up 4 rfl).up 4 rfl).up 2 rfl).up 4 rfl
  refine ⟨?_, h2.hd⟩
  unfold nrR
  rw [slsC_snoc, List.length_append]
  exact h3
theorem nr_put {F : List Nat} {w W : World} {b : Nat} {sv : Value} {mb : Nat} {L : List Tm} {lv : Value} {ls : List Nat} {rb : Nat} {kv pv qv : Value} {cm : Nat} {ks : List (Int × Int)} {ps : List Nat} {qs : List (Int × Int × Int)} {rest : List Res} {r : Res}
    (h : EF F w W (r :: nrR b sv mb L lv ls rb kv pv qv cm ks ps qs rest)) : EF F w W (nrR b sv mb L lv ls rb kv pv qv cm ks ps qs (r :: rest)) :=
  (((((h.up 6 rfl).up 6 rfl).up 6 rfl).up 6 rfl).up 6 rfl).up 6 rfl
theorem nr_drop {F : List Nat} {w W : World} {b : Nat} {sv : Value} {mb : Nat} {L : List Tm} {lv : Value} {ls : List Nat} {rb : Nat} {kv pv qv : Value} {cm : Nat} {ks : List (Int × Int)} {ps : List Nat} {qs : List (Int × Int × Int)} {rest : List Res} {r : Res}
    (h : EF F w W (nrR b sv mb L lv ls rb kv pv qv cm ks ps qs (r :: rest))) : EF F w W (nrR b sv mb L lv ls rb kv pv qv cm ks ps qs rest) :=
  h.sub (.cons_cons _ (.cons_cons _ (.cons_cons _ (.cons_cons _ (.cons_cons _ (.cons_cons _ (.cons _ (List.Sublist.refl _))))))))
theorem nr_start {F : List Nat} {w W : World} {b : Nat} {sv : Value} {mb : Nat} {L : List Tm} {lv : Value} {ls : List Nat} {cm : Nat} {rest : List Res}
    (h : EF F w W (resS b sv mb L :: resN lv ls :: rest)) : EF F w (W.alloc (.cells #[nilV, nilV, nilV, .int .i64 (cm : Int)] 137)) (nrR b sv mb L lv ls W.heap.size nilV nilV nilV cm [] [] [] rest) := by
  have h1 := (h.newC #[nilV, nilV, nilV, .int .i64 (cm : Int)] 137).nilW 71 2
  have h2 := (h1.add (resN nilV []) (Below.refl _ _) (World.ownsRow_nil _ _ _ _) (by intro x hx; simp [resN, nilV, Value.ownBlock] at hx)).nilW 76 3
  exact (((h2.up 1 rfl).up 2 rfl).up 3 rfl).up 4 rfl
end Go.Proofs.YtpcpcgagiapinaaGreatDoor.Tn.Pa
