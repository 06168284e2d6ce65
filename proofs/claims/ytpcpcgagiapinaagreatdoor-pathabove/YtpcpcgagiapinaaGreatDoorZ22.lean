/- Texts joined: PbB PbC. -/
import Derived.Test.YtpcpcgagiapinaaGreatDoorZ21
import Derived.Test.YtpcpcgagiapinaaGreatDoorZ04
/- What path.newRow makes, plainly. No walk is in this text. -/
namespace Go.Proofs.YtpcpcgagiapinaaGreatDoor.Tn.Pa
open Go.RowKit Go.Maps
def kpS (p : List Tm × List (Int × Int) × List Nat) (q : Nat × Int) : List Tm × List (Int × Int) × List Nat :=
  ((pub (p.1, q.1)).1, p.2.1 ++ [(q.2, ((key (p.1, q.1)).2 : Int))], p.2.2 ++ [(pub (p.1, q.1)).2])
def kpF (z : List (Nat × Int)) (L : List Tm) : Nat → List Tm × List (Int × Int) × List Nat
  | 0 => (L, [], [])
  | i + 1 => kpS (kpF z L i) (z.getD i (0, 0))
def slS (p : List Tm × List (Int × Int × Int)) (q : Int × Nat × Int × Int) : List Tm × List (Int × Int × Int) :=
  (mkL p.1 ⟨6, 0, q.1, (q.2.1 : Int)⟩, p.2 ++ [(q.2.2.1, q.2.2.2, (mkN p.1 ⟨6, 0, q.1, (q.2.1 : Int)⟩ : Int))])
def slF (L : List Tm) (D : List (Int × Nat × Int × Int)) : List Tm × List (Int × Int × Int) := D.foldl slS (L, [])
def sq (T : List Nd) (ls : List Nat) (pl : List Int) (i : Nat) (y : Int) : Int × Nat × Int × Int := ((ndAt T y.toNat).pub, ls.getD (i + 1) 0, pl.getD (i + 1) 0, y)
def dn (T : List Nd) (ls : List Nat) (pl : List Int) (tg : List (List Int)) : Nat → List (Int × Nat × Int × Int)
  | 0 => []
  | i + 1 => dn T ls pl tg i ++ (tg.getD i []).map (sq T ls pl i)
def nrK (pl : List Int) (p : List Tm × Nat) : List Tm × List (Int × Int) × List Nat := kpF ((row p pl.length).zip pl) (sec p pl.length).1 pl.length
def nrQ (T : List Nd) (pl : List Int) (tg : List (List Int)) (p : List Tm × Nat) : List Tm × List (Int × Int × Int) := slF (nrK pl p).1 (dn T (row p pl.length) pl tg tg.length)
theorem slF_snoc (L : List Tm) (D : List (Int × Nat × Int × Int)) (q : Int × Nat × Int × Int) : slF L (D ++ [q]) = slS (slF L D) q := by simp [slF]
theorem kpF_len (z : List (Nat × Int)) (L : List Tm) : ∀ i, (kpF z L i).1.length ≤ L.length + 2 * i ∧ L.length ≤ (kpF z L i).1.length ∧ (kpF z L i).2.1.length = i ∧ (kpF z L i).2.2.length = i
  | 0 => by simp [kpF]
  | i + 1 => by
    have h := kpF_len z L i
    have h2 := key_len ((kpF z L i).1, (z.getD i (0, 0)).1)
    have h3 := mkL_len (key ((kpF z L i).1, (z.getD i (0, 0)).1)).1 ⟨5, 0, ((key ((kpF z L i).1, (z.getD i (0, 0)).1)).2 : Int), 0⟩
    have h4 := mkL_le (key ((kpF z L i).1, (z.getD i (0, 0)).1)).1 ⟨5, 0, ((key ((kpF z L i).1, (z.getD i (0, 0)).1)).2 : Int), 0⟩
    simp only [kpF, kpS, List.length_append, List.length_cons, List.length_nil]
    simp only [pub]
    simp only at h2
    omega
theorem slF_len0 (D : List (Int × Nat × Int × Int)) : ∀ p, (D.foldl slS p).1.length ≤ p.1.length + D.length ∧ p.1.length ≤ (D.foldl slS p).1.length ∧ (D.foldl slS p).2.length = p.2.length + D.length := by
  induction D with
  | nil => intro p; simp
  | cons q D ih =>
    intro p
    have h := ih (slS p q)
    have h1 := mkL_len p.1 ⟨6, 0, q.1, (q.2.1 : Int)⟩
    have h2 := mkL_le p.1 ⟨6, 0, q.1, (q.2.1 : Int)⟩
    simp only [List.foldl_cons, List.length_cons]
    simp only [slS, List.length_append, List.length_cons, List.length_nil] at h ⊢
    omega
theorem slF_len (L : List Tm) (D : List (Int × Nat × Int × Int)) : (slF L D).1.length ≤ L.length + D.length ∧ L.length ≤ (slF L D).1.length ∧ (slF L D).2.length = D.length := by
  have := slF_len0 D (L, [])
  simpa [slF] using this
theorem row_rng {p : List Tm × Nat} (h : Gd p) : ∀ n, p.1.length + n ≤ 1048576 → ∀ x ∈ row p n, 1 ≤ x ∧ x ≤ (sec p n).1.length
  | 0, _, x, hx => by simp [row] at hx; subst hx; exact h
  | n + 1, hl, x, hx => by
    simp only [row, List.mem_append, List.mem_cons, List.not_mem_nil, or_false] at hx
    rcases hx with hx | rfl
    · have := row_rng h n (by omega) x hx
      have := nxt_len (sec p n)
      exact ⟨by omega, by show x ≤ (nxt _).1.length; omega⟩
    · exact sec_gd h (n + 1) hl
theorem may_seal {N : Nat} {a s : Int} (ha : thr N a = true) (hs : thr N s = true) : may N ⟨6, 0, a, s⟩ = true := by
  simp [may, ha, hs]
theorem ok_seal {a s : Int} (h : 0 ≤ a ∧ a ≤ 1048577 ∧ 0 ≤ s ∧ s ≤ 1048577) : Tm.ok ⟨6, 0, a, s⟩ := by
  refine ⟨by simp, by simp, by simp, by simp, ?_, ?_, ?_, ?_⟩ <;> simp <;> omega
theorem thr_more {N M : Nat} {x : Int} (h : thr N x = true) (hm : N ≤ M) : thr M x = true := by have := thr_iff.1 h; exact thr_iff.2 (by omega)
theorem dn_len (T : List Nd) (ls : List Nat) (pl : List Int) (tg : List (List Int)) (m : Nat) (h : ∀ l ∈ tg, l.length ≤ m) : ∀ i, (dn T ls pl tg i).length ≤ m * i
  | 0 => by simp [dn]
  | i + 1 => by
    have ih := dn_len T ls pl tg m h i
    have h1 : (tg.getD i []).length ≤ m := by
      rw [List.getD_eq_getElem?_getD]
      cases e : tg[i]? with
      | none => simp
      | some l => exact h l (List.mem_of_getElem? e)
    simp only [dn, List.length_append, List.length_map]
    have : m * (i + 1) = m * i + m := Nat.mul_succ m i
    omega
end Go.Proofs.YtpcpcgagiapinaaGreatDoor.Tn.Pa

/- The contract of path.newRow. -/
namespace Go.Proofs.YtpcpcgagiapinaaGreatDoor.Tn.Pa
open Go.RowKit Go.Maps
abbrev nilV : Value := .slice none 0 0
def Nfix (F : World → Prop) (v : Value) (l : List Int) : Prop :=
  ∃ a c, v = .slice a l.length c ∧ (0 < l.length → ∃ g o, a = some ⟨g, o, none⟩ ∧ ∀ W, F W → ∀ i x, l[i]? = some x → W.cell? ⟨g, o + i, none⟩ = some (.int .i64 x))
def Rfix (F : World → Prop) (v : Value) (ls : List (List Int)) : Prop :=
  ∃ a c, v = .slice a ls.length c ∧ (0 < ls.length → ∃ g o, a = some ⟨g, o, none⟩ ∧ ∀ i l, ls[i]? = some l → ∃ u, (∀ W, F W → W.cell? ⟨g, o + i, none⟩ = some u) ∧ Nfix F u l)
def nrR (b : Nat) (sv : Value) (mb : Nat) (L : List Tm) (lv : Value) (ls : List Nat) (rb : Nat) (kv pv qv : Value) (cm : Nat) (ks : List (Int × Int)) (ps : List Nat) (qs : List (Int × Int × Int)) (rest : List Res) : List Res :=
  resS b sv mb L :: resC rb #[kv, pv, qv, .int .i64 (cm : Int)] 137 :: resW 71 2 kv ks.length (kysC ks) :: resN pv ps :: resW 76 3 qv qs.length (slsC qs) :: resN lv ls :: rest
theorem one2 (x y : Int) : ∀ u ∈ [Value.int .i64 x, .int .i64 y], u.oneCell' = true := by intro u hu; simp at hu; rcases hu with rfl | rfl <;> rfl
theorem one3 (x y z : Int) : ∀ u ∈ [Value.int .i64 x, .int .i64 y, .int .i64 z], u.oneCell' = true := by intro u hu; simp at hu; rcases hu with rfl | rfl | rfl <;> rfl
theorem nr_key {F : List Nat} {w W W5 : World} {b : Nat} {sv : Value} {mb : Nat} {L : List Tm} {lv : Value} {ls : List Nat} {rb : Nat} {kv pv qv v' : Value} {cm : Nat} {ks : List (Int × Int)} {ps : List Nat} {qs : List (Int × Int × Int)} {rest : List Res} {ob : Obj} {x y : Int}
    (h : EF F w W (nrR b sv mb L lv ls rb kv pv qv cm ks ps qs rest)) (hown : W5.ownsRow 0 71 2 v' (ks.length + 1) (kysC ks ++ [.int .i64 x, .int .i64 y])) (hg : (W.alloc ob).grownBy W5 kv.ownBlock) (hat : v'.ownBlock = kv.ownBlock ∨ v'.ownBlock = some (W.alloc ob).heap.size) :
    EF F w (W5.setCell ⟨rb, 0, none⟩ v') (nrR b sv mb L lv ls rb v' pv qv cm (ks ++ [(x, y)]) ps qs rest) ∧ W5.heap[rb]? = some (.cells #[kv, pv, qv, .int .i64 (cm : Int)] 137 (0, 0)) := by
  have h1 := (h.up 2 rfl).grow hown hg hat
  have h2 := h1.up 2 rfl
  have h3 := (h2.poke (i := 0) v').up 2 rfl
  refine ⟨?_, h2.hd⟩
  unfold nrR
  rw [kysC_snoc, List.length_append]
  exact h3
theorem nr_pub {F : List Nat} {w W W5 : World} {b : Nat} {sv : Value} {mb : Nat} {L : List Tm} {lv : Value} {ls : List Nat} {rb : Nat} {kv pv qv v' : Value} {cm : Nat} {ks : List (Int × Int)} {ps : List Nat} {qs : List (Int × Int × Int)} {rest : List Res} {ob : Obj} {x : Nat}
    (h : EF F w W (nrR b sv mb L lv ls rb kv pv qv cm ks ps qs rest)) (hown : W5.ownsRow 0 3 1 v' (ps.length + 1) (ps.map (fun m => .int .i64 ((m : Nat) : Int)) ++ [.int .i64 (x : Int)])) (hg : (W.alloc ob).grownBy W5 pv.ownBlock) (hat : v'.ownBlock = pv.ownBlock ∨ v'.ownBlock = some (W.alloc ob).heap.size) :
    EF F w (W5.setCell ⟨rb, 1, none⟩ v') (nrR b sv mb L lv ls rb kv v' qv cm ks (ps ++ [x]) qs rest) ∧ W5.heap[rb]? = some (.cells #[kv, pv, qv, .int .i64 (cm : Int)] 137 (0, 0)) := by
  have hr : NRow 0 W5 v' (ps ++ [x]) := by unfold NRow; rw [List.length_append]; simpa using hown
  have h1 := (h.up 3 rfl).step (r' := resN v' (ps ++ [x])) (mv_grown hg hat) hr
  have h2 := h1.up 2 rfl
  have h3 := (((h2.poke (i := 1) v').up 3 rfl).up 1 rfl).up 3 rfl
  exact ⟨h3, h2.hd⟩
theorem nr_seal {F : List Nat} {w W W5 : World} {b : Nat} {sv : Value} {mb : Nat} {L : List Tm} {lv : Value} {ls : List Nat} {rb : Nat} {kv pv qv v' : Value} {cm : Nat} {ks : List (Int × Int)} {ps : List Nat} {qs : List (Int × Int × Int)} {rest : List Res} {ob : Obj} {x y z : Int}
    (h : EF F w W (nrR b sv mb L lv ls rb kv pv qv cm ks ps qs rest)) (hown : W5.ownsRow 0 76 3 v' (qs.length + 1) (slsC qs ++ [.int .i64 x, .int .i64 y, .int .i64 z])) (hg : (W.alloc ob).grownBy W5 qv.ownBlock) (hat : v'.ownBlock = qv.ownBlock ∨ v'.ownBlock = some (W.alloc ob).heap.size) :
    EF F w (W5.setCell ⟨rb, 2, none⟩ v') (nrR b sv mb L lv ls rb kv pv v' cm ks ps (qs ++ [(x, y, z)]) rest) ∧ W5.heap[rb]? = some (.cells #[kv, pv, qv, .int .i64 (cm : Int)] 137 (0, 0)) := by
  have h1 := (h.up 4 rfl).grow hown hg hat
  have h2 := h1.up 2 rfl
  have h3 := ((((h2.poke (i := 2) v').up 4 rfl).up 4 rfl).up 2 rfl).up 4 rfl
  refine ⟨?_, h2.hd⟩
  unfold nrR
  rw [slsC_snoc, List.length_append]
  exact h3
theorem nr_put {F : List Nat} {w W : World} {b : Nat} {sv : Value} {mb : Nat} {L : List Tm} {lv : Value} {ls : List Nat} {rb : Nat} {kv pv qv : Value} {cm : Nat} {ks : List (Int × Int)} {ps : List Nat} {qs : List (Int × Int × Int)} {rest : List Res} {r : Res}
    (h : EF F w W (r :: nrR b sv mb L lv ls rb kv pv qv cm ks ps qs rest)) : EF F w W (nrR b sv mb L lv ls rb kv pv qv cm ks ps qs (r :: rest)) :=
  (((((h.up 6 rfl).up 6 rfl).up 6 rfl).up 6 rfl).up 6 rfl).up 6 rfl
theorem nr_drop {F : List Nat} {w W : World} {b : Nat} {sv : Value} {mb : Nat} {L : List Tm} {lv : Value} {ls : List Nat} {rb : Nat} {kv pv qv : Value} {cm : Nat} {ks : List (Int × Int)} {ps : List Nat} {qs : List (Int × Int × Int)} {rest : List Res} {r : Res}
    (h : EF F w W (nrR b sv mb L lv ls rb kv pv qv cm ks ps qs (r :: rest))) : EF F w W (nrR b sv mb L lv ls rb kv pv qv cm ks ps qs rest) :=
  h.sub (.cons_cons _ (.cons_cons _ (.cons_cons _ (.cons_cons _ (.cons_cons _ (.cons_cons _ (.cons _ (List.Sublist.refl _))))))))
theorem nr_start {F : List Nat} {w W : World} {b : Nat} {sv : Value} {mb : Nat} {L : List Tm} {lv : Value} {ls : List Nat} {cm : Nat} {rest : List Res}
    (h : EF F w W (resS b sv mb L :: resN lv ls :: rest)) : EF F w (W.alloc (.cells #[nilV, nilV, nilV, .int .i64 (cm : Int)] 137)) (nrR b sv mb L lv ls W.heap.size nilV nilV nilV cm [] [] [] rest) := by
  have h1 := (h.newC #[nilV, nilV, nilV, .int .i64 (cm : Int)] 137).nilW 71 2
  have h2 := (h1.add (resN nilV []) (Below.refl _ _) (World.ownsRow_nil _ _ _ _) (by intro x hx; simp [resN, nilV, Value.ownBlock] at hx)).nilW 76 3
  exact (((h2.up 1 rfl).up 2 rfl).up 3 rfl).up 4 rfl
end Go.Proofs.YtpcpcgagiapinaaGreatDoor.Tn.Pa
