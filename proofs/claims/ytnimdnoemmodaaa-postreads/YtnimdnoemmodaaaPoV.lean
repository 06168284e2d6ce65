/- What is so of whoever does something at all: alive of layer 15. -/
import Derived.Test.YtnimdnoemmodaaaZ21
namespace Go.Proofs.Ytnimdnoemmodaaa
open Go.RowKit Go.Maps
def lvCm : Cm := ⟨0, 0, 0, 0, 0, false, [], [], [], [], 0, 0, [], 0, 0⟩
def lvMl (k e : Int) : Ml := ⟨k, lvCm, 0, e, 0, 0, 0, 0, 0, [], 0, 0, 0, 0, 0, 0⟩
def lvMx : Mx := ⟨⟨.slice none 0 0, .slice none 0 0, .slice none 0 0, .slice none 0 0, .slice none 0 0⟩, [], .slice none 0 0, []⟩
theorem trd_nilM (w : World) : Trd w (.slice none 0 0) [] := ⟨by simp, by simp, Or.inl ⟨rfl, none, 0, rfl⟩⟩
theorem lvMl_r (w : World) (k e : Int) : MlR w (lvMl k e) lvMx :=
  ⟨⟨RI.nil _ _, Or.inl ⟨rfl, none, 0, rfl, fun _ => rfl⟩, by simp [lvMl, lvCm], RI.nil _ _, RI.nil _ _, trd_nilM _⟩, trd_nilM _⟩
theorem lvMl_sm (k e : Int) : SmM (lvMl k e) :=
  ⟨⟨by simp [lvMl, lvCm], by simp [lvMl, lvCm], by simp [lvMl, lvCm], by simp [lvMl, lvCm], by simp [lvMl, lvCm], by simp [lvMl, lvCm], by simp [lvMl, lvCm], by simp [lvMl, lvCm], by simp [lvMl, lvCm]⟩, by simp [lvMl], by simp [lvMl], by simp [lvMl]⟩
theorem lvMl_c (k e : Int) : (mlC (lvMl k e) lvMx).toArray = #[.int .u8 k, .int .i64 0, .int .i64 0, .int .i64 0, .int .i64 0, .int .i64 0, .bool false, .slice none 0 0, .slice none 0 0, .slice none 0 0, .slice none 0 0, .int .i64 0, .int .i64 0, .slice none 0 0, .int .i64 0, .int .i64 0, .int .i64 0, .int .i64 e, .int .i64 0, .int .i64 0, .int .i64 0, .int .i64 0, .int .i64 0, .slice none 0 0, .int .i64 0, .int .i64 0, .int .i64 0, .int .i64 0, .int .i64 0, .int .i64 0] := rfl
def lvB (o : Bool) : Bx := ⟨3, o, [lvMl 2 7], 0⟩
def okB (b : Bx) : Prop := 0 ≤ b.dev ∧ b.dev < 512 ∧ 0 ≤ b.dn ∧ b.dn ≤ 1099511627776
theorem may0 : mayP [] := fun j b h => by simp at h
theorem may1 {a : Bx} (h : okB a) : mayP [a] := fun j b hb => by
  match j, hb with
  | 0, hb => cases hb; exact ⟨h, fun q i hi => by omega⟩
theorem may2 {a c : Bx} (h : okB a) (k : okB c) (hl : a.dev < c.dev) : mayP [a, c] := fun j b hb => by
  match j, hb with
  | 0, hb => cases hb; exact ⟨h, fun q i hi => by omega⟩
  | 1, hb =>
    cases hb
    refine ⟨k, fun q i hi hq => ?_⟩
    obtain rfl : i = 0 := by omega
    cases hq; exact hl
theorem may_t {l : List Bx} (h : mayP l) : mayX l = true := mayX_iff.2 h
theorem trn_first {B : Nat} {w' : World} {v' : Value} {er d : Int} {a c : Bx} {E : Bx → Int} {N : Bx → Bx} (hm : mayP [a, c]) (h1 : a.dev = d) (h2 : c.dev ≠ d) (h : Trn B w' v' er [a, c] d E N) : er = E a ∧ (er = 0 → ∃ xs', OwL kBx B w' v' [N a, c] xs') := by
  rcases h with q | q | ⟨k, b, _, q2, q3, q4, q5⟩
  · rw [may_t hm] at q; exact absurd q.2.1 (by simp)
  · exact absurd h1 (q.2.2.1 a (by simp))
  · match k, q2 with
    | 0, q2 =>
      cases q2
      refine ⟨q4, fun z => ?_⟩
      rcases q5 with q | q
      · exact absurd z q.1
      · exact q.2
    | 1, q2 => cases q2; exact absurd q3 h2
theorem trn_second {B : Nat} {w' : World} {v' : Value} {er d : Int} {a c : Bx} {E : Bx → Int} {N : Bx → Bx} (hm : mayP [a, c]) (h1 : a.dev ≠ d) (h2 : c.dev = d) (h : Trn B w' v' er [a, c] d E N) : er = E c ∧ (er = 0 → ∃ xs', OwL kBx B w' v' [a, N c] xs') := by
  rcases h with q | q | ⟨k, b, _, q2, q3, q4, q5⟩
  · rw [may_t hm] at q; exact absurd q.2.1 (by simp)
  · exact absurd h2 (q.2.2.1 c (by simp))
  · match k, q2 with
    | 0, q2 => cases q2; exact absurd q3 h1
    | 1, q2 =>
      cases q2
      refine ⟨q4, fun z => ?_⟩
      rcases q5 with q | q
      · exact absurd z q.1
      · exact q.2
def LvR (W : World) (v : Value) (l : List Bx) : Prop := ∃ xs, RdL kBx W v l xs ∧ CapX xs
theorem LvR.bw {W W' : World} {v : Value} {l : List Bx} (h : LvR W v l) (hb : Below W.heap.size W W') : LvR W' v l := by
  obtain ⟨xs, h1, h2⟩ := h; exact ⟨xs, h1.bw hb, h2⟩
theorem OwL.lvr {B : Nat} {W : World} {v : Value} {l : List Bx} {xs : List (Value × List Mx)} (h : OwL kBx B W v l xs) (hs : SmX l) : LvR W v l := ⟨xs, h.bxs hs.b, h.capX⟩
theorem smx0 : SmX [] := ⟨by simp, by simp⟩
theorem smb_n (d n : Int) : SmB ⟨d, false, [], n⟩ := ⟨by simp, by simp⟩
theorem smb_b (o : Bool) : SmB (lvB o) := ⟨by simp [lvB], fun m hm => by simp [lvB] at hm; subst hm; exact lvMl_sm 2 7⟩
theorem smx1 {a : Bx} (h : SmB a) : SmX [a] := ⟨by simp, fun b hb => by simp at hb; subst hb; exact h⟩
theorem smx2 {a c : Bx} (h : SmB a) (k : SmB c) : SmX [a, c] := ⟨by simp, fun b hb => by simp at hb; rcases hb with rfl | rfl; exact h; exact k⟩
theorem okn (d n : Int) (h : 0 ≤ d ∧ d < 512) (k : 0 ≤ n ∧ n ≤ 1099511627776) (o : Bool) (l : List Ml) : okB ⟨d, o, l, n⟩ := ⟨h.1, h.2, k.1, k.2⟩
theorem ok9 : okB (nbx 9) := okn 9 0 (by decide) (by decide) _ _
theorem ok3 : okB (nbx 3) := okn 3 0 (by decide) (by decide) _ _
theorem okL (o : Bool) : okB (lvB o) := okn 3 0 (by decide) (by decide) _ _
theorem lv_open {B n : Nat} {w : World} {v : Value} {l : List Bx} {xs : List (Value × List Mx)} (h : OwL kBx B w v l xs) (hl : l.length = n + 1) : ∃ g c, v = .slice (some ⟨g, 0, none⟩) (n + 1) c := by
  obtain ⟨g, c, hv, _⟩ := own_open h.row (by omega)
  exact ⟨g, c, by rw [hv, hl]⟩
theorem lvO1 (W : World) : Calls Try.prog 22 #[.slice none 0 0, .int .i64 9] W fun e w' => ∃ g c, e = .returned (.tuple #[.slice (some ⟨g, 0, none⟩) 1 c, .int .i64 0]) ∧ Hid (LvR w' (.slice (some ⟨g, 0, none⟩) 1 c) [nbx 9]) ∧ Below W.heap.size W w' := by
  refine Calls.mono (poOpen_any (xs := []) (l := []) 9 ⟨rfl, by simp, none, 0, rfl, Or.inl rfl⟩ smx0) ?_
  rintro e w' ⟨v', er, rfl, hb, h⟩
  rcases h with q | q | ⟨rfl, _, _, _, k, xs', hk, ho⟩
  · rw [may_t may0] at q; rcases q.2.1 with c | c
    · exact absurd c (by simp)
    · exact absurd (by decide) c
  · obtain ⟨p, hp, _⟩ := q.2.2.1; simp at hp
  · obtain rfl : k = 0 := by have := hk.le; simp at this; exact this
    have ho' : OwL kBx W.heap.size w' v' [nbx 9] xs' := ho
    obtain ⟨g, c, rfl⟩ := lv_open ho' rfl
    exact ⟨g, c, rfl, ho'.lvr (smx1 (smb_n _ _)), hb⟩
theorem lvO2 {W : World} {v : Value} (h0 : LvR W v [nbx 9]) : Calls Try.prog 22 #[v, .int .i64 3] W fun e w' => ∃ g c, e = .returned (.tuple #[.slice (some ⟨g, 0, none⟩) 2 c, .int .i64 0]) ∧ Hid (LvR w' (.slice (some ⟨g, 0, none⟩) 2 c) [nbx 3, nbx 9]) ∧ Below W.heap.size W w' := by
  obtain ⟨xs, h1, _⟩ := h0
  refine Calls.mono (poOpen_any 3 h1 (smx1 (smb_n _ _))) ?_
  rintro e w' ⟨v', er, rfl, hb, h⟩
  rcases h with q | q | ⟨rfl, _, _, _, k, xs', hk, ho⟩
  · rw [may_t (may1 ok9)] at q; rcases q.2.1 with c | c
    · exact absurd c (by simp)
    · exact absurd (by decide) c
  · obtain ⟨p, hp, hp2⟩ := q.2.2.1; simp at hp; subst hp; exact absurd hp2 (by decide)
  · obtain rfl : k = 0 := by
      have h1 := hk.le
      simp at h1
      rcases Nat.eq_zero_or_pos k with c | c
      · exact c
      · exact absurd (hk.lo 0 (nbx 9) c rfl) (by decide)
    have ho' : OwL kBx W.heap.size w' v' [nbx 3, nbx 9] xs' := ho
    obtain ⟨g, c, rfl⟩ := lv_open ho' rfl
    exact ⟨g, c, rfl, ho'.lvr (smx2 (smb_n _ _) (smb_n _ _)), hb⟩
theorem lvP {W : World} {v : Value} (h0 : LvR W v [nbx 3, nbx 9]) : Calls Try.prog 12 #[v, .int .i64 3, .agg #[.int .u8 2, .int .i64 0, .int .i64 0, .int .i64 0, .int .i64 0, .int .i64 0, .bool false, .slice none 0 0, .slice none 0 0, .slice none 0 0, .slice none 0 0, .int .i64 0, .int .i64 0, .slice none 0 0, .int .i64 0, .int .i64 0, .int .i64 0, .int .i64 7, .int .i64 0, .int .i64 0, .int .i64 0, .int .i64 0, .int .i64 0, .slice none 0 0, .int .i64 0, .int .i64 0, .int .i64 0, .int .i64 0, .int .i64 0, .int .i64 0]] W fun e w' => ∃ g c, e = .returned (.tuple #[.slice (some ⟨g, 0, none⟩) 2 c, .int .i64 0]) ∧ Hid (LvR w' (.slice (some ⟨g, 0, none⟩) 2 c) [lvB false, nbx 9]) ∧ Below W.heap.size W w' := by
  obtain ⟨xs, h1, _⟩ := h0
  have K := poPut_any 3 h1 (smx2 (smb_n _ _) (smb_n _ _)) (lvMl_r W 2 7) (lvMl_sm 2 7)
  rw [lvMl_c] at K
  refine Calls.mono K ?_
  rintro e w' ⟨v', er, rfl, hb, h⟩
  obtain ⟨q1, q2⟩ := trn_first (may2 ok3 ok9 (by decide)) rfl (by decide) h
  obtain rfl : er = 0 := q1
  obtain ⟨xs', ho⟩ := q2 rfl
  have ho' : OwL kBx W.heap.size w' v' [lvB false, nbx 9] xs' := ho
  obtain ⟨g, c, rfl⟩ := lv_open ho' rfl
  exact ⟨g, c, rfl, ho'.lvr (smx2 (smb_b _) (smb_n _ _)), hb⟩
theorem lvS {W : World} {v : Value} (h0 : LvR W v [lvB false, nbx 9]) : Calls Try.prog 8 #[v, .int .i64 3, .int .i64 0] W fun e w' => ∃ g c, e = .returned (.tuple #[.slice (some ⟨g, 0, none⟩) 1 c, .int .i64 0]) ∧ Hid (w'.cell? ⟨g, 17, none⟩ = some (.int .i64 7)) ∧ Below W.heap.size W w' := by
  obtain ⟨xs, h1, h2⟩ := h0
  refine Calls.mono (poSince_any 3 0 h1 (smx2 (smb_b _) (smb_n _ _)) h2) ?_
  rintro e w' ⟨v', er, rfl, hb, h⟩
  rcases h with q | q | ⟨k, b, _, q2, q3, q4⟩
  · rw [may_t (may2 (okL _) ok9 (by decide))] at q; exact absurd q.2.1 (by simp)
  · exact absurd rfl (q.2.2.1 (lvB false) (by simp))
  · have hkb : b = lvB false := by
      match k, q2 with
      | 0, q2 => cases q2; rfl
      | 1, q2 => cases q2; exact absurd q3 (by decide)
    subst hkb
    rcases q4 with q | ⟨rfl, n', e0, _, ys, ho⟩
    · exact absurd ⟨by decide, by simp⟩ q.2.1
    · obtain rfl : n' = 0 := by omega
      have ho' : OwL kMl W.heap.size w' v' [lvMl 2 7] ys := ho
      obtain ⟨g, c, hv, _⟩ := own_open ho'.row (by simp)
      subst hv
      have hy : 0 < ys.length := by rw [ho'.xl]; simp
      refine ⟨g, c, rfl, ?_, hb⟩
      have := own_cell ho'.row (g := g) rfl (cellK_get (K := kMl) (i := 0) (j := 17) (u := .int .i64 7) (by rfl) (List.getElem?_eq_getElem hy) rfl)
      have z : w'.cell? ⟨g, 17, none⟩ = some (.int .i64 7) := by simpa using this
      exact z
theorem lvC3 {W : World} {v : Value} (h0 : LvR W v [lvB false, nbx 9]) : Calls Try.prog 15 #[v, .int .i64 3] W fun e w' => ∃ g c, e = .returned (.tuple #[.slice (some ⟨g, 0, none⟩) 2 c, .int .i64 0]) ∧ Hid (LvR w' (.slice (some ⟨g, 0, none⟩) 2 c) [lvB true, nbx 9]) ∧ Below W.heap.size W w' := by
  obtain ⟨xs, h1, _⟩ := h0
  refine Calls.mono (poClose_any 3 h1 (smx2 (smb_b _) (smb_n _ _))) ?_
  rintro e w' ⟨v', er, rfl, hb, h⟩
  rcases h with q | h
  · exact absurd (by decide) q.2.1
  · obtain ⟨q1, q2⟩ := trn_first (may2 (okL _) ok9 (by decide)) rfl (by decide) h
    obtain rfl : er = 0 := q1
    obtain ⟨xs', ho⟩ := q2 rfl
    have ho' : OwL kBx W.heap.size w' v' [lvB true, nbx 9] xs' := ho
    obtain ⟨g, c, rfl⟩ := lv_open ho' rfl
    exact ⟨g, c, rfl, ho'.lvr (smx2 (smb_b _) (smb_n _ _)), hb⟩
theorem lvP2 {W : World} {v : Value} (h0 : LvR W v [lvB true, nbx 9]) : Calls Try.prog 12 #[v, .int .i64 3, .agg #[.int .u8 0, .int .i64 0, .int .i64 0, .int .i64 0, .int .i64 0, .int .i64 0, .bool false, .slice none 0 0, .slice none 0 0, .slice none 0 0, .slice none 0 0, .int .i64 0, .int .i64 0, .slice none 0 0, .int .i64 0, .int .i64 0, .int .i64 0, .int .i64 0, .int .i64 0, .int .i64 0, .int .i64 0, .int .i64 0, .int .i64 0, .slice none 0 0, .int .i64 0, .int .i64 0, .int .i64 0, .int .i64 0, .int .i64 0, .int .i64 0]] W fun e w' => ∃ v', e = .returned (.tuple #[v', .int .i64 11]) ∧ Below W.heap.size W w' := by
  obtain ⟨xs, h1, _⟩ := h0
  have K := poPut_any 3 h1 (smx2 (smb_b _) (smb_n _ _)) (lvMl_r W 0 0) (lvMl_sm 0 0)
  rw [lvMl_c] at K
  refine Calls.mono K ?_
  rintro e w' ⟨v', er, rfl, hb, h⟩
  obtain ⟨q1, q2⟩ := trn_first (may2 (okL _) ok9 (by decide)) rfl (by decide) h
  obtain rfl : er = 11 := q1
  exact ⟨v', rfl, hb⟩
theorem lvD {W : World} {v : Value} (h0 : LvR W v [lvB true, nbx 9]) : Calls Try.prog 16 #[v, .int .i64 9, .int .i64 0] W fun e w' => ∃ g c, e = .returned (.tuple #[.slice (some ⟨g, 0, none⟩) 2 c, .int .i64 0]) ∧ Hid (w'.cell? ⟨g, 7, none⟩ = some (.int .i64 1)) ∧ Below W.heap.size W w' := by
  obtain ⟨xs, h1, _⟩ := h0
  refine Calls.mono (poDone_any 9 0 h1 (smx2 (smb_b _) (smb_n _ _))) ?_
  rintro e w' ⟨v', er, rfl, hb, h⟩
  obtain ⟨q1, q2⟩ := trn_second (may2 (okL _) ok9 (by decide)) (by decide) rfl h
  obtain rfl : er = 0 := q1
  obtain ⟨xs', ho⟩ := q2 rfl
  have ho' : OwL kBx W.heap.size w' v' [lvB true, ⟨9, false, [], 1⟩] xs' := ho
  obtain ⟨g, c, rfl⟩ := lv_open ho' rfl
  have hy : 1 < xs'.length := by rw [ho'.xl]; simp
  refine ⟨g, c, rfl, ?_, hb⟩
  have := ho'.bcell (g := g) rfl (k := 1) rfl (List.getElem?_eq_getElem hy) 3 _ rfl
  have z : w'.cell? ⟨g, 7, none⟩ = some (.int .i64 1) := by simpa using this
  exact z
set_option maxRecDepth 100000 in
set_option maxHeartbeats 4000000 in
theorem alive15_any (w : World) : Calls Try.prog 10 #[] w fun e w' => e = .returned (.bool true) ∧ Below w.heap.size w w' := by
  have K1 := hide lvO1
  have K2 := hide (fun W v => @lvO2 W v)
  have K3 := hide (fun W v => @lvP W v)
  have K4 := hide (fun W v => @lvS W v)
  have K5 := hide (fun W v => @lvC3 W v)
  have K6 := hide (fun W v => @lvP2 W v)
  have K7 := hide (fun W v => @lvD W v)
  go_enter Try.func10, Try.ntmps10
  go_wp2_with fail
  refine (unhide K1 w).mono ?_
  rintro e w1 ⟨g1, c1, rfl, h1, b1⟩
  go_wp2_with fail
  refine (unhide K2 w1 _ (unhide h1)).mono ?_
  rintro e w2 ⟨g2, c2, rfl, h2, b2⟩
  have d2 := hide (bw_tr b1 b2)
  have x2 : w2.cell? ⟨g2, 0, none⟩ = some (.int .i64 3) := by
    obtain ⟨xs, r1, _⟩ := unhide h2
    obtain ⟨g, o, x, e1, _, _, hc⟩ := r1.get (i := 0) rfl
    cases e1
    exact hc 0 _ rfl
  clear h1 b1 b2 K1 K2
  go_wp2_with fail
  refine (unhide K3 w2 _ (unhide h2)).mono ?_
  rintro e w3 ⟨g3, c3, rfl, h3, b3⟩
  have x3 : w3.cell? ⟨g2, 0, none⟩ = some (.int .i64 3) := by rw [b3.cell (lt_of_cell x2)]; exact x2
  have d3 := hide (bw_tr (unhide d2) b3)
  clear x2 h2 d2 b3 K3
  go_wp2_with fail
  refine (unhide K4 w3 _ (unhide h3)).mono ?_
  rintro e w4 ⟨g4, c4, rfl, h4, b4⟩
  have x4 : w4.cell? ⟨g2, 0, none⟩ = some (.int .i64 3) := by rw [b4.cell (lt_of_cell x3)]; exact x3
  have y4 : w4.cell? ⟨g4, 17, none⟩ = some (.int .i64 7) := unhide h4
  have l4 : Hid (LvR w4 (.slice (some ⟨g3, 0, none⟩) 2 c3) [lvB false, nbx 9]) := (unhide h3).bw b4
  have d4 := hide (bw_tr (unhide d3) b4)
  clear x3 h3 h4 d3 b4 K4
  go_wp2_with fail
  refine (unhide K5 w4 _ (unhide l4)).mono ?_
  rintro e w5 ⟨g5, c5, rfl, h5, b5⟩
  have x5 : w5.cell? ⟨g2, 0, none⟩ = some (.int .i64 3) := by rw [b5.cell (lt_of_cell x4)]; exact x4
  have y5 : w5.cell? ⟨g4, 17, none⟩ = some (.int .i64 7) := by rw [b5.cell (lt_of_cell y4)]; exact y4
  have d5 := hide (bw_tr (unhide d4) b5)
  clear x4 y4 l4 d4 b5 K5
  go_wp2_with fail
  refine (unhide K6 w5 _ (unhide h5)).mono ?_
  rintro e w6 ⟨v6, rfl, b6⟩
  have x6 : w6.cell? ⟨g2, 0, none⟩ = some (.int .i64 3) := by rw [b6.cell (lt_of_cell x5)]; exact x5
  have y6 : w6.cell? ⟨g4, 17, none⟩ = some (.int .i64 7) := by rw [b6.cell (lt_of_cell y5)]; exact y5
  have l6 : Hid (LvR w6 (.slice (some ⟨g5, 0, none⟩) 2 c5) [lvB true, nbx 9]) := (unhide h5).bw b6
  have d6 := hide (bw_tr (unhide d5) b6)
  clear x5 y5 h5 d5 b6 K6
  go_wp2_with fail
  refine (unhide K7 w6 _ (unhide l6)).mono ?_
  rintro e w7 ⟨g7, c7, rfl, h7, b7⟩
  have x7 : w7.cell? ⟨g2, 0, none⟩ = some (.int .i64 3) := by rw [b7.cell (lt_of_cell x6)]; exact x6
  have y7 : w7.cell? ⟨g4, 17, none⟩ = some (.int .i64 7) := by rw [b7.cell (lt_of_cell y6)]; exact y6
  have z7 : w7.cell? ⟨g7, 7, none⟩ = some (.int .i64 1) := unhide h7
  have d7 := hide (bw_tr (unhide d6) b7)
  clear x6 y6 l6 d6 b7 h7 K7
  go_wp2_with fail
  go_ret
  exact ⟨rfl, unhide d7⟩
end Go.Proofs.Ytnimdnoemmodaaa
