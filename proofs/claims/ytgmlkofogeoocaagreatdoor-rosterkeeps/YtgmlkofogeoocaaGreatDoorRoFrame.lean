/- (mkRoS.py, out of PoFrame) Mails and boxes, opened off what a caller hands in. -/
import Derived.Test.YtgmlkofogeoocaaGreatDoorLgFrame
import Derived.Test.YtgmlkofogeoocaaGreatDoorZ20
import Derived.Test.YtgmlkofogeoocaaGreatDoorZ18
namespace Go.Proofs.YtgmlkofogeoocaaGreatDoor
open Go.ChangeShapes Go.WideShapes Go.ChangeAt Go.RowKit Go.Joins Go.Deep Go.Maps
def mlB (m : Ml) : Prop := ∀ z ∈ [m.c0, m.c1, m.c2, m.n0, m.n1, m.n2, m.n3, m.n4], -9223372036854775808 ≤ z ∧ z ≤ 9223372036854775807
theorem cellsMl : Tryz.prog.cellsOf 50 = 30 := by kernel_rfl
theorem bytesMl : Tryz.prog.bytesOf 50 = 336 := by kernel_rfl
theorem cellsBx : Tryz.prog.cellsOf 69 = 4 := by kernel_rfl
theorem bytesBx : Tryz.prog.bytesOf 69 = 48 := by kernel_rfl
set_option maxRecDepth 100000 in
set_option maxHeartbeats 4000000 in
theorem open_mailT {H : Type} {enc : TypeId × Value → H} {W : World} {spare : Nat → Bool} {held : Bool} {fuel : Nat} {cs : List Value} {y : DataW H × List MemPlace}
    (hy : DataW.trod enc Tryz.prog W 0 spare held fuel 50 cs = some y) (hsz : ∀ n ∈ y.1.weights Tryz.prog 50, n ≤ reachBytes) : ∃ m x, cs = mlC m x ∧ MlR W m x ∧ mlB m := by
  obtain ⟨xs, n', _, hd, hl, hxl, hf⟩ := DataW.trod_struct Tryz.underlying50 hy
  rw [cellsMl] at hl
  have iK : Tryz.prog.cellsOf 36 = 1 := by kernel_rfl
  have iC : Tryz.prog.cellsOf 42 = 15 := by kernel_rfl
  have iD : Tryz.prog.cellsOf 44 = 3 := by kernel_rfl
  have iF : Tryz.prog.cellsOf 46 = 4 := by kernel_rfl
  have iO : Tryz.prog.cellsOf 48 = 5 := by kernel_rfl
  have iT : Tryz.prog.cellsOf 30 = 1 := by kernel_rfl
  have iN : Tryz.prog.cellsOf 28 = 1 := by kernel_rfl
  match cs, hl with
  | [v0, v1, v2, v3, v4, v5, v6, v7, v8, v9, v10, v11, v12, v13, v14, v15, v16, v17, v18, v19, v20, v21, v22, v23, v24, v25, v26, v27, v28, v29], _ =>
    match xs, hxl with
    | [x0, x1, x2, x3, x4, x5, x6], _ =>
      have g0 := hf 0 _ rfl
      have g1 := hf 1 _ rfl
      have g2 := hf 2 _ rfl
      have g3 := hf 3 _ rfl
      have g4 := hf 4 _ rfl
      have g5 := hf 5 _ rfl
      have g6 := hf 6 _ rfl
      simp [cellsI, iK, iC, iD, iF, iO] at g0 g1 g2 g3 g4 g5 g6
      obtain ⟨q0, e0, -, w0⟩ := DataW.trod_int Tryz.underlying36 g0
      obtain ⟨q16, e16, -, w16⟩ := DataW.trod_int Tryz.underlying3 g2
      obtain ⟨q17, e17, -, w17⟩ := DataW.trod_int Tryz.underlying3 g3
      simp at e0 e16 e17
      subst e0 e16 e17
      obtain ⟨cm, cx, ec, hc⟩ := open_cmT g1 (fun n hn => hsz n (by rw [hd]; simp [DataW.weights, DataW.weightsEach, Tryz.underlying50, hn]))
      obtain ⟨ys, _, _, _, _, hyl, hg⟩ := DataW.trod_struct Tryz.underlying44 g4
      obtain ⟨zs, _, _, hdF, _, hzl, hh⟩ := DataW.trod_struct Tryz.underlying46 g5
      obtain ⟨ts, _, _, _, _, htl, hk⟩ := DataW.trod_struct Tryz.underlying48 g6
      match ys, hyl with
      | [y0, y1, y2], _ =>
        match zs, hzl with
        | [z0, z1, z2, z3], _ =>
          match ts, htl with
          | [t0, t1, t2, t3, t4], _ =>
            have a0 := hg 0 _ rfl
            have a1 := hg 1 _ rfl
            have a2 := hg 2 _ rfl
            have b0 := hh 0 _ rfl
            have b1 := hh 1 _ rfl
            have b2 := hh 2 _ rfl
            have b3 := hh 3 _ rfl
            have d0 := hk 0 _ rfl
            have d1 := hk 1 _ rfl
            have d2 := hk 2 _ rfl
            have d3 := hk 3 _ rfl
            have d4 := hk 4 _ rfl
            simp [cellsI, iT] at a0 a1 a2 b0 b1 b2 b3 d0 d1 d2 d3 d4
            obtain ⟨q18, e18, -, w18⟩ := DataW.trod_int Tryz.underlying3 a0
            obtain ⟨q19, e19, -, w19⟩ := DataW.trod_int Tryz.underlying3 a1
            obtain ⟨q20, e20, -, w20⟩ := DataW.trod_int Tryz.underlying3 a2
            obtain ⟨q21, e21, -, w21⟩ := DataW.trod_int Tryz.underlying3 b0
            obtain ⟨q22, e22, -, w22⟩ := DataW.trod_int Tryz.underlying3 b1
            obtain ⟨q24, e24, -, w24⟩ := DataW.trod_int Tryz.underlying3 b3
            obtain ⟨q25, e25, -, w25⟩ := DataW.trod_int Tryz.underlying3 d0
            obtain ⟨q26, e26, -, w26⟩ := DataW.trod_int Tryz.underlying3 d1
            obtain ⟨q27, e27, -, w27⟩ := DataW.trod_int Tryz.underlying3 d2
            obtain ⟨q28, e28, -, w28⟩ := DataW.trod_int Tryz.underlying3 d3
            obtain ⟨q29, e29, -, w29⟩ := DataW.trod_int Tryz.underlying3 d4
            obtain ⟨p0, n0, hz0, -, hN⟩ := trod_struct1 Tryz.underlying30 b2
            simp [iN] at hN
            simp at e18 e19 e20 e21 e22 e24 e25 e26 e27 e28 e29
            subst e18 e19 e20 e21 e22 e24 e25 e26 e27 e28 e29
            obtain ⟨T, hT⟩ := open_nodesT hN (fun n hn => hsz n (by rw [hd]; simp [DataW.weights, DataW.weightsEach, Tryz.underlying50]; simp [hdF, DataW.weights, DataW.weightsEach, Tryz.underlying46]; simp [hz0, DataW.weights, DataW.weightsEach, Tryz.underlying30, hn]))
            refine ⟨⟨q0, cm, q16, q17, q18, q19, q20, q21, q22, T, q24, q25, q26, q27, q28, q29⟩, ⟨cx, [], v23, []⟩, ?_, ⟨hc, hT⟩, ?_⟩
            · simp only [cmC, List.cons.injEq, and_true] at ec
              obtain ⟨c1, c2, c3, c4, c5, c6, c7, c8, c9, c10, c11, c12, c13, c14, c15⟩ := ec
              subst c1 c2 c3 c4 c5 c6 c7 c8 c9 c10 c11 c12 c13 c14 c15
              rfl
            · intro z hz
              simp at hz
              rcases hz with rfl | rfl | rfl | rfl | rfl | rfl | rfl | rfl
              · exact bounds64 w18
              · exact bounds64 w19
              · exact bounds64 w20
              · exact bounds64 w25
              · exact bounds64 w26
              · exact bounds64 w27
              · exact bounds64 w28
              · exact bounds64 w29
structure MlsO (W : World) (v : Value) (l : List Ml) (xs : List Mx) : Prop where
  len : l.length ≤ 140737488355328
  cap : capOk v
  xl : xs.length = l.length
  form : ∃ ad cap, v = .slice ad l.length cap ∧ (l = [] ∨ ∃ g o, ad = some ⟨g, o, none⟩ ∧ ∀ j u, (cellK kMl l xs)[j]? = some u → W.cell? ⟨g, o + j, none⟩ = some u)
  el : ∀ (i : Nat) (m : Ml) (y : Mx), l[i]? = some m → xs[i]? = some y → MlR W m y ∧ mlB m
theorem add_lit (b o j : Nat) : (⟨b, o, none⟩ : Addr).add j = ⟨b, o + j, none⟩ := by unfold Addr.add; by_cases hz : j = 0 <;> simp [hz]
set_option maxRecDepth 100000 in
set_option maxHeartbeats 4000000 in
theorem open_mailsT {H : Type} {enc : TypeId × Value → H} {W : World} {spare : Nat → Bool} {held : Bool} {fuel : Nat} {x : Value} {y : DataW H × List MemPlace}
    (hy : DataW.trod enc Tryz.prog W 0 spare held fuel 67 [x] = some y) (hsz : ∀ n ∈ y.1.weights Tryz.prog 67, n ≤ reachBytes) : ∃ l xs, MlsO W x l xs := by
  rcases open_slice Tryz.underlying67 hy with ⟨hcs, _⟩ | ⟨a, len, cap, m, n, D, Pl, hcs, _, hl, hm, hmm, hx, hel⟩
  · simp at hcs
    subst hcs
    exact ⟨[], [], by simp, fun a n c h => by cases h; omega, rfl, ⟨none, 0, rfl, Or.inl rfl⟩, by simp⟩
  · simp at hcs
    subst hcs
    have hlm : len ≤ m := by rw [hmm]; split <;> omega
    have hr := reachBytes_lt
    have hlen : len ≤ 140737488355328 := by
      have := hsz ((len + (m - len)) * 336) (by rw [hx]; simp [DataW.weights, Tryz.underlying67, bytesMl])
      simp at hr; omega
    have each : ∀ i, i < len → ∃ q : Ml × Mx, MlR W q.1 q.2 ∧ mlB q.1 ∧ ∀ j u, (mlC q.1 q.2)[j]? = some u → W.cell? (a.add (i * 30 + j)) = some u := by
      intro i hi
      obtain ⟨cs, h1, h2⟩ := hel i (by omega)
      rw [cellsMl] at h1
      obtain ⟨_, hlen3, hcell⟩ := World.cells?_some h1
      obtain ⟨q, z, e1, e2, e3⟩ := open_mailT h2 (fun n hn => hsz n (by
        rw [hx]
        simp only [DataW.weights, Tryz.underlying67]
        exact List.mem_cons_of_mem _ (List.mem_append_left _ (mem_weightsAll (d := D i) (List.mem_map.2 ⟨i, List.mem_range.2 hi, rfl⟩) hn))))
      subst e1
      refine ⟨(q, z), e2, e3, fun j u hu => ?_⟩
      have hj : j < 30 := (List.getElem?_eq_some_iff.1 hu).1
      have := hcell j hj
      rw [add_add, hu] at this
      exact this
    obtain ⟨f, hfx⟩ := @choose_lt (Ml × Mx) ⟨(⟨0, ⟨0, 0, 0, 0, 0, false, [], [], [], [], 0, 0, [], 0, 0⟩, 0, 0, 0, 0, 0, 0, 0, [], 0, 0, 0, 0, 0, 0⟩, ⟨⟨undef, undef, undef, undef, undef⟩, [], undef, []⟩)⟩ len _ each
    refine ⟨(List.range len).map fun i => (f i).1, (List.range len).map fun i => (f i).2, by simpa using hlen, fun a' n' c' h => by cases h; exact hl, by simp, ⟨some a, cap, by simp, ?_⟩, fun i mm yy hi hy2 => ?_⟩
    · rcases Nat.eq_zero_or_pos len with h0 | h0
      · subst h0; exact Or.inl rfl
      · obtain ⟨b, off, spot⟩ := a
        have k0 := (hfx 0 h0).2.2 0 _ rfl
        have hspot : spot = none := by simpa [Addr.add] using World.cell?_spot k0
        subst hspot
        refine Or.inr ⟨b, off, rfl, fun j u hu => ?_⟩
        obtain ⟨i, t, mm, yy, rfl, ht, h1, h2, h3⟩ := cellK_inv (by simp) hu
        have hi : i < len := by
          rcases Nat.lt_or_ge i len with q | q
          · exact q
          · simp [q] at h1
        simp [hi] at h1 h2
        subst h1 h2
        have := (hfx i hi).2.2 t u h3
        rw [add_lit] at this
        exact this
    · have hi' : i < len := by
        rcases Nat.lt_or_ge i len with q | q
        · exact q
        · simp [q] at hi
      simp [hi'] at hi hy2
      subst hi hy2
      exact ⟨(hfx i hi').1, (hfx i hi').2.1⟩
set_option maxRecDepth 100000 in
set_option maxHeartbeats 4000000 in
theorem open_boxesT {H : Type} {enc : TypeId × Value → H} {W : World} {spare : Nat → Bool} {held : Bool} {fuel : Nat} {x : Value} {y : DataW H × List MemPlace}
    (hy : DataW.trod enc Tryz.prog W 0 spare held fuel 27 [x] = some y) (hsz : ∀ n ∈ y.1.weights Tryz.prog 27, n ≤ reachBytes) : ∃ l xs, Bxs W x l xs ∧ CapX xs := by
  have iM : Tryz.prog.cellsOf 67 = 1 := by kernel_rfl
  have iB : Tryz.prog.cellsOf 4 = 1 := by kernel_rfl
  rcases open_slice Tryz.underlying27 hy with ⟨hcs, _⟩ | ⟨a, len, cap, m, n, D, Pl, hcs, _, hl, hm, hmm, hx, hel⟩
  · simp at hcs
    subst hcs
    exact ⟨[], [], ⟨by simp, rfl, by simp, ⟨none, 0, rfl, Or.inl rfl⟩⟩, fun x hx => by cases hx⟩
  · simp at hcs
    subst hcs
    have hlm : len ≤ m := by rw [hmm]; split <;> omega
    have hr := reachBytes_lt
    have hlen : len ≤ 140737488355328 := by
      have := hsz ((len + (m - len)) * 48) (by rw [hx]; simp [DataW.weights, Tryz.underlying27, bytesBx])
      simp at hr; omega
    have each : ∀ i, i < len → ∃ q : Bx × Value × List Mx, MlsO W q.2.1 q.1.ml q.2.2 ∧ ∀ j u, (bxC q.1 q.2.1)[j]? = some u → W.cell? (a.add (i * 4 + j)) = some u := by
      intro i hi
      obtain ⟨cs, h1, h2⟩ := hel i (by omega)
      rw [cellsBx] at h1
      obtain ⟨_, hlen3, hcell⟩ := World.cells?_some h1
      obtain ⟨xs, n', _, hd, _, hxl, hf⟩ := DataW.trod_struct Tryz.underlying69 h2
      match cs, hlen3 with
      | [v0, v1, v2, v3], _ =>
        match xs, hxl with
        | [x0, x1, x2, x3], _ =>
          have g0 := hf 0 _ rfl
          have g1 := hf 1 _ rfl
          have g2 := hf 2 _ rfl
          have g3 := hf 3 _ rfl
          simp [cellsI, iM, iB] at g0 g1 g2 g3
          obtain ⟨q0, e0, -, w0⟩ := DataW.trod_int Tryz.underlying3 g0
          obtain ⟨q1, e1, -⟩ := DataW.trod_bool Tryz.underlying4 g1
          obtain ⟨q3, e3, -, w3⟩ := DataW.trod_int Tryz.underlying3 g3
          simp at e0 e1 e3
          subst e0 e1 e3
          obtain ⟨l, zs, hl⟩ := open_mailsT g2 (fun n hn => hsz n (by
            rw [hx]
            simp only [DataW.weights, Tryz.underlying27]
            refine List.mem_cons_of_mem _ (List.mem_append_left _ (mem_weightsAll (d := D i) (List.mem_map.2 ⟨i, List.mem_range.2 hi, rfl⟩) ?_))
            have hD : D i = .agg [x0.1, x1.1, x2.1, x3.1] := by simpa using congrArg Prod.fst hd
            rw [hD]
            simp [DataW.weights, DataW.weightsEach, Tryz.underlying69, hn]))
          refine ⟨(⟨q0, q1, l, q3⟩, v2, zs), hl, fun j u hu => ?_⟩
          have hj : j < 4 := (List.getElem?_eq_some_iff.1 hu).1
          have := hcell j hj
          rw [add_add] at this
          rw [this]
          exact hu
    obtain ⟨f, hfx⟩ := @choose_lt (Bx × Value × List Mx) ⟨(⟨0, false, [], 0⟩, undef, [])⟩ len _ each
    refine ⟨(List.range len).map fun i => (f i).1, (List.range len).map fun i => (f i).2, ⟨by simpa using hlen, by simp, fun i bb yy hi hy2 => ?_, ⟨some a, cap, by simp, ?_⟩⟩, fun z hz => ?_⟩
    · have hi' : i < len := by
        rcases Nat.lt_or_ge i len with q | q
        · exact q
        · simp [q] at hi
      simp [hi'] at hi hy2
      subst hi hy2
      have := (hfx i hi').1
      exact ⟨this.len, this.xl, this.form, this.el⟩
    · rcases Nat.eq_zero_or_pos len with h0 | h0
      · subst h0; exact Or.inl rfl
      · obtain ⟨b, off, spot⟩ := a
        have k0 := (hfx 0 h0).2 0 _ rfl
        have hspot : spot = none := by simpa [Addr.add] using World.cell?_spot k0
        subst hspot
        refine Or.inr ⟨b, off, rfl, fun j u hu => ?_⟩
        obtain ⟨i, t, mm, yy, rfl, ht, h1, h2, h3⟩ := cellK_inv (by simp) hu
        have hi : i < len := by
          rcases Nat.lt_or_ge i len with q | q
          · exact q
          · simp [q] at h1
        simp [hi] at h1 h2
        subst h1 h2
        have := (hfx i hi).2 t u h3
        rw [add_lit] at this
        exact this
    · obtain ⟨i, hi, rfl⟩ := List.mem_map.1 hz
      exact (hfx i (List.mem_range.1 hi)).1.cap
end Go.Proofs.YtgmlkofogeoocaaGreatDoor
