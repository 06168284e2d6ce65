/- Texts joined: QuFn QuFm. -/
import Derived.Test.YtgiicendejgklaaZ04
import Derived.Test.YtgiicendejgklaaZ29
/- A mail, opened off what a caller hands in (out of PoFrame). mkQuFm.py writes it. -/
namespace Go.Proofs.Ytgiicendejgklaa
open Go.ChangeShapes Go.WideShapes Go.ChangeAt Go.RowKit Go.Joins Go.Deep Go.Maps
def mlB (m : Ml) : Prop := ∀ z ∈ [m.c0, m.c1, m.c2, m.n0, m.n1, m.n2, m.n3, m.n4], -9223372036854775808 ≤ z ∧ z ≤ 9223372036854775807
theorem cellsMl : Try.prog.cellsOf 41 = 30 := by kernel_rfl
set_option maxRecDepth 100000 in
set_option maxHeartbeats 4000000 in
theorem open_mailT {H : Type} {enc : TypeId × Value → H} {W : World} {spare : Nat → Bool} {held : Bool} {fuel : Nat} {cs : List Value} {y : DataW H × List MemPlace}
    (hy : DataW.trod enc Try.prog W 0 spare held fuel 41 cs = some y) (hsz : ∀ n ∈ y.1.weights Try.prog 41, n ≤ reachBytes) : ∃ m x, cs = mlC m x ∧ MlR W m x ∧ mlB m := by
  obtain ⟨xs, n', _, hd, hl, hxl, hf⟩ := DataW.trod_struct Try.underlying41 hy
  rw [cellsMl] at hl
  have iK : Try.prog.cellsOf 33 = 1 := by kernel_rfl
  have iC : Try.prog.cellsOf 32 = 15 := by kernel_rfl
  have iD : Try.prog.cellsOf 35 = 3 := by kernel_rfl
  have iF : Try.prog.cellsOf 37 = 4 := by kernel_rfl
  have iO : Try.prog.cellsOf 39 = 5 := by kernel_rfl
  have iT : Try.prog.cellsOf 30 = 1 := by kernel_rfl
  have iN : Try.prog.cellsOf 28 = 1 := by kernel_rfl
  match cs, hl with
  | [v0, v1, v2, v3, v4, v5, v6, v7, v8, v9, v10, v11, v12, v13, v14, v15, v16, v17, v18, v19, v20, v21, v22, v23, v24, v25, v26, v27, v28, v29], _ =>
    match xs, hxl with
    | [x0, x1, x2, x3, x4, x5, x6], _ =>
      have g0 := hf 0 _ rfl
      have g1 := hf 1 _ rfl
      have g2 := hf 2 _ rfl
      have g3 := hf 3 _ rfl
      have g4 := hf 4 _ rfl
      have g5 := hf 5 _ rfl
      have g6 := hf 6 _ rfl
      simp [cellsI, iK, iC, iD, iF, iO] at g0 g1 g2 g3 g4 g5 g6
      obtain ⟨q0, e0, -, w0⟩ := DataW.trod_int Try.underlying33 g0
      obtain ⟨q16, e16, -, w16⟩ := DataW.trod_int Try.underlying3 g2
      obtain ⟨q17, e17, -, w17⟩ := DataW.trod_int Try.underlying3 g3
      simp at e0 e16 e17
      subst e0 e16 e17
      obtain ⟨cm, cx, ec, hc⟩ := open_cmT g1 (fun n hn => hsz n (by rw [hd]; simp [DataW.weights, DataW.weightsEach, Try.underlying41, hn]))
      obtain ⟨ys, _, _, _, _, hyl, hg⟩ := DataW.trod_struct Try.underlying35 g4
      obtain ⟨zs, _, _, hdF, _, hzl, hh⟩ := DataW.trod_struct Try.underlying37 g5
      obtain ⟨ts, _, _, _, _, htl, hk⟩ := DataW.trod_struct Try.underlying39 g6
      match ys, hyl with
      | [y0, y1, y2], _ =>
        match zs, hzl with
        | [z0, z1, z2, z3], _ =>
          match ts, htl with
          | [t0, t1, t2, t3, t4], _ =>
            have a0 := hg 0 _ rfl
            have a1 := hg 1 _ rfl
            have a2 := hg 2 _ rfl
            have b0 := hh 0 _ rfl
            have b1 := hh 1 _ rfl
            have b2 := hh 2 _ rfl
            have b3 := hh 3 _ rfl
            have d0 := hk 0 _ rfl
            have d1 := hk 1 _ rfl
            have d2 := hk 2 _ rfl
            have d3 := hk 3 _ rfl
            have d4 := hk 4 _ rfl
            simp [cellsI, iT] at a0 a1 a2 b0 b1 b2 b3 d0 d1 d2 d3 d4
            obtain ⟨q18, e18, -, w18⟩ := DataW.trod_int Try.underlying3 a0
            obtain ⟨q19, e19, -, w19⟩ := DataW.trod_int Try.underlying3 a1
            obtain ⟨q20, e20, -, w20⟩ := DataW.trod_int Try.underlying3 a2
            obtain ⟨q21, e21, -, w21⟩ := DataW.trod_int Try.underlying3 b0
            obtain ⟨q22, e22, -, w22⟩ := DataW.trod_int Try.underlying3 b1
            obtain ⟨q24, e24, -, w24⟩ := DataW.trod_int Try.underlying3 b3
            obtain ⟨q25, e25, -, w25⟩ := DataW.trod_int Try.underlying3 d0
            obtain ⟨q26, e26, -, w26⟩ := DataW.trod_int Try.underlying3 d1
            obtain ⟨q27, e27, -, w27⟩ := DataW.trod_int Try.underlying3 d2
            obtain ⟨q28, e28, -, w28⟩ := DataW.trod_int Try.underlying3 d3
            obtain ⟨q29, e29, -, w29⟩ := DataW.trod_int Try.underlying3 d4
            obtain ⟨p0, n0, hz0, -, hN⟩ := trod_struct1 Try.underlying30 b2
            simp [iN] at hN
            simp at e18 e19 e20 e21 e22 e24 e25 e26 e27 e28 e29
            subst e18 e19 e20 e21 e22 e24 e25 e26 e27 e28 e29
            obtain ⟨T, hT⟩ := open_nodesT hN (fun n hn => hsz n (by rw [hd]; simp [DataW.weights, DataW.weightsEach, Try.underlying41]; simp [hdF, DataW.weights, DataW.weightsEach, Try.underlying37]; simp [hz0, DataW.weights, DataW.weightsEach, Try.underlying30, hn]))
            refine ⟨⟨q0, cm, q16, q17, q18, q19, q20, q21, q22, T, q24, q25, q26, q27, q28, q29⟩, ⟨cx, [], v23, []⟩, ?_, ⟨hc, hT⟩, ?_⟩
            · simp only [cmC, List.cons.injEq, and_true] at ec
              obtain ⟨c1, c2, c3, c4, c5, c6, c7, c8, c9, c10, c11, c12, c13, c14, c15⟩ := ec
              subst c1 c2 c3 c4 c5 c6 c7 c8 c9 c10 c11 c12 c13 c14 c15
              rfl
            · intro z hz
              simp at hz
              rcases hz with rfl | rfl | rfl | rfl | rfl | rfl | rfl | rfl
              · exact bounds64 w18
              · exact bounds64 w19
              · exact bounds64 w20
              · exact bounds64 w25
              · exact bounds64 w26
              · exact bounds64 w27
              · exact bounds64 w28
              · exact bounds64 w29
theorem add_lit (b o j : Nat) : (⟨b, o, none⟩ : Addr).add j = ⟨b, o + j, none⟩ := by unfold Addr.add; by_cases hz : j = 0 <;> simp [hz]
end Go.Proofs.Ytgiicendejgklaa

/- Feeds, earlies, links, packets, opened off what a caller hands in. mkQuFm.py writes it. -/
namespace Go.Proofs.Ytgiicendejgklaa
open Go.ChangeShapes Go.WideShapes Go.ChangeAt Go.RowKit Go.Joins Go.Deep Go.Maps
theorem open_rowsQ {α ξ : Type} (K : EK α ξ) {sl : TypeId} {B : Nat} (hu : Try.prog.underlying sl = some (.slice K.t)) (hc : Try.prog.cellsOf K.t = K.c) (hb : Try.prog.bytesOf K.t = B) (hB : 1 ≤ B) (z : α × ξ) {H : Type} {enc : TypeId × Value → H} {W : World} {spare : Nat → Bool} {held : Bool} {fuel : Nat} {x : Value} {y : DataW H × List MemPlace}
    (op : ∀ {fuel : Nat} {cs : List Value} {y : DataW H × List MemPlace}, DataW.trod enc Try.prog W 0 spare held fuel K.t cs = some y → (∀ n ∈ y.1.weights Try.prog K.t, n ≤ reachBytes) → ∃ a x, cs = K.C a x ∧ K.R W a x)
    (hy : DataW.trod enc Try.prog W 0 spare held fuel sl [x] = some y) (hsz : ∀ n ∈ y.1.weights Try.prog sl, n ≤ reachBytes) : ∃ l xs, RdL K W x l xs ∧ l.length ≤ 140737488355328 := by
  rcases open_slice hu hy with ⟨hcs, _⟩ | ⟨a, len, cap, m, n, D, Pl, hcs, _, hl, hm, hmm, hx, hel⟩
  · simp at hcs
    subst hcs
    exact ⟨[], [], rdl_nil K W, by simp⟩
  · simp at hcs
    subst hcs
    have hlm : len ≤ m := by rw [hmm]; split <;> omega
    have hr := reachBytes_lt
    have hlen : len ≤ 140737488355328 := by
      have := hsz ((len + (m - len)) * B) (by rw [hx]; simp [DataW.weights, hu, hb])
      simp at hr
      have h1 : len ≤ (len + (m - len)) * B := Nat.le_trans (Nat.le_add_right _ _) (Nat.le_mul_of_pos_right _ hB)
      omega
    have each : ∀ i, i < len → ∃ q : α × ξ, K.R W q.1 q.2 ∧ ∀ j u, (K.C q.1 q.2)[j]? = some u → W.cell? (a.add (i * K.c + j)) = some u := by
      intro i hi
      obtain ⟨cs, h1, h2⟩ := hel i (by omega)
      rw [hc] at h1
      obtain ⟨_, hlen3, hcell⟩ := World.cells?_some h1
      obtain ⟨q, z, e1, e2⟩ := op h2 (fun n hn => hsz n (by
        rw [hx]
        simp only [DataW.weights, hu]
        exact List.mem_cons_of_mem _ (List.mem_append_left _ (mem_weightsAll (d := D i) (List.mem_map.2 ⟨i, List.mem_range.2 hi, rfl⟩) hn))))
      subst e1
      refine ⟨(q, z), e2, fun j u hu => ?_⟩
      have hj : j < K.c := by have := (List.getElem?_eq_some_iff.1 hu).1; rw [K.Cl] at this; exact this
      have := hcell j hj
      rw [add_add, hu] at this
      exact this
    obtain ⟨f, hfx⟩ := @choose_lt (α × ξ) ⟨z⟩ len _ each
    refine ⟨(List.range len).map fun i => (f i).1, (List.range len).map fun i => (f i).2, ⟨by simp, fun i mm yy hi hy2 => ?_, some a, cap, by simp, ?_⟩, by simpa using hlen⟩
    · have hi' : i < len := by
        rcases Nat.lt_or_ge i len with q | q
        · exact q
        · simp [q] at hi
      simp [hi'] at hi hy2
      subst hi hy2
      exact (hfx i hi').1
    · rcases Nat.eq_zero_or_pos len with h0 | h0
      · subst h0; exact Or.inl rfl
      · obtain ⟨b, off, spot⟩ := a
        have hC0 : 0 < (K.C (f 0).1 (f 0).2).length := by rw [K.Cl]; exact K.pos
        have k0 := (hfx 0 h0).2 0 _ (List.getElem?_eq_getElem hC0)
        have hspot : spot = none := by simpa [Addr.add] using World.cell?_spot k0
        subst hspot
        refine Or.inr ⟨b, off, rfl, fun j u hu => ?_⟩
        obtain ⟨i, t, mm, yy, rfl, ht, h1, h2, h3⟩ := cellK_inv (by simp) hu
        have hi : i < len := by
          rcases Nat.lt_or_ge i len with q | q
          · exact q
          · simp [q] at h1
        simp [hi] at h1 h2
        subst h1 h2
        have := (hfx i hi).2 t u h3
        rw [add_lit] at this
        exact this
theorem cellsFd : Try.prog.cellsOf 43 = 53 := by kernel_rfl
theorem cellsEr : Try.prog.cellsOf 87 = 54 := by kernel_rfl
theorem cellsLk : Try.prog.cellsOf 73 = 5 := by kernel_rfl
theorem bytesFd : Try.prog.bytesOf 43 = 600 := by kernel_rfl
theorem bytesEr : Try.prog.bytesOf 87 = 608 := by kernel_rfl
theorem bytesLk : Try.prog.bytesOf 73 = 72 := by kernel_rfl
theorem split_fd {cs : List Value} (h : cs.length = 53) : cs = List.take 1 cs ++ (List.take 1 cs.tail ++ (List.take 1 (List.drop 2 cs) ++ (List.take 15 (List.drop 3 cs) ++ (List.take 30 (List.drop 18 cs) ++ List.take 5 (List.drop 48 cs))))) := by
  have s : ∀ (a b c : Nat), b + a = c → List.take a (List.drop b cs) ++ List.drop c cs = List.drop b cs := fun a b c hc => by
    rw [← hc, ← List.drop_drop]; exact List.take_append_drop a (List.drop b cs)
  rw [List.take_of_length_le (show (List.drop 48 cs).length ≤ 5 by simp [h]), s 30 18 48 rfl, s 15 3 18 rfl, s 1 2 3 rfl, ← List.drop_one, s 1 1 2 rfl]
  exact (List.take_append_drop 1 cs).symm
set_option maxRecDepth 100000 in
set_option maxHeartbeats 2000000 in
theorem open_fdT {H : Type} {enc : TypeId × Value → H} {W : World} {spare : Nat → Bool} {held : Bool} {fuel : Nat} {cs : List Value} {y : DataW H × List MemPlace}
    (hy : DataW.trod enc Try.prog W 0 spare held fuel 43 cs = some y) (hsz : ∀ n ∈ y.1.weights Try.prog 43, n ≤ reachBytes) : ∃ f x, cs = fdC f x ∧ FdR W f x ∧ fdB f := by
  obtain ⟨xs, n', _, hd, hl, hxl, hf⟩ := DataW.trod_struct Try.underlying43 hy
  rw [cellsFd] at hl
  have iK : Try.prog.cellsOf 23 = 1 := by kernel_rfl
  have iC : Try.prog.cellsOf 32 = 15 := by kernel_rfl
  have iM : Try.prog.cellsOf 41 = 30 := by kernel_rfl
  have iO : Try.prog.cellsOf 39 = 5 := by kernel_rfl
  match xs, hxl with
  | [x0, x1, x2, x3, x4, x5], _ =>
    have g0 := hf 0 _ rfl
    have g1 := hf 1 _ rfl
    have g2 := hf 2 _ rfl
    have g3 := hf 3 _ rfl
    have g4 := hf 4 _ rfl
    have g5 := hf 5 _ rfl
    simp [cellsI, iK, iC, iM, iO] at g0 g1 g2 g3 g4 g5
    have hsp := split_fd hl
    obtain ⟨ns, hns⟩ : ∃ z, z = List.take 5 (List.drop 48 cs) := ⟨_, rfl⟩
    have hnl : ns.length = 5 := by rw [hns]; simp [hl]
    rw [← hns] at g5 hsp
    obtain ⟨q0, e0, -, w0⟩ := DataW.trod_int Try.underlying23 g0
    obtain ⟨q1, e1, -, w1⟩ := DataW.trod_int Try.underlying3 g1
    obtain ⟨q2, e2, -, w2⟩ := DataW.trod_int Try.underlying3 g2
    obtain ⟨cm, cx, ec, hc⟩ := open_cmT g3 (fun n hn => hsz n (by rw [hd]; simp [DataW.weights, DataW.weightsEach, Try.underlying43, hn]))
    obtain ⟨m, mx, em, hm, hb⟩ := open_mailT g4 (fun n hn => hsz n (by rw [hd]; simp [DataW.weights, DataW.weightsEach, Try.underlying43, hn]))
    obtain ⟨ts, _, _, _, _, htl, hk⟩ := DataW.trod_struct Try.underlying39 g5
    match ns, hnl with
    | [u0, u1, u2, u3, u4], _ =>
      match ts, htl with
      | [t0, t1, t2, t3, t4], _ =>
        have d0 := hk 0 _ rfl
        have d1 := hk 1 _ rfl
        have d2 := hk 2 _ rfl
        have d3 := hk 3 _ rfl
        have d4 := hk 4 _ rfl
        simp [cellsI] at d0 d1 d2 d3 d4
        obtain ⟨r0, f0, -, z0⟩ := DataW.trod_int Try.underlying3 d0
        obtain ⟨r1, f1, -, z1⟩ := DataW.trod_int Try.underlying3 d1
        obtain ⟨r2, f2, -, z2⟩ := DataW.trod_int Try.underlying3 d2
        obtain ⟨r3, f3, -, z3⟩ := DataW.trod_int Try.underlying3 d3
        obtain ⟨r4, f4, -, z4⟩ := DataW.trod_int Try.underlying3 d4
        simp at f0 f1 f2 f3 f4
        subst f0 f1 f2 f3 f4
        refine ⟨⟨q0, q1, q2, cm, m, r0, r1, r2, r3, r4⟩, ⟨cx, [], mx⟩, ?_, ⟨hc, hm⟩, hb, ?_⟩
        · rw [hsp, e0, e1, e2, ec, em]
          rfl
        · intro z hz
          simp at hz
          rcases hz with rfl | rfl | rfl | rfl | rfl
          · exact bounds64 z0
          · exact bounds64 z1
          · exact bounds64 z2
          · exact bounds64 z3
          · exact bounds64 z4
def fdz : Fd × Fx := (fdK 0 0, fx00)
set_option maxRecDepth 100000 in
set_option maxHeartbeats 1000000 in
theorem open_fdsT {H : Type} {enc : TypeId × Value → H} {W : World} {spare : Nat → Bool} {held : Bool} {fuel : Nat} {x : Value} {y : DataW H × List MemPlace}
    (hy : DataW.trod enc Try.prog W 0 spare held fuel 52 [x] = some y) (hsz : ∀ n ∈ y.1.weights Try.prog 52, n ≤ reachBytes) : ∃ l xs, RdL kFw W x l xs ∧ l.length ≤ 140737488355328 :=
  open_rowsQ kFw Try.underlying52 cellsFd bytesFd (by decide) fdz (fun h1 h2 => by obtain ⟨f, x, e, h3, h4⟩ := open_fdT h1 h2; exact ⟨f, x, e, h3, h4⟩) hy hsz
set_option maxRecDepth 100000 in
set_option maxHeartbeats 1000000 in
theorem open_erT {H : Type} {enc : TypeId × Value → H} {W : World} {spare : Nat → Bool} {held : Bool} {fuel : Nat} {cs : List Value} {y : DataW H × List MemPlace}
    (hy : DataW.trod enc Try.prog W 0 spare held fuel 87 cs = some y) (hsz : ∀ n ∈ y.1.weights Try.prog 87, n ≤ reachBytes) : ∃ f x, cs = erC f x ∧ FdR W f.fd x ∧ fdB f.fd := by
  obtain ⟨xs, n', _, hd, hl, hxl, hf⟩ := DataW.trod_struct Try.underlying87 hy
  rw [cellsEr] at hl
  match cs, hl with
  | v0 :: r, hl =>
    match xs, hxl with
    | [x0, x1], _ =>
      have hr : r.length = 53 := by simpa using hl
      have g0 := hf 0 _ rfl
      have g1 := hf 1 _ rfl
      simp [cellsI, cellsFd] at g0 g1
      rw [List.take_of_length_le (by omega)] at g1
      obtain ⟨q0, e0, -, w0⟩ := DataW.trod_int Try.underlying3 g0
      simp at e0
      subst e0
      obtain ⟨f, x, e1, h1, h2⟩ := open_fdT g1 (fun n hn => hsz n (by rw [hd]; simp [DataW.weights, DataW.weightsEach, Try.underlying87, hn]))
      subst e1
      exact ⟨⟨q0, f⟩, x, rfl, h1, h2⟩
set_option maxRecDepth 100000 in
set_option maxHeartbeats 1000000 in
theorem open_ersT {H : Type} {enc : TypeId × Value → H} {W : World} {spare : Nat → Bool} {held : Bool} {fuel : Nat} {x : Value} {y : DataW H × List MemPlace}
    (hy : DataW.trod enc Try.prog W 0 spare held fuel 71 [x] = some y) (hsz : ∀ n ∈ y.1.weights Try.prog 71, n ≤ reachBytes) : ∃ l xs, RdL kEw W x l xs ∧ l.length ≤ 140737488355328 :=
  open_rowsQ kEw Try.underlying71 cellsEr bytesEr (by decide) (⟨0, fdK 0 0⟩, fx00) (fun h1 h2 => by obtain ⟨f, x, e, h3, h4⟩ := open_erT h1 h2; exact ⟨f, x, e, h3, h4⟩) hy hsz
set_option maxRecDepth 100000 in
set_option maxHeartbeats 1000000 in
theorem open_lkT {H : Type} {enc : TypeId × Value → H} {W : World} {spare : Nat → Bool} {held : Bool} {fuel : Nat} {cs : List Value} {y : DataW H × List MemPlace}
    (hy : DataW.trod enc Try.prog W 0 spare held fuel 73 cs = some y) (hsz : ∀ n ∈ y.1.weights Try.prog 73, n ≤ reachBytes) : ∃ l x, cs = lkC l x.qv x.ev ∧ LkW W l x := by
  obtain ⟨xs, n', _, hd, hl, hxl, hf⟩ := DataW.trod_struct Try.underlying73 hy
  rw [cellsLk] at hl
  have iF : Try.prog.cellsOf 52 = 1 := by kernel_rfl
  have iE : Try.prog.cellsOf 71 = 1 := by kernel_rfl
  match cs, hl with
  | [v0, v1, v2, v3, v4], _ =>
    match xs, hxl with
    | [x0, x1, x2, x3, x4], _ =>
      have g0 := hf 0 _ rfl
      have g1 := hf 1 _ rfl
      have g2 := hf 2 _ rfl
      have g3 := hf 3 _ rfl
      have g4 := hf 4 _ rfl
      simp [cellsI, iF, iE] at g0 g1 g2 g3 g4
      obtain ⟨q0, e0, -, w0⟩ := DataW.trod_int Try.underlying3 g0
      obtain ⟨q1, e1, -, w1⟩ := DataW.trod_int Try.underlying3 g1
      obtain ⟨q3, e3, -, w3⟩ := DataW.trod_int Try.underlying3 g3
      simp at e0 e1 e3
      subst e0 e1 e3
      obtain ⟨lq, yq, hq, nq⟩ := open_fdsT g2 (fun n hn => hsz n (by rw [hd]; simp [DataW.weights, DataW.weightsEach, Try.underlying73, hn]))
      obtain ⟨le, ye, he, ne⟩ := open_ersT g4 (fun n hn => hsz n (by rw [hd]; simp [DataW.weights, DataW.weightsEach, Try.underlying73, hn]))
      exact ⟨⟨q0, q1, lq, q3, le⟩, ⟨v2, yq, v4, ye⟩, rfl, hq, he, nq, ne⟩
set_option maxRecDepth 100000 in
set_option maxHeartbeats 1000000 in
theorem open_lksT {H : Type} {enc : TypeId × Value → H} {W : World} {spare : Nat → Bool} {held : Bool} {fuel : Nat} {x : Value} {y : DataW H × List MemPlace}
    (hy : DataW.trod enc Try.prog W 0 spare held fuel 22 [x] = some y) (hsz : ∀ n ∈ y.1.weights Try.prog 22, n ≤ reachBytes) : ∃ l xs, RdL kLw W x l xs ∧ l.length ≤ 140737488355328 :=
  open_rowsQ kLw Try.underlying22 cellsLk bytesLk (by decide) (nlk 0, ⟨.slice none 0 0, [], .slice none 0 0, []⟩) (fun h1 h2 => open_lkT h1 h2) hy hsz
end Go.Proofs.Ytgiicendejgklaa
