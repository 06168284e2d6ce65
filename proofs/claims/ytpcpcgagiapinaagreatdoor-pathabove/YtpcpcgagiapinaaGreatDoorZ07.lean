/- Texts joined: TrJ0 TrJ. -/
import Derived.Test.YtpcpcgagiapinaaGreatDoorZ06
import Derived.Laws.CopyRow
/- The copy of a row of nodes; what a copied tree is, while it is made. No walk is in this text. -/
namespace Go.Proofs.YtpcpcgagiapinaaGreatDoor
open Go.RowKit Go.Maps
theorem run_copyK {P : Program} (w : World) (dT sT ty elem : TypeId) (k g dLen dCap : Nat) (sp : Option Addr) (sLen sCap : Nat) (cur : Array Value) (t : TypeId) (cs : List Value)
    (hu : P.underlying dT = some (.slice elem)) (hs : (P.info? elem).map (·.size) = some k)
    (hg : w.heap[g]? = some (.cells cur t (0, 0))) (hn : cs.length = Nat.min sLen dLen * k)
    (hsrc : (sp = none ∧ cs = []) ∨ ∃ a, sp = some a ∧ ∀ j v, cs[j]? = some v → w.cell? (a.add j) = some v) (hfit : cs.length ≤ cur.size) (h1 : ∀ v ∈ cs, v.oneCell' = true) :
    (Builtin.copy_ #[dT, sT] ty #[.slice (some ⟨g, 0, none⟩) dLen dCap, .slice sp sLen sCap]).run P w =
      .ok (goInt (Nat.min sLen dLen)) (w.setRow g (cs ++ cur.toList.drop cs.length).toArray) := by
  have hst := run_storeCells_at P g 0 t cs 0 cur w hg (by simpa using hfit) h1
  simp only [Nat.add_zero, Nat.zero_add, List.take_zero, List.nil_append] at hst
  cases hq : P.info? elem with
  | none => simp [hq] at hs
  | some i =>
    have hi : i.size = k := by simpa [hq] using hs
    rcases hsrc with ⟨rfl, rfl⟩ | ⟨a, rfl, hc⟩
    · simp only [List.length_nil] at hst hn
      simp only [List.length_nil]
      simp [Builtin.copy_, run_underlying hu, Builtin.lenOf, Builtin.firstCells, sizeOf, typeInfo, hq]
      have hst' : Sem.run P (storeCells ⟨g, 0, none⟩ []) w = Result.ok () (w.setRow g cur) := by simpa using hst
      rw [hst']; rfl
    · have hl := run_loadCells_list (P := P) w a cs hc
      rw [hn] at hl
      simp [Builtin.copy_, run_underlying hu, Builtin.lenOf, Builtin.firstCells, sizeOf, typeInfo, hq, hi, hl, hst]
theorem infoNode : (Tryz.prog.info? 59).map (fun i => (i.zero, i.size, i.bytes)) = some (some (.agg #[.int .i64 0, .int .i64 0, .int .i64 0, .slice none 0 0]), 4, 48) := by kernel_rfl
theorem made_tree {n : Nat} (hn : n ∈ sizes) : (madeCells (Value.agg #[.int .i64 0, .int .i64 0, .int .i64 0, .slice none 0 0]).cells ((2 * n - 1) * 4)).toList = treeC (List.replicate (2 * n - 1) nd0) (List.replicate (2 * n - 1) (.slice none 0 0)) := by
  simp only [sizes, List.mem_cons, List.not_mem_nil, or_false] at hn
  rcases hn with rfl | rfl | rfl | rfl <;> kernel_rfl
theorem treeC_app {T T' : List Nd} {us us' : List Value} (h : us.length = T.length) : treeC (T ++ T') (us ++ us') = treeC T us ++ treeC T' us' := by
  unfold treeC; rw [List.zipWith_append h.symm, List.flatten_append]
theorem treeC_drop {T : List Nd} {us : List Value} (h : us.length = T.length) (k : Nat) : (treeC T us).drop (k * 4) = treeC (T.drop k) (us.drop k) := by
  induction k generalizing T us with
  | zero => simp
  | succ k ih =>
    cases T with
    | nil => simp [treeC]
    | cons n T =>
      cases us with
      | nil => simp at h
      | cons u us =>
        rw [treeC_cons, show (k + 1) * 4 = 4 + k * 4 by omega, ← List.drop_drop]
        have : (ndC n u ++ treeC T us).drop 4 = treeC T us := rfl
        rw [this, ih (by simpa using h)]; simp
theorem treeC_one {T : List Nd} {us : List Value} (h1 : ∀ u ∈ us, u.oneCell' = true) : ∀ x ∈ treeC T us, x.oneCell' = true := by
  intro x hx
  unfold treeC at hx
  rw [List.mem_flatten] at hx
  obtain ⟨l, hl, hx⟩ := hx
  obtain ⟨i, hi⟩ := List.mem_iff_getElem?.1 hl
  rw [List.getElem?_zipWith] at hi
  cases hT : T[i]? with
  | none => rw [hT] at hi; simp at hi
  | some n =>
    cases hu : us[i]? with
    | none => rw [hT, hu] at hi; simp at hi
    | some u =>
      rw [hT, hu] at hi
      simp at hi
      subst hi
      simp only [ndC, List.mem_cons, List.not_mem_nil, or_false] at hx
      rcases hx with rfl | rfl | rfl | rfl
      · rfl
      · rfl
      · rfl
      · exact h1 _ (List.mem_of_getElem? hu)
theorem fit_len (m : Nat) (T : List Nd) : (fit m T).length = m := by simp [fit]
theorem fit_get {m : Nat} {T : List Nd} {i : Nat} (h : i < m) : (fit m T)[i]? = some (ndAt T i) := by simp [fit, h]
theorem ndAt_fit {m : Nat} {T : List Nd} {i : Nat} (h : i < m) : ndAt (fit m T) i = ndAt T i := by
  unfold ndAt; rw [List.getD_eq_getElem?_getD, fit_get h]; rfl
theorem ndAt_ge {T : List Nd} {i : Nat} (h : T.length ≤ i) : ndAt T i = nd0 := by
  unfold ndAt; rw [List.getD_eq_getElem?_getD, List.getElem?_eq_none h]; rfl
theorem fit_eq (m : Nat) (T : List Nd) : fit m T = T.take m ++ List.replicate (m - T.length) nd0 := by
  apply List.ext_getElem?
  intro i
  rcases Nat.lt_or_ge i m with h | h
  · rw [fit_get h]
    rcases Nat.lt_or_ge i T.length with h2 | h2
    · rw [List.getElem?_append_left (by simp; omega), List.getElem?_take_of_lt h, ndAt_of h2]
    · rw [List.getElem?_append_right (by simp; omega), ndAt_ge h2]
      simp only [List.length_take, List.getElem?_replicate]
      rw [if_pos (by omega)]
  · rw [List.getElem?_eq_none (by rw [fit_len]; exact h), List.getElem?_eq_none (by simp; omega)]
theorem Trd.cells {w : World} {a : Option Addr} {N c : Nat} {T : List Nd} (h : Trd w (.slice a N c) T) : ∃ us : List Value, us.length = T.length ∧ (∀ (i : Nat) (n : Nd) (u : Value), T[i]? = some n → us[i]? = some u → Nums w u n.un) ∧ (T = [] ∨ ∃ b o, a = some ⟨b, o, none⟩ ∧ ∀ j x, (treeC T us)[j]? = some x → w.cell? ⟨b, o + j, none⟩ = some x) := by
  rcases h.form with ⟨rfl, _⟩ | ⟨b, o, c', hv, hB, hc⟩
  · exact ⟨[], rfl, by simp, Or.inl rfl⟩
  · cases hv
    have hch : ∀ i, ∃ u, ∀ n, T[i]? = some n → NdC w b (o + i * 4) n u ∧ Nums w u n.un := fun i => by
      cases hT : T[i]? with
      | none => exact ⟨undef, fun n hn => by cases hn⟩
      | some n =>
        obtain ⟨u, h1, h2⟩ := hc i n hT
        exact ⟨u, fun m hm => by cases hm; exact ⟨h1, h2⟩⟩
    let f : Nat → Value := fun i => Classical.choose (hch i)
    have hf : ∀ i n, T[i]? = some n → NdC w b (o + i * 4) n (f i) ∧ Nums w (f i) n.un := fun i n hn => Classical.choose_spec (hch i) n hn
    refine ⟨(List.range T.length).map f, by simp, fun i n u hn hu => ?_, Or.inr ⟨b, o, rfl, fun j x hj => ?_⟩⟩
    · have hi : i < T.length := (List.getElem?_eq_some_iff.1 hn).1
      simp [hi] at hu
      subst hu
      exact (hf i n hn).2
    · have hlt : j < T.length * 4 := by
        have := (List.getElem?_eq_some_iff.1 hj).1
        rw [treeC_len (by simp)] at this; exact this
      obtain ⟨i, k, hk, rfl⟩ : ∃ i k, k < 4 ∧ j = i * 4 + k := ⟨j / 4, j % 4, by omega, by omega⟩
      have hi : i < T.length := by omega
      have hn : T[i]? = some T[i] := List.getElem?_eq_getElem hi
      have hu : ((List.range T.length).map f)[i]? = some (f i) := by simp [hi]
      obtain ⟨v, hv⟩ : ∃ v, (ndC T[i] (f i))[k]? = some v := ⟨_, List.getElem?_eq_getElem hk⟩
      rw [treeC_get hn hu hv] at hj
      cases hj
      obtain ⟨h0, h1, h2, h3⟩ := (hf i _ hn).1
      match k, hk, hv with
      | 0, _, hv => cases hv; simpa [Nat.add_assoc] using h0
      | 1, _, hv => cases hv; simpa [Nat.add_assoc] using h1
      | 2, _, hv => cases hv; simpa [Nat.add_assoc] using h2
      | 3, _, hv => cases hv; simpa [Nat.add_assoc] using h3
theorem set_same {α : Type} {l : List α} {i : Nat} {x : α} (h : l[i]? = some x) : l.set i x = l := by
  apply List.ext_getElem?
  intro j
  by_cases c : i = j
  · subst c; rw [List.getElem?_set_self (List.getElem?_eq_some_iff.1 h).1, h]
  · rw [List.getElem?_set_ne c]
theorem treeC_setk {T : List Nd} {us : List Value} {i k : Nat} {n n' : Nd} {u u' x : Value} (hk : k < 4) (hn : T[i]? = some n) (hu : us[i]? = some u) (hx : (ndC n u).set k x = ndC n' u') : (treeC T us).set (i * 4 + k) x = treeC (T.set i n') (us.set i u') := by
  induction T generalizing us i with
  | nil => simp at hn
  | cons m T ih =>
    cases us with
    | nil => simp at hu
    | cons v us =>
      rw [treeC_cons]
      cases i with
      | zero =>
        simp at hn hu; subst hn hu
        simp only [List.set_cons_zero, treeC_cons, Nat.zero_mul, Nat.zero_add]
        rw [← hx]
        have h4 : (ndC m v).length = 4 := rfl
        rw [List.set_append_left _ _ (by omega)]
      | succ i =>
        have hm : (ndC m v).length = 4 := rfl
        simp only [List.set_cons_succ, treeC_cons]
        rw [← ih (us := us) (by simpa using hn) (by simpa using hu)]
        rw [List.set_append_right _ _ (by omega), hm, show (i + 1) * 4 + k - 4 = i * 4 + k by omega]
structure CT (w W wr : World) (B g m : Nat) (F : List Nd) (us : List Value) (i : Nat) : Prop where
  fr : Fr [g] W wr
  row : wr.ownsRow B 59 4 (.slice (some ⟨g, 0, none⟩) m m) m (treeC F us)
  fl : F.length = m
  ul : us.length = m
  own : ∀ (j : Nat) (n : Nd) (u : Value), j < i → F[j]? = some n → us[j]? = some u → Ints W.heap.size wr u n.un
  old : ∀ (j : Nat) (n : Nd) (u : Value), i ≤ j → F[j]? = some n → us[j]? = some u → Nums w u n.un
  ap : ∀ (j k : Nat) (u u' : Value) (b : Nat), j < i → k < i → us[j]? = some u → us[k]? = some u' → u.ownBlock = some b → u'.ownBlock = some b → j = k
theorem CT.step {w W wr w' : World} {B g m : Nat} {F : List Nd} {us : List Value} {i : Nat} (h : CT w W wr B g m F us i) {n : Nd} (hn : F[i]? = some n) {v' : Value} (hr : Ints W.heap.size w' v' n.un) (hg : wr.grownBy w' none) (hp : v'.ownBlock = none ∨ v'.ownBlock = some wr.heap.size) (hgW : g < W.heap.size) :
    CT w W (w'.setCell ⟨g, i * 4 + 3, none⟩ v') B g m F (us.set i v') (i + 1) := by
  have hf : Fr [] wr w' := Fr.ofGrown hg
  have hi : i < m := by rw [← h.fl]; exact (List.getElem?_eq_some_iff.1 hn).1
  have hsz : W.heap.size ≤ wr.heap.size := h.fr.size
  have row' : w'.ownsRow B 59 4 (.slice (some ⟨g, 0, none⟩) m m) m (treeC F us) := own_keep h.row (fun k hk => hf.block k (World.ownsRow.lt h.row k hk).2 (by simp))
  obtain ⟨u, hu⟩ : ∃ u, us[i]? = some u := ⟨_, List.getElem?_eq_getElem (by rw [h.ul]; exact hi)⟩
  have e : (treeC F us).set (i * 4 + 3) v' = treeC F (us.set i v') := by
    rw [treeC_setk (n' := n) (u' := v') (by decide) hn hu rfl]
    congr 1
    exact set_same hn
  have rowS : (w'.setCell ⟨g, i * 4 + 3, none⟩ v').ownsRow B 59 4 (.slice (some ⟨g, 0, none⟩) m m) m (treeC F (us.set i v')) := by
    have := own_set row' (g := g) rfl (j := i * 4 + 3) v'
    rw [e] at this; exact this
  have f2 : Fr [g] W (w'.setCell ⟨g, i * 4 + 3, none⟩ v') := (h.fr.tr (hf.mono (by simp))).setCell (a := ⟨g, i * 4 + 3, none⟩) (Or.inr (by simp)) v'
  have kp : ∀ (x : Value) (l : List Int), Ints W.heap.size w' x l → Ints W.heap.size (w'.setCell ⟨g, i * 4 + 3, none⟩ v') x l := fun x l hx => own_keep hx (fun k hk => by
    have : k ≠ g := by have := (World.ownsRow.lt hx k hk).1; omega
    exact Below.heap_setCell _ _ _ _ this)
  have kp0 : ∀ (x : Value) (l : List Int), Ints W.heap.size wr x l → Ints W.heap.size w' x l := fun x l hx => own_keep hx (fun k hk => hf.block k (World.ownsRow.lt hx k hk).2 (by simp))
  refine ⟨f2, rowS, h.fl, by simpa using h.ul, ?_, ?_, ?_⟩
  · intro j n' u' hj hn' hu'
    by_cases c : j = i
    · subst c
      rw [hn] at hn'; cases hn'
      rw [List.getElem?_set_self (by rw [h.ul]; exact hi)] at hu'
      cases hu'
      exact kp _ _ hr
    · rw [List.getElem?_set_ne (Ne.symm c)] at hu'
      exact kp _ _ (kp0 _ _ (h.own j n' u' (by omega) hn' hu'))
  · intro j n' u' hj hn' hu'
    rw [List.getElem?_set_ne (by omega)] at hu'
    exact h.old j n' u' (by omega) hn' hu'
  · intro j k u1 u2 b hj hk h1 h2 hb1 hb2
    have lt1 : ∀ j u1, j < i → us[j]? = some u1 → u1.ownBlock = some b → b < wr.heap.size := fun j u1 hj h1 hb => by
      obtain ⟨n1, hn1⟩ : ∃ n1, F[j]? = some n1 := ⟨_, List.getElem?_eq_getElem (by rw [h.fl]; omega)⟩
      exact (World.ownsRow.lt (h.own j n1 u1 hj hn1 h1) b hb).2
    by_cases c1 : j = i <;> by_cases c2 : k = i
    · omega
    · subst c1
      rw [List.getElem?_set_self (by rw [h.ul]; exact hi)] at h1
      cases h1
      rw [List.getElem?_set_ne (Ne.symm c2)] at h2
      have := lt1 k u2 (by omega) h2 hb2
      rcases hp with q | q
      · rw [q] at hb1; cases hb1
      · rw [q] at hb1; cases hb1; omega
    · subst c2
      rw [List.getElem?_set_self (by rw [h.ul]; exact hi)] at h2
      cases h2
      rw [List.getElem?_set_ne (Ne.symm c1)] at h1
      have := lt1 j u1 (by omega) h1 hb1
      rcases hp with q | q
      · rw [q] at hb2; cases hb2
      · rw [q] at hb2; cases hb2; omega
    · rw [List.getElem?_set_ne (Ne.symm c1)] at h1
      rw [List.getElem?_set_ne (Ne.symm c2)] at h2
      exact h.ap j k u1 u2 b (by omega) (by omega) h1 h2 hb1 hb2
theorem CT.done {w W wr : World} {B g m : Nat} {F : List Nd} {us : List Value} (h : CT w W wr B g m F us m) (hB : B ≤ W.heap.size) : OTr B wr (.slice (some ⟨g, 0, none⟩) m m) F us := by
  refine ⟨by rw [h.ul, h.fl], by rw [h.fl]; exact h.row, fun i n u h1 h2 => (h.own i n u (by rw [← h.fl]; exact (List.getElem?_eq_some_iff.1 h1).1) h1 h2).mono hB, fun i j u u' k h1 h2 => h.ap i j u u' k (by rw [← h.ul]; exact (List.getElem?_eq_some_iff.1 h1).1) (by rw [← h.ul]; exact (List.getElem?_eq_some_iff.1 h2).1) h1 h2⟩
end Go.Proofs.YtpcpcgagiapinaaGreatDoor

/- The contract of copied. -/
namespace Go.Proofs.YtpcpcgagiapinaaGreatDoor
open Go.RowKit Go.Maps
theorem wid_sizes {n : Nat} (hn : n ∈ sizes) : wid (n : Nat) = ((2 * n - 1 : Nat) : Int) := by
  have hh : ∀ n ∈ sizes, wid (n : Nat) = ((2 * n - 1 : Nat) : Int) := by decide +kernel
  exact hh n hn
theorem cell_of_blk {w : World} {b o : Nat} {cs : Array Value} {t : TypeId} {z : Nat × Nat} {v : Value} (h : w.heap[b]? = some (.cells cs t z)) (hv : cs[o]? = some v) : w.cell? ⟨b, o, none⟩ = some v := by simp [World.cell?, h, hv]
theorem cell_keep {w w' : World} {a : Addr} {v : Value} (h : w.cell? a = some v) (hb : w'.heap[a.block]? = w.heap[a.block]?) : w'.cell? a = some v := by
  have := h; unfold World.cell? at *; rw [hb]; exact this
theorem CT.drew {w W wr : World} {B g m : Nat} {F : List Nd} {us : List Value} {i : Nat} (h : CT w W wr B g m F us i) : CT w W wr.drew B g m F us i :=
  ⟨h.fr.drew, own_keep h.row (fun _ _ => rfl), h.fl, h.ul, fun j n u hj hn hu => own_keep (h.own j n u hj hn hu) (fun _ _ => rfl), h.old, h.ap⟩
theorem OTr.keepB {B : Nat} {w w' : World} {v : Value} {T : List Nd} {us : List Value} (h : OTr B w v T us) (hk : ∀ k, B ≤ k → w'.heap[k]? = w.heap[k]?) : OTr B w' v T us :=
  ⟨h.ul, own_keep h.row (fun k q => hk k (World.ownsRow.lt h.row k q).1), fun i n u h1 h2 => own_keep (h.un i n u h1 h2) (fun k q => hk k (World.ownsRow.lt (h.un i n u h1 h2) k q).1), h.apart⟩
theorem OTr.mono {B B' : Nat} {w : World} {v : Value} {T : List Nd} {us : List Value} (h : OTr B w v T us) (hb : B' ≤ B) : OTr B' w v T us :=
  ⟨h.ul, own_mono h.row hb, fun i n u h1 h2 => (h.un i n u h1 h2).mono hb, h.apart⟩
theorem cell_set_same {w : World} {a : Addr} {v : Value} (h : w.cell? a = some v) (u : Value) (hs : a.spot = none := by rfl) : (w.setCell a u).cell? a = some u := by
  obtain ⟨b, o, sp⟩ := a
  subst hs
  unfold World.cell? at h
  simp only [World.cell?, World.setCell, Array.getElem?_modify]
  cases hb : w.heap[b]? with
  | none => simp [hb] at h
  | some ob =>
    cases ob with
    | cells cs t z =>
      simp [hb] at h
      have hlt := (Array.getElem?_eq_some_iff.1 h).1
      simp [hlt]
    | _ => simp [hb] at h
theorem below_setRow' {B g : Nat} {w0 w : World} (hb : Below B w0 w) (hBg : B ≤ g) (cs : Array Value) : Below B w0 (w.setRow g cs) :=
  hb.trans ⟨rfl, rfl, rfl, by simp [World.setRow], fun k hk => setRow_other w g k cs (by omega)⟩
theorem own_cur {B : Nat} {w : World} {e : TypeId} {k g m : Nat} {xs : List Value} (h : w.ownsRow B e k (.slice (some ⟨g, 0, none⟩) m m) m xs) : ∃ cur : Array Value, w.heap[g]? = some (.cells cur e (0, 0)) ∧ cur.toList = xs ∧ B ≤ g ∧ m ≤ maxLen := by
  rcases h.2 with ⟨hv, _⟩ | ⟨g', cap, cur, hv, hB, hg, h1, h2, h3, h4⟩
  · cases hv
  · cases hv
    refine ⟨cur, hg, ?_, hB, h2⟩
    rw [← h4, List.take_of_length_le]
    simp; omega
theorem own_of_cur {B : Nat} {w : World} {e : TypeId} {k g m : Nat} {xs : List Value} (hg : w.heap[g]? = some (.cells xs.toArray e (0, 0))) (hx : xs.length = m * k) (hB : B ≤ g) (hm : m ≤ maxLen) : w.ownsRow B e k (.slice (some ⟨g, 0, none⟩) m m) m xs :=
  ⟨hx, Or.inr ⟨g, m, xs.toArray, rfl, hB, hg, Nat.le_refl _, hm, by simpa using hx, List.take_of_length_le (by simp; omega)⟩⟩
theorem CT.start {w W : World} {B g m : Nat} {T : List Nd} {us : List Value} (hul : us.length = T.length) (hun : ∀ (i : Nat) (n : Nd) (u : Value), T[i]? = some n → us[i]? = some u → Nums w u n.un)
    (hrow : W.ownsRow B 59 4 (.slice (some ⟨g, 0, none⟩) m m) m (treeC (fit m T) (us.take m ++ List.replicate (m - T.length) (.slice none 0 0)))) : CT w W W B g m (fit m T) (us.take m ++ List.replicate (m - T.length) (.slice none 0 0)) 0 := by
  refine ⟨Fr.refl _ _, hrow, fit_len _ _, by simp; omega, fun j n u hj => by omega, ?_, fun j k u u' b hj => by omega⟩
  intro j n u _ hn hu
  have hj : j < m := by have := (List.getElem?_eq_some_iff.1 hn).1; rwa [fit_len] at this
  rw [fit_get hj] at hn
  cases hn
  rcases Nat.lt_or_ge j T.length with c | c
  · rw [List.getElem?_append_left (by simp; omega), List.getElem?_take_of_lt hj] at hu
    exact hun j _ u (ndAt_of c) hu
  · rw [ndAt_ge c]
    rw [List.getElem?_append_right (by simp; omega), List.getElem?_replicate] at hu
    split at hu
    · cases hu; exact Or.inl ⟨rfl, none, 0, rfl, fun _ => rfl⟩
    · cases hu
theorem copy_cells {T : List Nd} {us : List Value} {m : Nat} (hul : us.length = T.length) : treeC (T.take m) (us.take m) ++ (treeC (List.replicate m nd0) (List.replicate m (.slice none 0 0))).drop (treeC (T.take m) (us.take m)).length = treeC (fit m T) (us.take m ++ List.replicate (m - T.length) (.slice none 0 0)) := by
  rw [treeC_len (by simp [hul]), treeC_drop (by simp), fit_eq, treeC_app (by simp [hul])]
  congr 2
  · simp only [List.drop_replicate, List.length_take]; congr 1; omega
  · simp only [List.drop_replicate, List.length_take]; congr 1; omega
set_option maxRecDepth 100000 in
set_option maxHeartbeats 4000000 in
theorem copied_any {w : World} {v : Value} {T : List Nd} (h : Trd w v T) (hs : T.length ≤ 15) (hu8 : ∀ x ∈ T, x.un.length ≤ 8) {n : Nat} (hn : n ∈ sizes) :
    Calls Tryz.prog 117 #[.agg #[v], .int .i64 (n : Int)] w fun e w' => ∃ g us, e = .returned (.agg #[.slice (some ⟨g, 0, none⟩) (2 * n - 1) (2 * n - 1)]) ∧ OTr w.heap.size w' (.slice (some ⟨g, 0, none⟩) (2 * n - 1) (2 * n - 1)) (fit (2 * n - 1) T) us ∧ Below w.heap.size w w' := by
  obtain ⟨i0, hi0, hz0, hz1, hz2⟩ := info_parts infoNode
  have hmade := made_tree hn
  have hwid := wid_sizes hn
  obtain ⟨m, hm⟩ : ∃ m, m = 2 * n - 1 := ⟨_, rfl⟩
  have hm15 : m ≤ 15 ∧ 1 ≤ m := by simp [sizes] at hn; omega
  rw [← hm] at hmade hwid ⊢
  have HN8 : Hid ((n : Int) ≤ 8) := by unfold Hid; simp [sizes] at hn; omega
  obtain ⟨a, c, rfl⟩ := h.slice
  obtain ⟨W0, hW0⟩ : ∃ W0, W0 = (bxw w (.slice a T.length c)).alloc (.cells #[.slice none 0 0] 44) := ⟨_, rfl⟩
  have hb0 : Below w.heap.size w W0 := by rw [hW0]; exact (bwA _ _).alloc (by simp) _
  have hs0 : W0.heap.size = w.heap.size + 2 := by rw [hW0]; simp
  have HB : Hid (∀ W, Below W0.heap.size W0 W → W.cell? ⟨w.heap.size, 0, none⟩ = some (.slice a T.length c) ∧ W.cell? ⟨w.heap.size + 1, 0, none⟩ = some (.slice none 0 0) ∧ Below w.heap.size w W ∧ W.frozen? ⟨w.heap.size + 1, 0, none⟩ = false) := fun W hW => by
    refine ⟨?_, ?_, bw_tr hb0 hW, ?_⟩
    · have e : W.heap[w.heap.size]? = some (.cells #[.slice a T.length c] 44 (0, 0)) := by
        rw [hW.block _ (by omega), hW0, Below.heap_alloc _ _ _ (by simp)]; exact heap_alloc_new _ _
      simp [World.cell?, e]
    · have e : W.heap[w.heap.size + 1]? = some (.cells #[.slice none 0 0] 44 (0, 0)) := by
        rw [hW.block _ (by omega), hW0]
        have := heap_alloc_new (bxw w (.slice a T.length c)) (.cells #[.slice none 0 0] 44)
        simpa using this
      simp [World.cell?, e]
    · have e : W.heap[w.heap.size + 1]? = some (.cells #[.slice none 0 0] 44 (0, 0)) := by
        rw [hW.block _ (by omega), hW0]
        have := heap_alloc_new (bxw w (.slice a T.length c)) (.cells #[.slice none 0 0] 44)
        simpa using this
      simp [World.frozen?, e]
  have KW : Hid (∀ W, Calls Tryz.prog 140 #[.int .i64 (n : Int)] W fun e w' => e = .returned (.int .i64 (m : Int)) ∧ w' = W) := fun W => by have := width_any (n : Int) W; rw [hwid] at this; exact this
  obtain ⟨us, hul, hun, hcl⟩ := h.cells
  have HW : Hid (W0 = (w.alloc (.cells #[.slice a T.length c] 44)).alloc (.cells #[.slice none 0 0] 44)) := hW0
  have b2 : i0.bytes * m ≤ 281474976710656 := by rw [hz2]; omega
  have b3 : m ≤ maxLen := by unfold maxLen; omega
  have hsz4 : (Tryz.prog.info? 59).map (·.size) = some 4 := by rw [hi0]; simp [hz1]
  obtain ⟨cs, hcs⟩ : ∃ cs, cs = treeC (T.take m) (us.take m) := ⟨_, rfl⟩
  have hnC : cs.length = Nat.min T.length m * 4 := by rw [hcs, treeC_len (by simp [hul])]; simp [Nat.min_comm]
  have HSRC : Hid (∀ W, Below w.heap.size w W → (a = none ∧ cs = []) ∨ ∃ ad, a = some ad ∧ ∀ j x, cs[j]? = some x → W.cell? (ad.add j) = some x) := fun W hW => by
    rcases hcl with rfl | ⟨b, o, rfl, hc⟩
    · have e : cs = [] := by rw [hcs, List.take_nil]; rfl
      cases a with
      | none => exact Or.inl ⟨rfl, e⟩
      | some ad => exact Or.inr ⟨ad, rfl, fun j x hx => by rw [e] at hx; simp at hx⟩
    · refine Or.inr ⟨_, rfl, fun j x hx => ?_⟩
      have ea : (⟨b, o, none⟩ : Addr).add j = ⟨b, o + j, none⟩ := by unfold Addr.add; by_cases hj : j = 0 <;> simp [hj]
      have hx2 : (treeC T us)[j]? = some x := by
        have ht : treeC T us = cs ++ (treeC (T.drop m) (us.drop m)) := by
          rw [hcs, ← treeC_app (by simp [hul]), List.take_append_drop, List.take_append_drop]
        rw [ht, List.getElem?_append_left (List.getElem?_eq_some_iff.1 hx).1]; exact hx
      have hcc := hc j x hx2
      rw [ea, hW.cell (p := ⟨b, o + j, none⟩) (lt_of_cell (a := ⟨b, o + j, none⟩) hcc)]; exact hcc
  have h1C : ∀ x ∈ cs, x.oneCell' = true := by
    rw [hcs]; refine treeC_one (fun u hu => ?_)
    have hu := List.mem_of_mem_take hu
    obtain ⟨i, hi⟩ := List.mem_iff_getElem?.1 hu
    obtain ⟨nn, hnn⟩ : ∃ nn, T[i]? = some nn := ⟨_, List.getElem?_eq_getElem (by rw [← hul]; exact (List.getElem?_eq_some_iff.1 hi).1)⟩
    obtain ⟨a', c', rfl⟩ := nums_slice (hun i nn u hnn hi)
    rfl
  have hcat := copy_cells (m := m) hul
  rw [← hcs] at hcat
  obtain ⟨us1, hus1⟩ : ∃ us1, us1 = us.take m ++ List.replicate (m - T.length) (Value.slice none 0 0) := ⟨_, rfl⟩
  rw [← hus1] at hcat
  have HST : Hid (∀ W B g, W.ownsRow B 59 4 (.slice (some ⟨g, 0, none⟩) m m) m (treeC (fit m T) us1) → CT w W W B g m (fit m T) us1 0) := fun W B g hr => by rw [hus1] at hr ⊢; exact CT.start hul hun hr
  have HU8 : Hid (∀ (j : Nat) (x : Nd), (fit m T)[j]? = some x → x.un.length ≤ 8) := fun j x hx => by
    have hj : j < m := by have := (List.getElem?_eq_some_iff.1 hx).1; rwa [fit_len] at this
    rw [fit_get hj] at hx; cases hx
    rcases Nat.lt_or_ge j T.length with c | c
    · exact hu8 _ (ndAt_mem c)
    · rw [ndAt_ge c]; simp [nd0]
  have hfitm : cs.length ≤ m * 4 := by rw [hnC]; exact Nat.mul_le_mul_right 4 (Nat.min_le_right _ _)
  have hlF : (treeC (fit m T) us1).length = m * 4 := by rw [treeC_len, fit_len]; rw [hus1, fit_len]; simp; omega
  have HA := hide (And.intro hmade (And.intro hcat (And.intro hs0 (And.intro hnC hlF))))
  have hlN : (T.length : Int) ≤ 15 := by omega
  obtain ⟨hm15a, hm15b⟩ := hm15
  clear hW0 hwid hmade hcat hs0 hcl hun hul hus1 hcs hu8 hs h hn hm
  generalize hF : fit m T = F at *
  clear hF
  generalize T.length = N at *
  go_enter Tryz.func117, Tryz.ntmps117
  go_wp2_with fail
  rw [← unhide HW]
  refine (unhide KW _).mono ?_
  rintro e W1 ⟨rfl, rfl⟩
  clear KW HW
  have e1 : w.heap.size + 2 = W1.heap.size := (unhide HA).2.2.1.symm
  have HMID : Hid (∀ w2 : World, w2.ownsRow W1.heap.size 59 4 (.slice (some ⟨W1.heap.size, 0, none⟩) m m) m (madeCells (Value.agg #[.int .i64 0, .int .i64 0, .int .i64 0, .slice none 0 0]).cells (m * 4)).toList → W1.grownBy w2 none →
      ∃ W3, (Builtin.copy_ #[42, 42] 3 #[.slice (some ⟨W1.heap.size, 0, none⟩) m m, .slice a N c]).run Tryz.prog (w2.alloc (.cells #[.slice (some ⟨W1.heap.size, 0, none⟩) m m] 44)) = .ok (goInt (Nat.min N m)) W3 ∧
        (w2.alloc (.cells #[.slice (some ⟨W1.heap.size, 0, none⟩) m m] 44)).cell? ⟨w.heap.size, 0, none⟩ = some (.slice a N c) ∧ W3.cell? ⟨w2.heap.size, 0, none⟩ = some (.slice (some ⟨W1.heap.size, 0, none⟩) m m) ∧ Hid (CT w W3 W3 W1.heap.size W1.heap.size m F us1 0 ∧ Below W1.heap.size W1 W3 ∧ W1.heap.size < w2.heap.size ∧ w2.heap.size < W3.heap.size)) := by
    intro w2 hrow hgr
    have bm : Below W1.heap.size W1 w2 := (Below.refl _ _).grown hgr (Nat.le_refl _) (fun k hk => by cases hk)
    obtain ⟨cur, hcur, hcurl, hBg, -⟩ := own_cur hrow
    have hlt2 : W1.heap.size < w2.heap.size := lt_of_blk hcur
    obtain ⟨cA, cB, cC, -⟩ := unhide HB _ (bm.alloc bm.size (.cells #[.slice (some ⟨W1.heap.size, 0, none⟩) m m] 44))
    have hcurX : (w2.alloc (.cells #[.slice (some ⟨W1.heap.size, 0, none⟩) m m] 44)).heap[W1.heap.size]? = some (.cells cur 59 (0, 0)) := (Below.heap_alloc _ _ _ hlt2).trans hcur
    have hfit : cs.length ≤ cur.size := by
      have q := congrArg List.length hcurl; rw [hrow.1] at q; simp at q; omega
    have hrun := run_copyK (P := Tryz.prog) (w2.alloc (.cells #[.slice (some ⟨W1.heap.size, 0, none⟩) m m] 44)) 42 42 3 59 4 W1.heap.size m m a N c cur 59 cs Tryz.underlying42 hsz4 hcurX (unhide HA).2.2.2.1 (unhide HSRC _ cC) hfit h1C
    refine ⟨_, hrun, cA, ?_, ?_⟩
    · have hne : w2.heap.size ≠ W1.heap.size := by omega
      have e : ((w2.alloc (.cells #[.slice (some ⟨W1.heap.size, 0, none⟩) m m] 44)).setRow W1.heap.size (cs ++ cur.toList.drop cs.length).toArray).heap[w2.heap.size]? = some (.cells #[.slice (some ⟨W1.heap.size, 0, none⟩) m m] 44 (0, 0)) := by
        rw [setRow_other _ _ _ _ hne]; exact heap_alloc_new _ _
      exact cell_of_blk e rfl
    · have hl : cs ++ cur.toList.drop cs.length = treeC F us1 := by rw [hcurl, (unhide HA).1]; exact (unhide HA).2.1
      have hrow3 := setRow_heap (w2.alloc (.cells #[.slice (some ⟨W1.heap.size, 0, none⟩) m m] 44)) W1.heap.size cur (cs ++ cur.toList.drop cs.length).toArray 59 (0, 0) hcurX
      refine ⟨unhide HST _ _ _ (own_of_cur (by rw [← hl]; exact hrow3) hlF (Nat.le_refl _) b3), ?_, hlt2, by simp [World.setRow]⟩
      exact below_setRow' ((bm.alloc bm.size _)) (Nat.le_refl _) _
  have HNN : Hid (w.heap.size + 2 = W1.heap.size) := e1
  clear HA HST h1C hfitm hlF hnC HSRC e1 us
  go_wp2_with (first
    | (at_make; refine wpList_make_full _ rfl _ _ 42 rfl W1.heap.size 59 i0 (.agg #[.int .i64 0, .int .i64 0, .int .i64 0, .slice none 0 0]) 4 Tryz.underlying42 hi0 hz0 hz1 _ _ _ _ m rfl rfl (by first | rfl | omega) (by first | rfl | omega) b2 b3 (Nat.le_refl _) ?_; intro w2 hrow hgr; obtain ⟨W3, hrun, cA, cN, HCT⟩ := unhide HMID w2 hrow hgr; clear hrow hgr))
  clear hrun cA HMID
  go_loopw [19] (fun iv wr => ∃ (i : Nat) (us : List Value), iv = .int .i64 (i : Int) ∧ i ≤ m ∧ Hid (CT w W3 wr W1.heap.size W1.heap.size m F us i)) (fun iv _ => (m - (intOf iv)).toNat)
  case atStart => exact ⟨0, us1, rfl, by omega, (unhide HCT).1⟩
  case round =>
    obtain ⟨i, us, rfl, him, hct⟩ := hrel
    have cNr : wr.cell? ⟨w2.heap.size, 0, none⟩ = some (.slice (some ⟨W1.heap.size, 0, none⟩) m m) := cell_keep cN ((unhide hct).fr.block _ (unhide HCT).2.2.2 (by have := (unhide HCT).2.2.1; simp; omega))
    by_cases hlt : i < m
    · obtain ⟨nn, hnn⟩ : ∃ nn, F[i]? = some nn := ⟨_, List.getElem?_eq_getElem (by rw [(unhide hct).fl]; exact hlt)⟩
      obtain ⟨u, hu⟩ : ∃ u, us[i]? = some u := ⟨_, List.getElem?_eq_getElem (by rw [(unhide hct).ul]; exact hlt)⟩
      have hbwr : Below w.heap.size w wr := Fr.toBase (bw_tr hb0 (unhide HCT).2.1) (unhide hct).fr (by simp; exact hb0.size)
      have hnu : Nums wr u nn.un := ((unhide hct).old i nn u (Nat.le_refl _) hnn hu).bw hbwr
      have c3 : wr.cell? ⟨W1.heap.size, i * 4 + 3, none⟩ = some u := own_cell (unhide hct).row rfl (treeC_get hnn hu (j := 3) rfl)
      obtain ⟨ua, uc, rfl⟩ := nums_slice hnu
      have hl8 := unhide HU8 i nn hnn
      have hnd : Nums wr.drew (.slice ua nn.un.length uc) nn.un := hnu.bw ((Below.refl _ _).drew)
      have hbd : W3.heap.size ≤ wr.drew.heap.size := (unhide hct).fr.size
      have hlen : ([] : List Int).length + nn.un.length ≤ 100000 := by simp; omega
      have hfz : wr.frozen? ⟨W1.heap.size, i * 4 + 3, none⟩ = false := own_frozen (unhide hct).row rfl _
      have q1 : (i : Int) < (m : Int) := by omega
      have q0 : (0 : Int) ≤ (i : Int) := by omega
      have hm15' : (m : Int) ≤ 15 := by omega
      have hl3 : W1.heap.size < wr.heap.size := lt_of_cell c3
      have hlN2 : w2.heap.size < wr.heap.size := lt_of_cell cNr
      have HNN2 : Hid (F[i]? = some nn) := hnn
      generalize hL : nn.un = L at *
      have HLEN := hide hlen
      clear hlen
      generalize L.length = LL at hnd c3 ⊢
      clear hnn hu hnu hl8
      go_upto_region 6 with fail
      go_region_law (refine step_join rfl (.const (.slice none 0 0)) (.tmp 30) rfl W3.heap.size (.slice none 0 0) (.slice ua LL uc) [] L (by simp [Act.eval]) (ints_nil _ _) (by simp [Act.eval]) hnd (unhide HLEN) hbd ?_; intro v' w' R hg hp; obtain ⟨va, vc, hv'⟩ := own_slice R; subst hv'; have f0 : Fr [] wr w' := ((Fr.refl [] wr).drew).tr (by simpa [Value.ownBlock] using Fr.ofGrown hg); have cN2 := cell_keep cNr (f0.block _ hlN2 (by simp)); have c32 := cell_keep c3 (f0.block _ hl3 (by simp)); have hfz2 : w'.frozen? ⟨W1.heap.size, i * 4 + 3, none⟩ = false := (by have q := hfz; unfold World.frozen? at *; rw [f0.block _ hl3 (by simp)]; exact q))
      all_goals
        have HX : Hid (CT w W3 (w'.setCell ⟨W1.heap.size, i * 4 + 3, none⟩ (.slice va ([] ++ L).length vc)) W1.heap.size W1.heap.size m F (us.set i (.slice va ([] ++ L).length vc)) (i + 1)) :=
          (unhide hct).drew.step (unhide HNN2) (by rw [hL]; simpa using R) (by simpa [Value.ownBlock] using hg) (by simpa [Value.ownBlock] using hp) (by have := (unhide HCT).2.2; omega)
        clear hg hp R f0 cN2 c32 hfz2 hct
        go_wp2_with fail
        go_roundw
        case rel => exact ⟨i + 1, _, by go_num, by omega, HX⟩
        case measure => simp [intOf]; omega
    · obtain rfl : i = m := by omega
      have HOT := hide ((unhide hct).done (by have := (unhide HCT).2.2; omega))
      have hbwr : Below W1.heap.size W1 wr := Fr.toBase (unhide HCT).2.1 (unhide hct).fr (by simp)
      obtain ⟨cA, cB, cC, hfz⟩ := unhide HB _ hbwr
      have e1 := unhide HNN
      have HCB := hide cC
      have hne : w.heap.size + 1 < W1.heap.size := by omega
      have HR : Hid (OTr w.heap.size (wr.setCell ⟨w.heap.size + 1, 0, none⟩ (.slice (some ⟨W1.heap.size, 0, none⟩) i i)) (.slice (some ⟨W1.heap.size, 0, none⟩) i i) F us ∧ Below w.heap.size w (wr.setCell ⟨w.heap.size + 1, 0, none⟩ (.slice (some ⟨W1.heap.size, 0, none⟩) i i))) := by
        refine ⟨((unhide HOT).keepB (fun k hk => Below.heap_setCell _ _ _ _ (by simp; omega))).mono (by omega), (unhide HCB).setCell (by simp) _⟩
      have cZ : (wr.setCell ⟨w.heap.size + 1, 0, none⟩ (.slice (some ⟨W1.heap.size, 0, none⟩) i i)).cell? ⟨w.heap.size + 1, 0, none⟩ = some (.slice (some ⟨W1.heap.size, 0, none⟩) i i) := cell_set_same cB _
      clear hct e1 cA cC
      go_wp2_with fail
      generalize wr.setCell ⟨w.heap.size + 1, 0, none⟩ (.slice (some ⟨W1.heap.size, 0, none⟩) i i) = WZ at *
      exact bodyPost_ret (v := .agg #[.slice (some ⟨W1.heap.size, 0, none⟩) i i]) (by simp [results, Tryz.results117, go_sem, cZ]) rfl ⟨W1.heap.size, _, rfl, (unhide HR).1, (unhide HR).2⟩
end Go.Proofs.YtpcpcgagiapinaaGreatDoor
