/- Texts joined: TrQ TrQ2. -/
import Derived.Test.YtpgppnmobbgefaaGreatDoorTrP
/- The contract of Targets. -/
namespace Go.Proofs.YtpgppnmobbgefaaGreatDoor
open Go.Shelf Go.RowKit Go.Maps Go.Sort Go.Lib

abbrev F31 := Fin 31
def enF (x : F31) : Value := .int .i64 ((x.val : Nat) : Int)
def toF (z : Int) : F31 := ⟨z.toNat % 31, Nat.mod_lt _ (by decide)⟩
theorem enF_toF {z : Int} (h0 : 0 ≤ z) (h1 : z ≤ 30) : enF (toF z) = .int .i64 z ∧ (((toF z).val : Nat) : Int) = z := by
  have : ((z.toNat % 31 : Nat) : Int) = z := by rw [Nat.mod_eq_of_lt (by omega)]; omega
  exact ⟨by unfold enF toF; rw [this], this⟩
theorem fr_putRowG {α : Type} [Inhabited α] (enc : α → Value) (w : World) (blk off q : Nat) (d : Array α) : Fr [blk] w (putRow enc (Sort.ahead w q) blk off d) := by
  refine ⟨rfl, rfl, rfl, by simp, fun k hk hn => ?_⟩
  simp only [putRow, mapBlock, Sort.ahead, Array.getElem?_modify]
  have : blk ≠ k := fun c => hn (by simp [c])
  simp [this]
theorem putRow_blk {α : Type} [Inhabited α] (enc : α → Value) (w : World) (blk off q : Nat) (d : Array α) {cur : Array Value} {t : TypeId} {z : Nat × Nat} (h : w.heap[blk]? = some (.cells cur t z)) : ∃ cur', (putRow enc (Sort.ahead w q) blk off d).heap[blk]? = some (.cells cur' t z) ∧ cur'.size = cur.size := by
  refine ⟨putCells enc off d cur, ?_, by simp [putCells]⟩
  simp only [putRow, mapBlock, Sort.ahead, Array.getElem?_modify, if_true, h]; rfl
theorem Nums.keepFr {w w' : World} {v : Value} {l : List Int} {S : List Nat} (h : Nums w v l) (hf : Fr S w w') (hn : ∀ g o c, v = .slice (some ⟨g, o, none⟩) l.length c → g ∉ S) : Nums w' v l := by
  rcases h with h | ⟨g, o, cap, hv, h1, h2, hc⟩
  · exact Or.inl h
  · refine Or.inr ⟨g, o, cap, hv, h1, h2, fun j z hj => ?_⟩
    have hcc := hc j z hj
    exact cell_keep hcc (hf.block g (lt_of_cell (a := ⟨g, o + j, none⟩) hcc) (hn g o cap hv))
/-- The row of a target, without leaves that are fresh. -/
theorem delete_fresh {B : Nat} {w : World} {u fv : Value} {L fl : List Int} {fb : Nat} (h : Ints B w u L) (hL : L ≠ []) (h30 : ∀ z ∈ L, 0 ≤ z ∧ z ≤ 30) (hf : Nums w fv fl) (hfB : ∀ g o c, fv = .slice (some ⟨g, o, none⟩) fl.length c → fl ≠ [] → g < B) (hc : w.cell? ⟨fb, 0, none⟩ = some fv) (hfb : fb < B) (hl : L.length ≤ 100) :
    Calls Tryz.prog 170 #[u, .func (.func 171) #[] #[.pointer (some ⟨fb, 0, none⟩)]] w fun e w' => ∃ a m c, e = .returned (.slice a m c) ∧ Ints B w' (.slice a m c) (L.filter (keepF fl)) ∧ (Value.slice a m c).ownBlock = u.ownBlock ∧ Fr u.ownBlock.toList w w' := by
  have hpos : 0 < L.length := List.length_pos_iff.2 hL
  obtain ⟨g, cap, rfl, hg, hcap, _⟩ := own_open h hpos
  have hgB : B ≤ g := (World.ownsRow.lt h g rfl).1
  obtain ⟨d, hd⟩ : ∃ d : Array F31, d = (L.map toF).toArray := ⟨_, rfl⟩
  have hds : d.size = L.length := by rw [hd]; simp
  have hdt : d.toList = L.map toF := by rw [hd]
  have hpred : ∀ (W : World) (x : F31), Nums W fv fl → W.cell? ⟨fb, 0, none⟩ = some fv → FnGives Tryz.prog 171 #[.pointer (some ⟨fb, 0, none⟩)] #[enF x] (.bool (!keepF fl ((x.val : Nat) : Int))) W := fun W x h1 h2 => by
    show Calls Tryz.prog 171 #[.int .i64 ((x.val : Nat) : Int), .pointer (some ⟨fb, 0, none⟩)] W _
    refine (gives_fresh ((x.val : Nat) : Int) (by omega) (by have := x.isLt; omega) fb fv fl W h1 h2).mono ?_
    rintro e w' ⟨rfl, rfl⟩
    exact ⟨rfl, 0, rfl⟩
  have hfS : ∀ (W : World) , Fr [g] w W → Nums W fv fl ∧ W.cell? ⟨fb, 0, none⟩ = some fv := fun W hW => by
    refine ⟨?_, cell_keep hc (hW.block fb (lt_of_cell hc) (by simp; omega))⟩
    by_cases e : fl = []
    · subst e
      rcases hf with hf | ⟨g', o', c', rfl, h1, h2, _⟩
      · exact Or.inl hf
      · exact Or.inr ⟨g', o', c', rfl, h1, h2, by simp⟩
    · exact hf.keepFr hW (fun g' o' c' hv => by have := hfB g' o' c' hv e; simp; omega)
  have hH : Holds enF w g 0 d := fun j hj => by
    have hj' : j < L.length := by omega
    have hz := h30 L[j] (List.getElem_mem hj')
    refine ⟨?_, by simpa using own_frozen h (g := g) rfl j⟩
    have e1 : d[j]! = toF L[j] := by rw [getElem!_pos _ j hj]; simp [hd]
    rw [e1, (enF_toF hz.1 hz.2).1]
    have := own_cell h (g := g) rfl (j := j) (u := .int .i64 L[j]) (by simp [I64, List.getElem?_eq_getElem hj'])
    simpa using this
  have K := AnyE.slices_DeleteFunc laysDF enF (fun _ => rfl) (fun x => !keepF fl ((x.val : Nat) : Int)) 171 #[.pointer (some ⟨fb, 0, none⟩)] (enters_of Tryz.func171 (by kernel_rfl) rfl) (toF 0) Tryz.zeroValue3 g 0 cap d w
    (fun W x hb => hpred W x (hfS W ((Fr.ofBelow hb).mono (by simp))).1 (hfS W ((Fr.ofBelow hb).mono (by simp))).2)
    (fun n os dk x hdk => hpred _ x (hfS _ ((fr_putRowG enF w g 0 n dk).tr (fr_grow _ _ _))).1 (hfS _ ((fr_putRowG enF w g 0 n dk).tr (fr_grow _ _ _))).2) hH (by omega) (by omega)
  rw [hds] at K
  refine K.mono ?_
  rintro e w' ⟨rfl, q, rfl⟩
  obtain ⟨R, hR⟩ : ∃ R : List F31, R = d.toList.filter fun x => !!keepF fl ((x.val : Nat) : Int) := ⟨_, rfl⟩
  have hRL : L.filter (keepF fl) = R.map (fun x => ((x.val : Nat) : Int)) := by
    rw [hR, hdt]
    clear hR hdt hds hd K hH h hL hpos hl hcap
    induction L with
    | nil => rfl
    | cons z L ih =>
      have hz := h30 z (by simp)
      have e1 := (enF_toF hz.1 hz.2).2
      have ih := ih (fun y hy => h30 y (by simp [hy]))
      simp only [List.map_cons, List.filter_cons, e1, Bool.not_not]
      simp only [Bool.not_not] at ih
      by_cases ck : keepF fl z = true
      · rw [if_pos ck, if_pos ck, List.map_cons, e1, ih]
      · rw [if_neg ck, if_neg ck, ih]
  rw [← hR]
  have hRl : R.length ≤ L.length := by rw [hR, hdt]; exact Nat.le_trans (List.length_filter_le _ _) (by simp)
  have f1 := fr_putRowG enF w g 0 q (R ++ List.replicate (L.length - R.length) (toF 0)).toArray
  obtain ⟨cur, hcur⟩ := own_kind h (k := g) rfl
  have hcs : cur.size = cap := by
    rcases h.2 with ⟨hv, _⟩ | ⟨g', cap', cur', hv, _, hg', _, _, h3, _⟩
    · cases hv
    · cases hv; rw [hcur] at hg'; cases hg'; omega
  have hcm : cap ≤ maxLen := by
    rcases h.2 with ⟨hv, _⟩ | ⟨g', cap', cur', hv, _, hg', _, h2, _, _⟩
    · cases hv
    · cases hv; exact h2
  obtain ⟨cur', hcur', hcs'⟩ := putRow_blk enF w g 0 q (R ++ List.replicate (L.length - R.length) (toF 0)).toArray hcur
  have hh := holds_putRow enF (Sort.ahead w q) g 0 d (R ++ List.replicate (L.length - R.length) (toF 0)).toArray (holds_ahead _ _ _ _ _ _ hH) (by simp; omega)
  generalize putRow enF (Sort.ahead w q) g 0 (R ++ List.replicate (L.length - R.length) (toF 0)).toArray = W9 at *
  refine ⟨_, _, _, rfl, ?_, rfl, f1⟩
  have e2 : R.length = (L.filter (keepF fl)).length := by rw [hRL]; simp
  rw [e2]
  refine ints_of_cells hcur' hgB (by omega) (by rw [← e2]; omega) hcm (fun j z hj => ?_)
  rw [hRL] at hj
  have hjR : j < R.length := by have := (List.getElem?_eq_some_iff.1 hj).1; simpa using this
  have h9 := (hh j (by simp; omega)).1
  rw [Nat.zero_add] at h9
  rw [h9]
  have e3 : (R ++ List.replicate (L.length - R.length) (toF 0)).toArray[j]! = R[j] := by
    rw [getElem!_pos _ j (by simp; omega)]; simp [hjR]
  rw [e3]
  rw [List.getElem?_map, List.getElem?_eq_getElem hjR] at hj
  cases hj; rfl
end Go.Proofs.YtpgppnmobbgefaaGreatDoor

/- The contract of Targets, the walk. -/
namespace Go.Proofs.YtpgppnmobbgefaaGreatDoor
open Go.RowKit Go.Maps

/-- A row of a row of rows is changed, and laid anew in its place. -/
theorem RR.put {B : Nat} {w w1 : World} {g m : Nat} {ls : List (List Int)} {us : List Value} {j : Nat} {u u' : Value} {l' : List Int} (h : RR B w (.slice (some ⟨g, 0, none⟩) ls.length m) ls us) (hu : us[j]? = some u) (hf : Fr u.ownBlock.toList w w1) (hr : Ints B w1 u' l') (hp : u'.ownBlock = u.ownBlock) :
    RR B (w1.setCell ⟨g, j, none⟩ u') (.slice (some ⟨g, 0, none⟩) ls.length m) (ls.set j l') (us.set j u') := by
  obtain ⟨l, hl, hul⟩ := h.pick hu
  have hj : j < us.length := (List.getElem?_eq_some_iff.1 hu).1
  have hgu : g ∉ u.ownBlock.toList := fun c => own_apart hul h.row (show (3 : Nat) ≠ 31 by decide) (k := g) (by simpa using c) rfl
  have hgl : g < w.heap.size := (World.ownsRow.lt h.row g rfl).2
  have row1 : w1.ownsRow B 31 1 (.slice (some ⟨g, 0, none⟩) ls.length m) ls.length us := own_keep h.row (fun k hk => by cases hk; exact hf.block g hgl hgu)
  have row2 := own_set row1 (g := g) rfl (j := j) u'
  have kp : ∀ (x : Value) (ll : List Int), Ints B w1 x ll → Ints B (w1.setCell ⟨g, j, none⟩ u') x ll := fun x ll hx => own_keep hx (fun k hk => Below.heap_setCell _ _ _ _ (fun c => by
    have c : k = g := c
    subst c
    exact own_apart hx row1 (show (3 : Nat) ≠ 31 by decide) hk rfl))
  refine ⟨by simpa using h.ul, by simpa using row2, ?_, ?_⟩
  · intro i ll x hll hx
    by_cases c : j = i
    · subst c
      rw [List.getElem?_set_self hj] at hx
      rw [List.getElem?_set_self (by rw [← h.ul]; exact hj)] at hll
      cases hx; cases hll
      exact kp _ _ hr
    · rw [List.getElem?_set_ne c] at hx hll
      have hx0 := h.un i ll x hll hx
      exact kp _ _ (own_keep hx0 (fun k hk => hf.block k (World.ownsRow.lt hx0 k hk).2 (fun q => c (h.apart j i u x k hu hx (by simpa using q) hk))))
  · intro a b x y k ha hb k1 k2
    have cs : ∀ (a : Nat) (x : Value), (us.set j u')[a]? = some x → x.ownBlock = some k → ∃ x0, us[a]? = some x0 ∧ x0.ownBlock = some k := fun a x ha hk => by
      by_cases c : j = a
      · subst c
        rw [List.getElem?_set_self hj] at ha
        cases ha
        exact ⟨u, hu, by rw [← hp]; exact hk⟩
      · rw [List.getElem?_set_ne c] at ha
        exact ⟨x, ha, hk⟩
    obtain ⟨x0, a1, a2⟩ := cs a x ha k1
    obtain ⟨y0, b1, b2⟩ := cs b y hb k2
    exact h.apart a b x0 y0 k a1 b1 a2 b2
/-- The rows of targets, the first ones already looked through. -/
def tgtJ (ls : List (List Int)) (fl : List Int) (j : Nat) : List (List Int) := (ls.take j).map (fun l => l.filter (keepF fl)) ++ ls.drop j
theorem tgtJ_step {ls : List (List Int)} {fl : List Int} {j : Nat} {l : List Int} (h : ls[j]? = some l) : (tgtJ ls fl j)[j]? = some l ∧ (tgtJ ls fl j).set j (l.filter (keepF fl)) = tgtJ ls fl (j + 1) := by
  have hj := (List.getElem?_eq_some_iff.1 h).1
  have hlen : ((ls.take j).map (fun l => l.filter (keepF fl))).length = j := by simp; omega
  have hd : ls.drop j = l :: ls.drop (j + 1) := by
    rw [List.drop_eq_getElem_cons hj]; congr 1; exact (List.getElem?_eq_some_iff.1 h).2
  unfold tgtJ
  constructor
  · rw [List.getElem?_append_right (by omega), hlen, hd]; simp
  · rw [List.set_append_right _ _ (by omega), hlen, hd, List.take_add_one, h]; simp
theorem tgtJ_len (ls : List (List Int)) (fl : List Int) (j : Nat) : (tgtJ ls fl j).length = ls.length := by unfold tgtJ; simp; omega
theorem rsl_small {T : List Nd} (hw : Wd T) (hs : Sm T) : ∀ x, x < T.length → ∀ z ∈ rsl T x, 0 ≤ z ∧ z ≤ 30 := by
  obtain ⟨g1, g2, g3, g4, g5⟩ := hw.facts
  rw [g2]
  have hpos : ∀ x, x < 2 * nlv T - 1 → pos (ndAt T x) = true → ∀ z ∈ rsl T x, 0 ≤ z ∧ z ≤ 30 := fun x hx hp z hz => by
    rw [rsl_pos hp] at hz
    rcases List.mem_cons.1 hz with rfl | hz
    · omega
    · obtain ⟨u, hu, rfl⟩ := List.mem_map.1 hz
      have := (hs x (by omega)).2 u hu; omega
  refine node_ind g1 (fun x hx ho => ?_) (fun x hx ho i1 i2 => ?_)
  · cases hp : pos (ndAt T x)
    · rw [rsl_leaf hp ho]; simp
    · exact hpos x hx hp
  · cases hp : pos (ndAt T x)
    · rw [rsl_par g1 hx hp ho]; intro z hz; rcases List.mem_append.1 hz with h | h
      · exact i1 z h
      · exact i2 z h
    · exact hpos x hx hp
def tgtR (T : List Nd) (i : Int) (fl : List Int) : List (List Int) := if askE T i = 0 then tgt T i.toNat fl else []
set_option maxRecDepth 100000 in
set_option maxHeartbeats 4000000 in
theorem targets_any {w : World} {v fv : Value} {T : List Nd} {fl : List Int} (h : Trd w v T) (hfv : Nums w fv fl) (hT : Tab w) (li : Int) :
    Calls Tryz.prog 33 #[.agg #[v], .int .i64 li, fv] w fun e w' => ∃ r us, e = .returned (.tuple #[r, .int .i64 (askE T li)]) ∧ RR w.heap.size w' r (tgtR T li fl) us ∧ Below w.heap.size w w' := by
  obtain ⟨fa, fc, hfe⟩ := nums_slice hfv
  subst hfe
  obtain ⟨FL, hFL⟩ : ∃ FL, FL = fl.length := ⟨_, rfl⟩
  rw [← hFL] at hfv ⊢
  have HFL := hide hFL
  clear hFL
  obtain ⟨W0, hW0⟩ : ∃ W0, W0 = (bxw w (v)).alloc (.cells #[.slice fa FL fc] 31) := ⟨_, rfl⟩
  have hb0 : Below w.heap.size w W0 := by rw [hW0]; exact (bwA _ _).alloc (by simp) _
  have hs0 : W0.heap.size = w.heap.size + 2 := by rw [hW0]; simp
  have HB : Hid (∀ W, Below W0.heap.size W0 W → W.cell? ⟨w.heap.size, 0, none⟩ = some v ∧ W.cell? ⟨w.heap.size + 1, 0, none⟩ = some (.slice fa FL fc) ∧ Below w.heap.size w W) := fun W hW => by
    have e0 : W.heap[w.heap.size]? = some (.cells #[v] 24 (0, 0)) := by
      rw [hW.block _ (by omega), hW0, Below.heap_alloc _ _ _ (by simp)]; exact heap_alloc_new _ _
    have e2 : W.heap[w.heap.size + 1]? = some (.cells #[.slice fa FL fc] 31 (0, 0)) := by
      rw [hW.block _ (by omega), hW0]
      have := heap_alloc_new (bxw w v) (.cells #[.slice fa FL fc] 31)
      simpa using this
    exact ⟨cell_of_blk e0 rfl, cell_of_blk e2 rfl, bw_tr hb0 hW⟩
  have KM : Hid (∀ W, Below w.heap.size w W → Calls Tryz.prog 44 #[.agg #[v]] W fun e w' => e = .returned (.bool (mayB T)) ∧ Below W.heap.size W w') := fun W hW => mayBe_any (h.bw hW) (hT.bw hW)
  have KH : Hid (mayB T = true → ∀ W, Below w.heap.size w W → Calls Tryz.prog 168 #[.agg #[v], .int .i64 li] W fun e w' => e = .returned (.bool (hasL T li)) ∧ Below W.heap.size W w') := fun q W hW => hasLeaf_any (h.bw hW) (mayB_15 q).1 li
  have HLL : Hid (mayB T = true → hasL T li = true → (oth T li.toNat).length ≤ 3 ∧ ∀ l ∈ oth T li.toNat, l ≠ [] ∧ l.length ≤ 72 ∧ ∀ z ∈ l, 0 ≤ z ∧ z ≤ 30) := fun q q2 => by
    have h0 : 0 ≤ li := by
      apply Decidable.byContradiction; intro c; unfold hasL at q2; rw [decide_eq_false c] at q2; simp at q2
    obtain ⟨n, rfl⟩ : ∃ n : Nat, li = n := ⟨li.toNat, by omega⟩
    obtain ⟨h1, h2⟩ := hasL_pos q2
    have ok := mayB_okn q (nlv_pos (by omega))
    obtain ⟨g1, g2, g3, g4, g5⟩ := ok.wd.facts
    obtain ⟨d1, d2, d3, d4, d5, d6⟩ := up_of g1 h1
    rw [Int.toNat_natCast]
    refine ⟨by unfold oth; rw [List.length_map]; have := prs_len T n; have := up_len g1 h1; omega, fun l hl => ?_⟩
    unfold oth at hl
    obtain ⟨p, hp, rfl⟩ := List.mem_map.1 hl
    obtain ⟨_, hne, s, hs, e⟩ := prs_mem hp
    have hsl : s < T.length := by have := d6 s (List.of_mem_zip hs).2; omega
    refine ⟨hne, ?_, ?_⟩
    · rw [e]; exact rsl_72 ok.wd ok.sm hsl
    · rw [e]; exact rsl_small ok.wd ok.sm s hsl
  have KP : Hid (mayB T = true → hasL T li = true → ∀ W, Below w.heap.size w W → Calls Tryz.prog 169 #[.agg #[v], .int .i64 li] W fun e w' => ∃ nv ov us, e = .returned (.tuple #[nv, ov]) ∧ RR W.heap.size w' ov (oth T li.toNat) us ∧ Below W.heap.size W w') := fun q q2 W hW => by
    have h0 : 0 ≤ li := by
      apply Decidable.byContradiction; intro c; unfold hasL at q2; rw [decide_eq_false c] at q2; simp at q2
    obtain ⟨n, rfl⟩ : ∃ n : Nat, li = n := ⟨li.toNat, by omega⟩
    obtain ⟨h1, h2⟩ := hasL_pos q2
    have ok := mayB_okn q (nlv_pos (by omega))
    refine (path_any (h.bw hW) ok.wd ok.sm (hT.bw hW) h1).mono ?_
    rintro e w' ⟨nv, ov, us, rfl, hPI, hb⟩
    exact ⟨nv, ov, us, rfl, hPI.rr, hb⟩
  have HFV : Hid (∀ W, Below w.heap.size w W → Nums W (.slice fa FL fc) fl) := fun W hW => hfv.bw hW
  have HFB : Hid (∀ g o c, Value.slice fa FL fc = .slice (some ⟨g, o, none⟩) fl.length c → fl ≠ [] → g < w.heap.size) := fun g o c hv hne => by
    obtain ⟨g', o', c', hv', hc⟩ := hfv.open (List.length_pos_iff.2 hne)
    rw [hv] at hv'
    cases hv'
    obtain ⟨z, hz⟩ : ∃ z, fl[0]? = some z := ⟨_, List.getElem?_eq_getElem (List.length_pos_iff.2 hne)⟩
    exact lt_of_cell (a := ⟨g, o + 0, none⟩) (hc 0 z hz)
  obtain ⟨E, hEE⟩ : ∃ E, E = askE T li := ⟨_, rfl⟩
  have HTG : Hid (tgtR T li fl = if E = 0 then (oth T li.toNat).map (fun l => l.filter (keepF fl)) else []) := by unfold Hid tgtR tgt; rw [hEE]
  rw [← hEE]
  unfold askE at hEE
  have HE := hide hEE
  have HW : Hid (W0 = (w.alloc (.cells #[v] 24)).alloc (.cells #[.slice fa FL fc] 31)) := hW0
  have HS0 := hide hs0
  clear h hfv hT hW0 hs0 hEE
  generalize tgtR T li fl = TG at *
  generalize mayB T = p at *
  generalize hasL T li = q at *
  generalize oth T li.toNat = ls at *
  cases p
  · obtain rfl : E = 1 := by rw [unhide HE]; simp
    obtain rfl : TG = [] := by rw [unhide HTG]; simp
    clear KH KP HLL HE HTG
    go_enter Tryz.func33, Tryz.ntmps33
    go_wp2_with fail
    rw [← unhide HW]
    refine (unhide KM _ hb0).mono ?_
    rintro e W1 ⟨rfl, b1⟩
    have hb1 := (unhide HB _ b1).2.2
    go_wp2
    go_ret2
    exact ⟨_, [], rfl, rr_nil _ _, hb1⟩
  · have KH2 := hide (unhide KH rfl)
    have KP2 := hide (unhide KP rfl)
    have HLL2 := hide (unhide HLL rfl)
    clear KH KP HLL
    cases q
    · obtain rfl : E = 7 := by rw [unhide HE]; simp
      obtain rfl : TG = [] := by rw [unhide HTG]; simp
      clear KP2 HLL2 HE HTG
      go_enter Tryz.func33, Tryz.ntmps33
      go_wp2_with fail
      rw [← unhide HW]
      refine (unhide KM _ hb0).mono ?_
      rintro e W1 ⟨rfl, b1⟩
      obtain ⟨c0, c1, hb1⟩ := unhide HB _ b1
      go_wp2_with fail
      refine (unhide KH2 _ hb1).mono ?_
      rintro e W2 ⟨rfl, b2⟩
      have hb2 := bw_tr hb1 b2
      go_wp2
      go_ret2
      exact ⟨_, [], rfl, rr_nil _ _, hb2⟩
    · obtain rfl : E = 0 := by rw [unhide HE]; simp
      have HTG2 : Hid (TG = ls.map (fun l => l.filter (keepF fl))) := by unfold Hid; rw [unhide HTG]; simp
      have KP3 := hide (unhide KP2 rfl)
      obtain ⟨hl3, hlz⟩ := unhide HLL2 rfl
      have HLZ := hide hlz
      clear KP2 HLL2 HE HTG hlz
      obtain ⟨M, hM⟩ : ∃ M, M = ls.length := ⟨_, rfl⟩
      rw [← hM] at hl3
      have HM := hide hM
      clear hM
      go_enter Tryz.func33, Tryz.ntmps33
      go_wp2_with fail
      rw [← unhide HW]
      refine (unhide KM _ hb0).mono ?_
      rintro e W1 ⟨rfl, b1⟩
      obtain ⟨c0, c1, hb1⟩ := unhide HB _ b1
      go_wp2_with fail
      refine (unhide KH2 _ hb1).mono ?_
      rintro e W2 ⟨rfl, b2⟩
      have b3 := bw_tr b1 b2
      clear c0 c1 KM KH2 HW hb1
      obtain ⟨c0, c1, hb2⟩ := unhide HB _ b3
      go_wp2_with fail
      refine (unhide KP3 _ hb2).mono ?_
      rintro e W3 ⟨nv, ov, us, rfl, hRR, b4⟩
      obtain ⟨oa, oc, hoe⟩ := own_slice hRR.row
      rw [← unhide HM] at hoe
      subst hoe
      have b5 := bw_tr b3 b4
      have hRR0 := hRR.mono b3.size
      have HI : Hid (RR W0.heap.size W3 (.slice oa M oc) (tgtJ ls fl 0) us ∧ Below W0.heap.size W0 W3) := ⟨by unfold tgtJ; simpa using hRR0, b5⟩
      clear c0 c1 KP3 hb2 b4 b3 b2 hRR hRR0 b1 b5
      go_wp2_with fail
      go_loopw [27] (fun iv wr => ∃ (j : Nat) (us' : List Value), iv = .int .i64 (j : Int) ∧ j ≤ M ∧ Hid (RR W0.heap.size wr (.slice oa M oc) (tgtJ ls fl j) us' ∧ Below W0.heap.size W0 wr)) (fun iv _ => (M - (intOf iv)).toNat)
      case atStart => exact ⟨0, us, rfl, by omega, HI⟩
      case round =>
        clear HI
        obtain ⟨j, us', rfl, hj, hI⟩ := hrel
        obtain ⟨hR, hBl⟩ := unhide hI
        obtain ⟨c0, c1, hbw⟩ := unhide HB _ hBl
        by_cases hlt : j < M
        · obtain ⟨l, hl⟩ : ∃ l, ls[j]? = some l := ⟨_, List.getElem?_eq_getElem (by have := unhide HM; omega)⟩
          obtain ⟨s1, s2⟩ := tgtJ_step (fl := fl) hl
          obtain ⟨hz1, hz2, hz3⟩ := unhide HLZ l (List.mem_of_getElem? hl)
          obtain ⟨u, hu⟩ : ∃ u, us'[j]? = some u := ⟨_, List.getElem?_eq_getElem (by rw [hR.ul, tgtJ_len]; have := unhide HM; omega)⟩
          have hul := hR.un j l u s1 hu
          have hlM : (tgtJ ls fl j).length = M := by rw [tgtJ_len]; exact (unhide HM).symm
          have hrow := hR.row
          rw [hlM] at hrow
          obtain ⟨g, cap, hoe, hgl, _, hfz⟩ := own_open hrow (by omega)
          cases hoe
          have k1 : wr.cell? ⟨g, j, none⟩ = some u := own_cell hrow rfl hu
          have hs0 := unhide HS0
          have KD := hide (delete_fresh hul hz1 hz3 (unhide HFV _ hbw) (fun g o c hv hne => by have := unhide HFB g o c hv hne; omega) c1 (by omega) (by omega))
          obtain ⟨ua, uc, rfl⟩ := own_slice hul
          have HS := hide (And.intro s2 (And.intro hu hlM))
          have hRh := hide hR
          have q1 : (j : Int) < (M : Int) := by omega
          have q0 : (0 : Int) ≤ (j : Int) := by omega
          have hM3 : (M : Int) ≤ 3 := by omega
          generalize l.length = ll at *
          clear hR s1 s2 hl hz1 hz2 hz3 hu hrow hlM hs0 hI hul c0
          go_wp2_with fail
          refine (unhide KD).mono ?_
          rintro e w5 ⟨a5, m5, c5, rfl, h5, hp5, f5⟩
          have hgu : g ∉ (Value.slice ua ll uc).ownBlock.toList := fun c => by
            obtain ⟨lq, _, hq⟩ := (unhide hRh).pick (unhide HS).2.1
            exact own_apart hq (unhide hRh).row (show (3 : Nat) ≠ 31 by decide) (k := g) (by simpa using c) rfl
          have k2 : w5.cell? ⟨g, j, none⟩ = some (.slice ua ll uc) := cell_keep k1 (f5.block g hgl hgu)
          have k3 : w5.frozen? ⟨g, j, none⟩ = false := by
            have := own_frozen (unhide hRh).row (g := g) rfl j
            unfold World.frozen? at *; rw [f5.block g hgl hgu]; exact this
          have HN : Hid (RR W0.heap.size (w5.setCell ⟨g, j, none⟩ (.slice a5 m5 c5)) (.slice (some ⟨g, 0, none⟩) M oc) (tgtJ ls fl (j + 1)) (us'.set j (.slice a5 m5 c5)) ∧ Below W0.heap.size W0 (w5.setCell ⟨g, j, none⟩ (.slice a5 m5 c5))) := by
            have hR := unhide hRh
            rw [← (unhide HS).2.2] at hR
            have := hR.put (unhide HS).2.1 f5 h5 hp5
            rw [(unhide HS).1, (unhide HS).2.2] at this
            refine ⟨this, (Fr.toBase hBl f5 (fun k hk => ?_)).setCell (World.ownsRow.lt (unhide hRh).row g rfl).1 _⟩
            obtain ⟨lq, _, hq⟩ := (unhide hRh).pick (unhide HS).2.1
            exact (World.ownsRow.lt hq k (by simpa using hk)).1
          clear h5 hp5 f5 hRh KD hBl hbw
          go_wp2_with fail
          generalize w5.setCell ⟨g, j, none⟩ (.slice a5 m5 c5) = W6 at *
          go_roundw
          case rel => exact ⟨j + 1, _, by go_num, by omega, HN⟩
          case measure => simp [intOf]; omega
        · obtain rfl : j = M := by omega
          have e9 : tgtJ ls fl j = TG := by
            rw [unhide HTG2]; unfold tgtJ
            rw [List.take_of_length_le (by have := unhide HM; omega), List.drop_of_length_le (by have := unhide HM; omega)]; simp
          rw [e9] at hR
          have hs0 := hb0.size
          have hRh := hide (hR.mono hs0)
          clear hR hI e9 hBl
          go_wp2_with fail
          go_ret2
          exact ⟨_, _, rfl, unhide hRh, hbw⟩
end Go.Proofs.YtpgppnmobbgefaaGreatDoor
