/- Texts joined: PoH PoI. -/
import Derived.Test.YtgmlkofogeoocaaGreatDoorPoG
import Derived.Test.YtgmlkofogeoocaaGreatDoorZ18
import Derived.Great.BuildSlice
import Derived.Deep.RegionLaw
/- Mail is put into a box; Put, Close, Done. -/
namespace Go.Proofs.YtgmlkofogeoocaaGreatDoor
open Go.RowKit Go.Maps
theorem step_appM {P : Program} {ops : Array Oper} {o : Oper} {a : Act} {w : World} {K : Act → World → Prop} {Q : Exit → Act → World → Prop} {E : Prop}
    (hg : o.guard = none) (s x : Operand) (t : TypeId) (hop : o.op = Op.call { callee := Callee.builtin Builtin.append, args := #[s, x], argTypes := #[t, t] })
    (base : Nat) (e : TypeId) (i : TypeInfo) (z : Value) (size bytes : Nat) (ht : P.underlying t = some (.slice e)) (hi : P.info? e = some i) (hz : i.zero = some z)
    (hsize : i.size = size) (hby : i.bytes = bytes) (hzs : z.cells.size = size) (hsz : 0 < size)
    (v : Value) (n : Nat) (xs : List Value) (hs : a.eval s = v) (hown : w.ownsRow base e size v n xs)
    (ad : Addr) (m c : Nat) (news : List Value) (hx : a.eval x = .slice (some ad) m c) (hl : news.length = m * size) (hnews : ∀ j u, news[j]? = some u → w.cell? (ad.add j) = some u) (h1 : ∀ u ∈ news, u.oneCell' = true)
    (h63 : n + m ≤ maxLen) (hbytes : (n + m) * bytes ≤ 140737488355328) (hbase : base ≤ w.heap.size)
    (hK : ∀ v' w', w'.ownsRow base e size v' (n + m) (xs ++ news) → w.grownBy w' v.ownBlock → (v'.ownBlock = v.ownBlock ∨ v'.ownBlock = some w.heap.size) → K (a.put o.dst v') w') :
    if Region.wanted o (yielded ops a.tmps) = true then Oper.wp P o a w K Q else E := by
  have hw : Region.wanted o (yielded ops a.tmps) = true := by simp [Region.wanted, hg]
  rw [if_pos hw]
  obtain ⟨v', w', hr, h2, h3, _, h5⟩ := run_append_own_at (P := P) w base t o.type e i z size bytes ht hi hz hsize hby hzs hsz v n xs hown ad m c news hl hnews h1 h63 hbytes hbase
  unfold Oper.wp
  simp [execOp, hop, resolve, invoke, builtin, hs, hx, hr, Result.andThen]
  exact hK v' w' h2 h3 h5
theorem get_snocM {α : Type} {l : List α} {a b : α} {i : Nat} (h : (l ++ [a])[i]? = some b) : (i < l.length ∧ l[i]? = some b) ∨ (i = l.length ∧ b = a) := by
  rcases Nat.lt_or_ge i l.length with c | c
  · rw [List.getElem?_append_left c] at h; exact Or.inl ⟨c, h⟩
  · rw [List.getElem?_append_right c] at h
    rcases Nat.eq_zero_or_pos (i - l.length) with d | d
    · rw [d] at h; simp at h; exact Or.inr ⟨by omega, h.symm⟩
    · rw [List.getElem?_eq_none (by simp; omega)] at h; cases h
theorem cellK_snocM {α ξ : Type} {K : EK α ξ} {l : List α} {xs : List ξ} (hl : xs.length = l.length) (a : α) (x : ξ) : cellK K (l ++ [a]) (xs ++ [x]) = cellK K l xs ++ K.C a x := by
  unfold cellK rowsK
  rw [List.zipWith_append hl.symm]
  simp
theorem OwL.snocK {α ξ : Type} {K : EK α ξ} {B : Nat} {w1 w3 w4 : World} {v v' : Value} {l : List α} {xs : List ξ} {c : α} {x : ξ} (ho : OwL K B w1 v l xs) (hb : Below w1.heap.size w1 w3) (hB : B ≤ w1.heap.size) (hc : K.O w1.heap.size w3 c x)
    (hrow : w4.ownsRow B K.t K.c v' (l.length + 1) (cellK K l xs ++ K.C c x)) (hg : w3.grownBy w4 v.ownBlock) (hv : v'.ownBlock = v.ownBlock ∨ v'.ownBlock = some w3.heap.size) : OwL K B w4 v' (l ++ [c]) (xs ++ [x]) := by
  have hf := Fr.ofGrown hg
  have kp : ∀ (i : Nat) (a : α) (y : ξ), l[i]? = some a → xs[i]? = some y → K.O B w4 a y := fun i a y ha hy => K.keep _ _ _ _ _ (ho.el i a y ha hy) (fun z hz => by
    have h1 := (ho.lt z (zK_el hy hz)).2
    rw [hf.block z (Nat.lt_of_lt_of_le h1 hb.size) (fun q => ho.self z i y (by simpa using q) hy hz), hb.block z h1])
  have hcn : K.O w1.heap.size w4 c x := K.keep _ _ _ _ _ hc (fun z hz => by
    have h1 := K.lt _ _ _ _ hc z hz
    refine hf.block z h1.2 (fun q => ?_)
    have := (World.ownsRow.lt ho.row z (by simpa using q)).2
    omega)
  have hlt : ∀ (i : Nat) (y : ξ) (z : Nat), xs[i]? = some y → z ∈ K.Z y → z < w1.heap.size := fun i y z hy hz => (ho.lt z (zK_el hy hz)).2
  refine ⟨by simp [ho.xl], ?_, fun i a y ha hy => ?_, fun i j y y' z hy hy' hz hz' => ?_, fun z i y hz hy hzy => ?_⟩
  · rw [cellK_snocM ho.xl, List.length_append]; exact hrow
  · rcases get_snocM ha with ⟨h1, h2⟩ | ⟨h1, h2⟩
    · rcases get_snocM hy with ⟨h3, h4⟩ | ⟨h3, h4⟩
      · exact kp i a y h2 h4
      · rw [ho.xl] at h3; omega
    · rcases get_snocM hy with ⟨h3, h4⟩ | ⟨h3, h4⟩
      · rw [ho.xl] at h3; omega
      · subst h2 h4; exact K.mono _ _ _ _ _ hcn hB
  · rcases get_snocM hy with ⟨h1, h2⟩ | ⟨h1, h2⟩ <;> rcases get_snocM hy' with ⟨h3, h4⟩ | ⟨h3, h4⟩
    · exact ho.ap i j y y' z h2 h4 hz hz'
    · subst h4; have h5 := hlt i y z h2 hz; have h6 := (K.lt _ _ _ _ hc z hz').1; omega
    · subst h2; have h5 := hlt j y' z h4 hz'; have h6 := (K.lt _ _ _ _ hc z hz).1; omega
    · omega
  · rcases get_snocM hy with ⟨h1, h2⟩ | ⟨h1, h2⟩
    · rcases hv with q | q
      · exact ho.self z i y (by rw [← q]; exact hz) h2 hzy
      · rw [q] at hz; cases hz
        have := hlt i y _ h2 hzy
        have := hb.size
        omega
    · subst h2
      have h5 := K.lt _ _ _ _ hc z hzy
      rcases hv with q | q
      · have := (World.ownsRow.lt ho.row z (by rw [← q]; exact hz)).2; omega
      · rw [q] at hz; cases hz; omega
theorem foldz (cs : List Value) : ∀ (A : Array Value) (i : Nat), (cs.zipIdx i).foldl (fun acc (p : Value × Nat) => acc.setIfInBounds (0 + p.2) p.1) A = pk A i cs := by
  induction cs with
  | nil => intro A i; rfl
  | cons v r ih => intro A i; rw [List.zipIdx_cons, List.foldl_cons, ih]; simp [pk]
theorem fill_one {n : Nat} {Z : Array Value} {cs : List Value} (hc : cs.length = n) (hz : Z.size = n) : Instr.fill (fun i => some (i * n, n)) Z [(0, .agg cs.toArray)] = some cs.toArray := by
  have e : (Value.agg cs.toArray).cells = cs.toArray := rfl
  have h1 : (cs.toArray.zipIdx.foldl (fun acc (p : Value × Nat) => acc.setIfInBounds (0 + p.2) p.1) Z) = cs.toArray := by
    rw [← Array.foldl_toList, Array.toList_zipIdx]
    have := foldz cs Z 0
    simp only at this ⊢
    rw [this, pk_all (by rw [hc, hz])]
  simp only [Instr.fill, e, Nat.zero_mul]
  rw [if_neg (by simp; omega)]
  exact congrArg some h1
theorem step_loadM {P : Program} {ops : Array Oper} {o : Oper} {a : Act} {w : World} {K : Act → World → Prop} {Q : Exit → Act → World → Prop} {E : Prop} (hg : o.guard = none) (ty : TypeId) (x : Operand) (hop : o.op = .load ty x)
    (b off : Nat) (hx : a.eval x = .pointer (some ⟨b, off, none⟩)) (cs : List Value) (d : TypeDesc) (hc : w.rangeAt b off cs) (hu : P.underlying ty = some d) (hd : d.isRow = true) (hi : (P.info? ty).map (·.size) = some cs.length)
    (h : K (a.put o.dst (.agg cs.toArray)) w) : if Region.wanted o (yielded ops a.tmps) = true then Oper.wp P o a w K Q else E := by
  have hw : Region.wanted o (yielded ops a.tmps) = true := by simp [Region.wanted, hg]
  rw [if_pos hw]
  exact wp_load_mid ty x hop b off hx cs d hc hu hd hi h
theorem step_buildM {P : Program} {ops : Array Oper} {o : Oper} {a : Act} {w : World} {K : Act → World → Prop} {Q : Exit → Act → World → Prop} {E : Prop} (hg : o.guard = none) (t e : TypeId) (x : Operand) (hop : o.op = .buildSlice t 1 #[(0, x)])
    (cs : List Value) (hx : a.eval x = .agg cs.toArray) (ie : TypeInfo) (z : Value) (hu : P.underlying t = some (.slice e)) (hie : P.info? e = some ie) (hz : ie.zero = some z) (hs : ie.size = cs.length) (hc : 0 < cs.length) (hm : cs.length ≤ 1000)
    (h : K (a.put o.dst (.slice (some ⟨w.heap.size, 0, none⟩) 1 1)) (w.alloc (.cells cs.toArray e))) : if Region.wanted o (yielded ops a.tmps) = true then Oper.wp P o a w K Q else E := by
  have hw : Region.wanted o (yielded ops a.tmps) = true := by simp [Region.wanted, hg]
  rw [if_pos hw]
  refine wp_buildSlice t e 1 #[(0, x)] hop cs.toArray ie z hu hie hz (by rw [hs]; omega) (by rw [hs]; omega) ?_ h
  rw [hs]
  have : (#[(0, x)].map fun (p : Nat × Operand) => (p.1, a.eval p.2)).toList = [(0, .agg cs.toArray)] := by simp [hx]
  rw [show (#[(0, x)].map fun (i, x) => (i, a.eval x)).toList = [(0, Value.agg cs.toArray)] from this]
  exact fill_one rfl (by simp)
theorem cells_newM (w : World) (cs : List Value) (t : TypeId) : ∀ j u, cs[j]? = some u → (w.alloc (.cells cs.toArray t)).cell? ((⟨w.heap.size, 0, none⟩ : Addr).add j) = some u := by
  intro j u hj
  have e : (⟨w.heap.size, 0, none⟩ : Addr).add j = ⟨w.heap.size, j, none⟩ := by unfold Addr.add; by_cases hz : j = 0 <;> simp [hz]
  rw [e]
  exact blk_c (heap_alloc_new _ _) (by simpa using hj)
theorem OwL.bmore {B g n cap : Nat} {w w3 w4 : World} {l : List Bx} {xs : List (Value × List Mx)} (ho : OwL kBx B w (.slice (some ⟨g, 0, none⟩) n cap) l xs) {k : Nat} {b : Bx} {cv cv' : Value} {ys : List Mx} {m : Ml} {x : Mx} (hb : l[k]? = some b) (hx : xs[k]? = some (cv, ys)) (hbw : Below w.heap.size w w3) (hB : B ≤ w.heap.size) (hc : OM w.heap.size w3 m x)
    (hrow : w4.ownsRow B 50 30 cv' (b.ml.length + 1) (cellK kMl b.ml ys ++ mlC m x)) (hg : w3.grownBy w4 cv.ownBlock) (hv : cv'.ownBlock = cv.ownBlock ∨ cv'.ownBlock = some w3.heap.size) :
    OwL kBx B (w4.setCell ⟨g, k * 4 + 2, none⟩ cv') (.slice (some ⟨g, 0, none⟩) n cap) (l.set k { b with ml := b.ml ++ [m] }) (xs.set k (cv', ys ++ [x])) ∧ (∀ (m0 : Nat) (u : World), m0 ≤ B → Below m0 u w → Below m0 u (w4.setCell ⟨g, k * 4 + 2, none⟩ cv')) ∧ w4.heap[g]? = w.heap[g]? := by
  have hf := Fr.ofGrown hg
  have hgo : (Value.slice (some ⟨g, 0, none⟩) n cap).ownBlock = some g := rfl
  have hgl := World.ownsRow.lt ho.row g hgo
  have hck : OwL kMl B w cv b.ml ys := ho.el k b _ hb hx
  have hsn : OwL kMl B w4 cv' (b.ml ++ [m]) (ys ++ [x]) := OwL.snocK (K := kMl) hck hbw hB hc hrow hg hv
  have hgcv : cv.ownBlock ≠ some g := fun q => ho.self g k _ hgo hx (zK_row (K := kMl) q)
  have kp : ∀ z, z < w.heap.size → cv.ownBlock ≠ some z → w4.heap[z]? = w.heap[z]? := fun z hz hn => by
    rw [hf.block z (Nat.lt_of_lt_of_le hz hbw.size) (fun q => hn (by simpa using q)), hbw.block z hz]
  have hZ : ∀ z ∈ zK kMl cv' (ys ++ [x]), z ∈ zK kMl cv ys ∨ w.heap.size ≤ z := fun z hz => by
    rcases zK_cases hz with q | ⟨i, y, hy, q⟩
    · rcases hv with r | r
      · exact Or.inl (zK_row (by rw [← r]; exact q))
      · rw [r] at q; cases q; exact Or.inr hbw.size
    · rcases get_snocM hy with ⟨_, h2⟩ | ⟨_, h2⟩
      · exact Or.inl (zK_el h2 q)
      · subst h2; exact Or.inr (OM.lt hc z q).1
  have hgz : g ∉ zK kMl cv' (ys ++ [x]) := fun q => by
    rcases hZ g q with r | r
    · exact ho.self g k _ hgo hx r
    · omega
  refine ⟨OwL.put (K := kBx) (w' := w4) (j := 2) (u := cv') (a' := { b with ml := b.ml ++ [m] }) (x' := (cv', ys ++ [x])) ho hgo hb hx (by decide) rfl (OwL.keep hsn (fun z hz => other_c (fun q => hgz (by rw [← q]; exact hz)))) hZ (fun z hz hn => kp z hz (fun q => hn (zK_row (K := kMl) q))), fun m0 u hm hu => ?_, kp g hgl.2 hgcv⟩
  refine Below.setCell ?_ (by show m0 ≤ g; omega) _
  refine (hu.trans (Below.mono hbw (Nat.le_trans hm hB))).grown hg (by have := hbw.size; omega) (fun z hz => ?_)
  have := (World.ownsRow.lt hck.row z hz).1
  omega
def putE (b : Bx) : Int := if b.out = true then 11 else 0
def putN (m : Ml) (b : Bx) : Bx := { b with ml := b.ml ++ [m] }
set_option maxRecDepth 100000 in
set_option maxHeartbeats 8000000 in
theorem put1_any {B g n cap bm : Nat} {w : World} {l : List Bx} {xs : List (Value × List Mx)} (ho : OwL kBx B w (.slice (some ⟨g, 0, none⟩) n cap) l xs) {k : Nat} {b : Bx} (hb : l[k]? = some b) {m : Ml} {x : Mx} (hm : w.heap[bm]? = some (.cells (mlC m x).toArray 50 (0, 0))) (hR : MlR w m x) (hs : SmM m) (hn : b.ml.length ≤ 1073741824) (hB : B ≤ w.heap.size) :
    Calls Tryz.prog 75 #[.pointer (some ⟨g, k * 4, none⟩), .pointer (some ⟨bm, 0, none⟩)] w fun e w' => ∃ er, e = .returned (.int .i64 er) ∧ er = putE b ∧ (er = 0 → ∃ xs', OwL kBx B w' (.slice (some ⟨g, 0, none⟩) n cap) (l.set k (putN m b)) xs') ∧ ∀ (m0 : Nat) (u : World), m0 ≤ B → Below m0 u w → Below m0 u w' := by
  obtain ⟨j0, hj, hy0, hy1, hyb⟩ := info_parts infoKMail
  have hk : k < xs.length := by rw [ho.xl]; exact (List.getElem?_eq_some_iff.1 hb).1
  obtain ⟨⟨cv, ys⟩, hx⟩ : ∃ p, xs[k]? = some p := ⟨_, List.getElem?_eq_getElem hk⟩
  have c1 := ho.bcell (g := g) rfl hb hx 1 _ rfl
  have c2 : w.cell? ⟨g, k * 4 + 2, none⟩ = some cv := ho.bcell (g := g) rfl hb hx 2 _ rfl
  have bd : Below w.heap.size w w.drew := (Below.refl _ _).drew
  have oD := OwL.bw ho bd
  have hck : OwL kMl B w.drew cv b.ml ys := oD.el k b _ hb hx
  obtain ⟨ou, hou⟩ : ∃ z, z = b.out := ⟨_, rfl⟩
  have hE : putE b = if ou = true then 11 else 0 := by rw [hou]; rfl
  rw [hE]
  rw [← hou] at c1
  obtain ⟨ac, cc, hcv⟩ := own_slice hck.row
  obtain ⟨nc, hnc⟩ : ∃ z, z = b.ml.length := ⟨_, rfl⟩
  rw [← hnc] at hcv hn
  subst hcv
  have KF : Hid (Calls Tryz.prog 44 #[.agg (mlC m x).toArray] w.drew fun e w' => ∃ (x' : Mx) (cs' : List Value), e = .returned (.agg cs'.toArray) ∧ Hid (cs'.length = 30 ∧ (∀ u ∈ cs', u.oneCell' = true) ∧ OM w.drew.heap.size w' m x' ∧ mlC m x' = cs') ∧ Below w.drew.heap.size w.drew w') := by
    refine Calls.mono (frMail_any (hR.bw bd) hs) ?_
    rintro e w' ⟨x', rfl, h1, h2⟩
    exact ⟨x', _, rfl, ⟨rfl, ml_one (OM.rd h1 hs), h1, rfl⟩, h2⟩
  have rng : w.drew.rangeAt bm 0 (mlC m x) := blk_rng (W := w.drew) hm (fun j u hu => by rw [Nat.zero_add]; exact hu)
  have hcl : (mlC m x).length = 30 := rfl
  obtain ⟨CS, hCS⟩ : ∃ z, z = mlC m x := ⟨_, rfl⟩
  rw [← hCS] at KF rng hcl
  have hi : (Tryz.prog.info? 50).map (·.size) = some CS.length := by rw [hcl]; exact infoMlS
  have HL := hide (And.intro rng hi)
  have HROW : Hid (∀ zz o, Below w.drew.heap.size w.drew zz → (zz.alloc o).ownsRow B 50 30 (.slice ac nc cc) nc (cellK kMl b.ml ys)) := fun zz o hz => by
    have := (hck.bw (bw_tr hz (bwA zz o))).row
    rw [← hnc] at this
    exact this
  have HBS : Hid (∀ zz o, Below w.drew.heap.size w.drew zz → B ≤ (zz.alloc o).heap.size) := fun zz o hz => Nat.le_trans hB (bw_tr hz (bwA zz o)).size
  have HDN : Hid (∀ zz w4 v4 x' cs', Below w.drew.heap.size w.drew zz → OM w.drew.heap.size zz m x' → mlC m x' = cs' → w4.ownsRow B 50 30 v4 (nc + 1) (cellK kMl b.ml ys ++ cs') → (zz.alloc (.cells cs'.toArray 50)).grownBy w4 (Value.slice ac nc cc).ownBlock → (v4.ownBlock = (Value.slice ac nc cc).ownBlock ∨ v4.ownBlock = some (zz.alloc (.cells cs'.toArray 50)).heap.size) →
      (∃ xs', Hid (OwL kBx B (w4.setCell ⟨g, k * 4 + 2, none⟩ v4) (.slice (some ⟨g, 0, none⟩) n cap) (l.set k (putN m b)) xs' ∧ ∀ (m0 : Nat) (u : World), m0 ≤ B → Below m0 u w → Below m0 u (w4.setCell ⟨g, k * 4 + 2, none⟩ v4))) ∧ w4.heap[g]? = w.drew.heap[g]?) := fun zz w4 v4 x' cs' hz hO hcs h1 h2 h3 => by
    subst hcs
    rw [hnc] at h1
    obtain ⟨q1, q2, q3⟩ := oD.bmore hb hx (bw_tr hz (bwA zz _)) hB (OM.keep hO (fun z hq => (bwA zz _).block z (OM.lt hO z hq).2)) h1 h2 h3
    exact ⟨⟨_, q1, fun m0 u hm0 hu => q2 m0 u hm0 hu.drew⟩, q3⟩
  have HF : Hid (∀ j, w.drew.frozen? ⟨g, j, none⟩ = false) := fun j => own_frozen oD.row (g := g) rfl j
  have x1 : w.drew.cell? ⟨g, k * 4 + 2, none⟩ = some (.slice ac nc cc) := c2
  have HNC := hide hn
  clear ho hb hm hR hs hB hk hx oD hck hou hnc bd rng hcl hi hCS hn hE
  cases ou with
  | true =>
    clear x1 c2
    go_enter Tryz.func75, Tryz.ntmps75
    go_wp2_with fail
    go_ret
    exact ⟨11, rfl, rfl, fun q => absurd q (by decide), fun m0 u _ hu => hu⟩
  | false =>
    go_enter Tryz.func75, Tryz.ntmps75
    go_upto_region 3 with fail
    clear c1
    refine wp_region_any (by kernel_rfl) ?_
    change wpAny _ _ _ _ _ _ _ (World.drew _)
    refine wpAny_take (i := 0) (oi := { dst := some 8, op := Op.move (Operand.tmp 0), type := 113, pos := "post.go:58", after := #[], guard := none }) (v := .pointer (some ⟨g, k * 4, none⟩)) rfl (by kernel_rfl) (by kernel_rfl) (by kernel_rfl) (fun _ _ _ h => h) (Or.inl ⟨by rfl, fun w => by go_simp⟩) ?_
    try simp only [Act.put, List.setIfInBounds_toArray, List.set_cons_zero, List.set_cons_succ]
    refine wpAny_take (i := 1) (oi := { dst := some 9, op := Op.move (Operand.tmp 0), type := 113, pos := "post.go:58", after := #[], guard := none }) (v := .pointer (some ⟨g, k * 4, none⟩)) rfl (by kernel_rfl) (by kernel_rfl) (by kernel_rfl) (fun _ _ _ h => h) (Or.inl ⟨by rfl, fun w => by go_simp⟩) ?_
    try simp only [Act.put, List.setIfInBounds_toArray, List.set_cons_zero, List.set_cons_succ]
    refine wpAny_take (i := 2) (oi := { dst := some 10, op := Op.nilCheck (Operand.tmp 9), type := 0, pos := "post.go:58", after := #[{ on := 1, ground := Ground.data }], guard := none }) (v := .pointer (some ⟨g, k * 4, none⟩)) rfl (by kernel_rfl) (by kernel_rfl) (by kernel_rfl) (fun _ _ _ h => h) (Or.inl ⟨by rfl, fun w => by go_simp⟩) ?_
    try simp only [Act.put, List.setIfInBounds_toArray, List.set_cons_zero, List.set_cons_succ]
    refine wpAny_take (i := 3) (oi := { dst := some 11, op := Op.fieldAddr 69 (Operand.tmp 10) 2, type := 0, pos := "post.go:58", after := #[{ on := 2, ground := Ground.data }], guard := none }) (v := .pointer (some ⟨g, k * 4 + 2, none⟩)) rfl (by kernel_rfl) (by kernel_rfl) (by kernel_rfl) (fun _ _ _ h => h) (Or.inl ⟨by rfl, fun w => by go_simp⟩) ?_
    try simp only [Act.put, List.setIfInBounds_toArray, List.set_cons_zero, List.set_cons_succ]
    refine wpAny_ready (rs := [4, 5]) (by kernel_rfl) (by simp) (AllReady.cons (o := { dst := some 12, op := Op.load 67 (Operand.tmp 11), type := 67, pos := "post.go:58", after := #[{ on := 3, ground := Ground.data }], guard := none }) rfl (fun K hK => ?_) (AllReady.cons (o := { dst := some 13, op := Op.load 50 (Operand.tmp 1), type := 50, pos := "post.go:58", after := #[], guard := none }) rfl (fun K hK => ?_) AllReady.nil))
    · go_simp
      refine hK _ _ ?_
      clear hK K
      try simp only [Act.put, List.setIfInBounds_toArray, List.set_cons_zero, List.set_cons_succ]
      refine wpAny_ready (rs := [5]) (by kernel_rfl) (by simp) (AllReady.cons (o := { dst := some 13, op := Op.load 50 (Operand.tmp 1), type := 50, pos := "post.go:58", after := #[], guard := none }) rfl (fun K hK => ?_) AllReady.nil)
      refine step_loadM rfl 50 (.tmp 1) rfl bm 0 (by first | rfl | simp [Act.eval, Act.put]) CS _ (unhide HL).1 Tryz.underlying50 rfl (unhide HL).2 ?_
      refine hK _ _ ?_
      clear hK K
      try simp only [Act.put, List.setIfInBounds_toArray, List.set_cons_zero, List.set_cons_succ]
      refine wpAny_ready (rs := [6]) (by kernel_rfl) (by simp) (AllReady.cons (o := { dst := some 14, op := Op.call { callee := Callee.value (Operand.func 44), args := #[Operand.tmp 13], argTypes := #[50] }, type := 50, pos := "post.go:58", after := #[{ on := 5, ground := Ground.data }], guard := none }) rfl (fun K hK => ?_) AllReady.nil)
      go_simp
      refine (unhide KF).mono ?_
      rintro e_ zz ⟨x', cs', rfl, hO, b3⟩
      have HX := hide (And.intro hO b3)
      have y1 : zz.cell? ⟨g, k * 4 + 2, none⟩ = some (.slice ac nc cc) := (by rw [b3.cell (lt_of_cell x1)]; exact x1)
      have y2 : ∀ o, (zz.alloc o).cell? ⟨g, k * 4 + 2, none⟩ = some (.slice ac nc cc) := (fun o => (by rw [(bwA zz o).cell (lt_of_cell y1)]; exact y1))
      have y3 : g < zz.heap.size := lt_of_cell y1
      have y4 : ¬ g = zz.heap.size := (by omega)
      clear hO b3
      go_wp2_with fail
      try simp only [Act.put, List.setIfInBounds_toArray, List.set_cons_zero, List.set_cons_succ]
      refine wpAny_ready (rs := [7]) (by kernel_rfl) (by simp) (AllReady.cons (o := { dst := some 15, op := Op.buildSlice 67 1 #[(0, Operand.tmp 14)], type := 67, pos := "post.go:58", after := #[{ on := 6, ground := Ground.data }], guard := none }) rfl (fun K hK => ?_) AllReady.nil)
      refine step_buildM rfl 67 50 (.tmp 14) rfl cs' (by first | rfl | simp [Act.eval, Act.put]) j0 (.agg ml0) Tryz.underlying67 hj hy0 (by rw [(unhide (unhide HX).1).1]; exact hy1) (by rw [(unhide (unhide HX).1).1]; decide) (by rw [(unhide (unhide HX).1).1]; decide) ?_
      refine hK _ _ ?_
      clear hK K
      try simp only [Act.put, List.setIfInBounds_toArray, List.set_cons_zero, List.set_cons_succ]
      refine wpAny_ready (rs := [8]) (by kernel_rfl) (by simp) (AllReady.cons (o := { dst := some 16, op := Op.call { callee := Callee.builtin Builtin.append, args := #[Operand.tmp 12, Operand.tmp 15], argTypes := #[67, 67] }, type := 67, pos := "post.go:58", after := #[{ on := 4, ground := Ground.data }, { on := 7, ground := Ground.data }, { on := 6, ground := Ground.chain }], guard := none }) rfl (fun K hK => ?_) AllReady.nil)
      refine step_appM rfl (.tmp 12) (.tmp 15) 67 rfl B 50 j0 (.agg ml0) 30 336 Tryz.underlying67 hj hy0 hy1 hyb rfl (by decide) (.slice ac nc cc) nc (cellK kMl b.ml ys) (by first | rfl | simp [Act.eval, Act.put]) (unhide HROW zz _ (unhide HX).2) ⟨zz.heap.size, 0, none⟩ 1 1 cs' (by first | rfl | simp [Act.eval, Act.put]) (by rw [(unhide (unhide HX).1).1]) (cells_newM zz cs' 50) (unhide (unhide HX).1).2.1 (by have := unhide HNC; unfold maxLen; omega) (by have := unhide HNC; omega) (unhide HBS zz _ (unhide HX).2) ?_
      intro v4 w4 hr4 hg4 hv4
      obtain ⟨a4_, c4_, e4_⟩ := own_slice hr4
      have DN := (unhide HDN zz w4 v4 _ _ (unhide HX).2 (unhide (unhide HX).1).2.2.1 (unhide (unhide HX).1).2.2.2 hr4 hg4 hv4)
      have z1 : w4.cell? ⟨g, k * 4 + 2, none⟩ = some (.slice ac nc cc) := (by rw [World.cell?_of_block (w := w.drew) DN.2]; exact x1)
      have fz : ∀ j, w4.frozen? ⟨g, j, none⟩ = false := (fun j => (by rw [World.frozen?_of_block (w := w.drew) DN.2]; exact unhide HF j))
      have HR := hide DN.1
      clear DN hr4 hg4 hv4
      subst e4_
      refine hK _ _ ?_
      clear hK K
      try simp only [Act.put, List.setIfInBounds_toArray, List.set_cons_zero, List.set_cons_succ]
      refine wpAny_take (i := 9) (oi := { dst := some 17, op := Op.nilCheck (Operand.tmp 8), type := 0, pos := "post.go:58", after := #[{ on := 0, ground := Ground.data }, { on := 0, ground := Ground.phase }, { on := 1, ground := Ground.phase }, { on := 2, ground := Ground.phase }, { on := 3, ground := Ground.phase }, { on := 4, ground := Ground.phase }, { on := 5, ground := Ground.phase }, { on := 6, ground := Ground.phase }, { on := 7, ground := Ground.phase }, { on := 8, ground := Ground.phase }], guard := none }) (v := .pointer (some ⟨g, k * 4, none⟩)) rfl (by kernel_rfl) (by kernel_rfl) (by kernel_rfl) (fun _ _ _ h => h) (Or.inl ⟨by rfl, fun w => by go_simp⟩) ?_
      try simp only [Act.put, List.setIfInBounds_toArray, List.set_cons_zero, List.set_cons_succ]
      refine wpAny_take (i := 10) (oi := { dst := some 18, op := Op.fieldAddr 69 (Operand.tmp 17) 2, type := 0, pos := "post.go:58", after := #[{ on := 9, ground := Ground.data }, { on := 0, ground := Ground.phase }, { on := 1, ground := Ground.phase }, { on := 2, ground := Ground.phase }, { on := 3, ground := Ground.phase }, { on := 4, ground := Ground.phase }, { on := 5, ground := Ground.phase }, { on := 6, ground := Ground.phase }, { on := 7, ground := Ground.phase }, { on := 8, ground := Ground.phase }], guard := none }) (v := .pointer (some ⟨g, k * 4 + 2, none⟩)) rfl (by kernel_rfl) (by kernel_rfl) (by kernel_rfl) (fun _ _ _ h => h) (Or.inl ⟨by rfl, fun w => by go_simp⟩) ?_
      try simp only [Act.put, List.setIfInBounds_toArray, List.set_cons_zero, List.set_cons_succ]
      refine wpAny_ready (rs := [11]) (by kernel_rfl) (by simp) (AllReady.cons (o := { dst := none, op := Op.store 67 (Operand.tmp 18) (Operand.tmp 16), type := 0, pos := "post.go:58", after := #[{ on := 10, ground := Ground.data }, { on := 8, ground := Ground.data }, { on := 8, ground := Ground.chain }, { on := 0, ground := Ground.phase }, { on := 1, ground := Ground.phase }, { on := 2, ground := Ground.phase }, { on := 3, ground := Ground.phase }, { on := 4, ground := Ground.phase }, { on := 5, ground := Ground.phase }, { on := 6, ground := Ground.phase }, { on := 7, ground := Ground.phase }, { on := 8, ground := Ground.phase }], guard := none }) rfl (fun K hK => ?_) AllReady.nil)
      go_simp
      refine hK _ _ ?_
      clear hK K
      try simp only [Act.put, List.setIfInBounds_toArray, List.set_cons_zero, List.set_cons_succ]
      refine wpAny_done (by kernel_rfl) ?_ _
      go_wp2_with fail
      go_ret
      obtain ⟨xs', HR'⟩ := unhide HR
      exact ⟨0, rfl, rfl, fun _ => ⟨xs', (unhide HR').1⟩, (unhide HR').2⟩
    · refine step_loadM rfl 50 (.tmp 1) rfl bm 0 (by first | rfl | simp [Act.eval, Act.put]) CS _ (unhide HL).1 Tryz.underlying50 rfl (unhide HL).2 ?_
      refine hK _ _ ?_
      clear hK K
      try simp only [Act.put, List.setIfInBounds_toArray, List.set_cons_zero, List.set_cons_succ]
      refine wpAny_ready (rs := [4, 6]) (by kernel_rfl) (by simp) (AllReady.cons (o := { dst := some 12, op := Op.load 67 (Operand.tmp 11), type := 67, pos := "post.go:58", after := #[{ on := 3, ground := Ground.data }], guard := none }) rfl (fun K hK => ?_) (AllReady.cons (o := { dst := some 14, op := Op.call { callee := Callee.value (Operand.func 44), args := #[Operand.tmp 13], argTypes := #[50] }, type := 50, pos := "post.go:58", after := #[{ on := 5, ground := Ground.data }], guard := none }) rfl (fun K hK => ?_) AllReady.nil))
      · go_simp
        refine hK _ _ ?_
        clear hK K
        try simp only [Act.put, List.setIfInBounds_toArray, List.set_cons_zero, List.set_cons_succ]
        refine wpAny_ready (rs := [6]) (by kernel_rfl) (by simp) (AllReady.cons (o := { dst := some 14, op := Op.call { callee := Callee.value (Operand.func 44), args := #[Operand.tmp 13], argTypes := #[50] }, type := 50, pos := "post.go:58", after := #[{ on := 5, ground := Ground.data }], guard := none }) rfl (fun K hK => ?_) AllReady.nil)
        go_simp
        refine (unhide KF).mono ?_
        rintro e_ zz ⟨x', cs', rfl, hO, b3⟩
        have HX := hide (And.intro hO b3)
        have y1 : zz.cell? ⟨g, k * 4 + 2, none⟩ = some (.slice ac nc cc) := (by rw [b3.cell (lt_of_cell x1)]; exact x1)
        have y2 : ∀ o, (zz.alloc o).cell? ⟨g, k * 4 + 2, none⟩ = some (.slice ac nc cc) := (fun o => (by rw [(bwA zz o).cell (lt_of_cell y1)]; exact y1))
        have y3 : g < zz.heap.size := lt_of_cell y1
        have y4 : ¬ g = zz.heap.size := (by omega)
        clear hO b3
        go_wp2_with fail
        try simp only [Act.put, List.setIfInBounds_toArray, List.set_cons_zero, List.set_cons_succ]
        refine wpAny_ready (rs := [7]) (by kernel_rfl) (by simp) (AllReady.cons (o := { dst := some 15, op := Op.buildSlice 67 1 #[(0, Operand.tmp 14)], type := 67, pos := "post.go:58", after := #[{ on := 6, ground := Ground.data }], guard := none }) rfl (fun K hK => ?_) AllReady.nil)
        refine step_buildM rfl 67 50 (.tmp 14) rfl cs' (by first | rfl | simp [Act.eval, Act.put]) j0 (.agg ml0) Tryz.underlying67 hj hy0 (by rw [(unhide (unhide HX).1).1]; exact hy1) (by rw [(unhide (unhide HX).1).1]; decide) (by rw [(unhide (unhide HX).1).1]; decide) ?_
        refine hK _ _ ?_
        clear hK K
        try simp only [Act.put, List.setIfInBounds_toArray, List.set_cons_zero, List.set_cons_succ]
        refine wpAny_ready (rs := [8]) (by kernel_rfl) (by simp) (AllReady.cons (o := { dst := some 16, op := Op.call { callee := Callee.builtin Builtin.append, args := #[Operand.tmp 12, Operand.tmp 15], argTypes := #[67, 67] }, type := 67, pos := "post.go:58", after := #[{ on := 4, ground := Ground.data }, { on := 7, ground := Ground.data }, { on := 6, ground := Ground.chain }], guard := none }) rfl (fun K hK => ?_) AllReady.nil)
        refine step_appM rfl (.tmp 12) (.tmp 15) 67 rfl B 50 j0 (.agg ml0) 30 336 Tryz.underlying67 hj hy0 hy1 hyb rfl (by decide) (.slice ac nc cc) nc (cellK kMl b.ml ys) (by first | rfl | simp [Act.eval, Act.put]) (unhide HROW zz _ (unhide HX).2) ⟨zz.heap.size, 0, none⟩ 1 1 cs' (by first | rfl | simp [Act.eval, Act.put]) (by rw [(unhide (unhide HX).1).1]) (cells_newM zz cs' 50) (unhide (unhide HX).1).2.1 (by have := unhide HNC; unfold maxLen; omega) (by have := unhide HNC; omega) (unhide HBS zz _ (unhide HX).2) ?_
        intro v4 w4 hr4 hg4 hv4
        obtain ⟨a4_, c4_, e4_⟩ := own_slice hr4
        have DN := (unhide HDN zz w4 v4 _ _ (unhide HX).2 (unhide (unhide HX).1).2.2.1 (unhide (unhide HX).1).2.2.2 hr4 hg4 hv4)
        have z1 : w4.cell? ⟨g, k * 4 + 2, none⟩ = some (.slice ac nc cc) := (by rw [World.cell?_of_block (w := w.drew) DN.2]; exact x1)
        have fz : ∀ j, w4.frozen? ⟨g, j, none⟩ = false := (fun j => (by rw [World.frozen?_of_block (w := w.drew) DN.2]; exact unhide HF j))
        have HR := hide DN.1
        clear DN hr4 hg4 hv4
        subst e4_
        refine hK _ _ ?_
        clear hK K
        try simp only [Act.put, List.setIfInBounds_toArray, List.set_cons_zero, List.set_cons_succ]
        refine wpAny_take (i := 9) (oi := { dst := some 17, op := Op.nilCheck (Operand.tmp 8), type := 0, pos := "post.go:58", after := #[{ on := 0, ground := Ground.data }, { on := 0, ground := Ground.phase }, { on := 1, ground := Ground.phase }, { on := 2, ground := Ground.phase }, { on := 3, ground := Ground.phase }, { on := 4, ground := Ground.phase }, { on := 5, ground := Ground.phase }, { on := 6, ground := Ground.phase }, { on := 7, ground := Ground.phase }, { on := 8, ground := Ground.phase }], guard := none }) (v := .pointer (some ⟨g, k * 4, none⟩)) rfl (by kernel_rfl) (by kernel_rfl) (by kernel_rfl) (fun _ _ _ h => h) (Or.inl ⟨by rfl, fun w => by go_simp⟩) ?_
        try simp only [Act.put, List.setIfInBounds_toArray, List.set_cons_zero, List.set_cons_succ]
        refine wpAny_take (i := 10) (oi := { dst := some 18, op := Op.fieldAddr 69 (Operand.tmp 17) 2, type := 0, pos := "post.go:58", after := #[{ on := 9, ground := Ground.data }, { on := 0, ground := Ground.phase }, { on := 1, ground := Ground.phase }, { on := 2, ground := Ground.phase }, { on := 3, ground := Ground.phase }, { on := 4, ground := Ground.phase }, { on := 5, ground := Ground.phase }, { on := 6, ground := Ground.phase }, { on := 7, ground := Ground.phase }, { on := 8, ground := Ground.phase }], guard := none }) (v := .pointer (some ⟨g, k * 4 + 2, none⟩)) rfl (by kernel_rfl) (by kernel_rfl) (by kernel_rfl) (fun _ _ _ h => h) (Or.inl ⟨by rfl, fun w => by go_simp⟩) ?_
        try simp only [Act.put, List.setIfInBounds_toArray, List.set_cons_zero, List.set_cons_succ]
        refine wpAny_ready (rs := [11]) (by kernel_rfl) (by simp) (AllReady.cons (o := { dst := none, op := Op.store 67 (Operand.tmp 18) (Operand.tmp 16), type := 0, pos := "post.go:58", after := #[{ on := 10, ground := Ground.data }, { on := 8, ground := Ground.data }, { on := 8, ground := Ground.chain }, { on := 0, ground := Ground.phase }, { on := 1, ground := Ground.phase }, { on := 2, ground := Ground.phase }, { on := 3, ground := Ground.phase }, { on := 4, ground := Ground.phase }, { on := 5, ground := Ground.phase }, { on := 6, ground := Ground.phase }, { on := 7, ground := Ground.phase }, { on := 8, ground := Ground.phase }], guard := none }) rfl (fun K hK => ?_) AllReady.nil)
        go_simp
        refine hK _ _ ?_
        clear hK K
        try simp only [Act.put, List.setIfInBounds_toArray, List.set_cons_zero, List.set_cons_succ]
        refine wpAny_done (by kernel_rfl) ?_ _
        go_wp2_with fail
        go_ret
        obtain ⟨xs', HR'⟩ := unhide HR
        exact ⟨0, rfl, rfl, fun _ => ⟨xs', (unhide HR').1⟩, (unhide HR').2⟩
      · go_simp
        refine (unhide KF).mono ?_
        rintro e_ zz ⟨x', cs', rfl, hO, b3⟩
        have HX := hide (And.intro hO b3)
        have y1 : zz.cell? ⟨g, k * 4 + 2, none⟩ = some (.slice ac nc cc) := (by rw [b3.cell (lt_of_cell x1)]; exact x1)
        have y2 : ∀ o, (zz.alloc o).cell? ⟨g, k * 4 + 2, none⟩ = some (.slice ac nc cc) := (fun o => (by rw [(bwA zz o).cell (lt_of_cell y1)]; exact y1))
        have y3 : g < zz.heap.size := lt_of_cell y1
        have y4 : ¬ g = zz.heap.size := (by omega)
        clear hO b3
        go_wp2_with fail
        try simp only [Act.put, List.setIfInBounds_toArray, List.set_cons_zero, List.set_cons_succ]
        refine wpAny_ready (rs := [4, 7]) (by kernel_rfl) (by simp) (AllReady.cons (o := { dst := some 12, op := Op.load 67 (Operand.tmp 11), type := 67, pos := "post.go:58", after := #[{ on := 3, ground := Ground.data }], guard := none }) rfl (fun K hK => ?_) (AllReady.cons (o := { dst := some 15, op := Op.buildSlice 67 1 #[(0, Operand.tmp 14)], type := 67, pos := "post.go:58", after := #[{ on := 6, ground := Ground.data }], guard := none }) rfl (fun K hK => ?_) AllReady.nil))
        · go_simp
          refine hK _ _ ?_
          clear hK K
          try simp only [Act.put, List.setIfInBounds_toArray, List.set_cons_zero, List.set_cons_succ]
          refine wpAny_ready (rs := [7]) (by kernel_rfl) (by simp) (AllReady.cons (o := { dst := some 15, op := Op.buildSlice 67 1 #[(0, Operand.tmp 14)], type := 67, pos := "post.go:58", after := #[{ on := 6, ground := Ground.data }], guard := none }) rfl (fun K hK => ?_) AllReady.nil)
          refine step_buildM rfl 67 50 (.tmp 14) rfl cs' (by first | rfl | simp [Act.eval, Act.put]) j0 (.agg ml0) Tryz.underlying67 hj hy0 (by rw [(unhide (unhide HX).1).1]; exact hy1) (by rw [(unhide (unhide HX).1).1]; decide) (by rw [(unhide (unhide HX).1).1]; decide) ?_
          refine hK _ _ ?_
          clear hK K
          try simp only [Act.put, List.setIfInBounds_toArray, List.set_cons_zero, List.set_cons_succ]
          refine wpAny_ready (rs := [8]) (by kernel_rfl) (by simp) (AllReady.cons (o := { dst := some 16, op := Op.call { callee := Callee.builtin Builtin.append, args := #[Operand.tmp 12, Operand.tmp 15], argTypes := #[67, 67] }, type := 67, pos := "post.go:58", after := #[{ on := 4, ground := Ground.data }, { on := 7, ground := Ground.data }, { on := 6, ground := Ground.chain }], guard := none }) rfl (fun K hK => ?_) AllReady.nil)
          refine step_appM rfl (.tmp 12) (.tmp 15) 67 rfl B 50 j0 (.agg ml0) 30 336 Tryz.underlying67 hj hy0 hy1 hyb rfl (by decide) (.slice ac nc cc) nc (cellK kMl b.ml ys) (by first | rfl | simp [Act.eval, Act.put]) (unhide HROW zz _ (unhide HX).2) ⟨zz.heap.size, 0, none⟩ 1 1 cs' (by first | rfl | simp [Act.eval, Act.put]) (by rw [(unhide (unhide HX).1).1]) (cells_newM zz cs' 50) (unhide (unhide HX).1).2.1 (by have := unhide HNC; unfold maxLen; omega) (by have := unhide HNC; omega) (unhide HBS zz _ (unhide HX).2) ?_
          intro v4 w4 hr4 hg4 hv4
          obtain ⟨a4_, c4_, e4_⟩ := own_slice hr4
          have DN := (unhide HDN zz w4 v4 _ _ (unhide HX).2 (unhide (unhide HX).1).2.2.1 (unhide (unhide HX).1).2.2.2 hr4 hg4 hv4)
          have z1 : w4.cell? ⟨g, k * 4 + 2, none⟩ = some (.slice ac nc cc) := (by rw [World.cell?_of_block (w := w.drew) DN.2]; exact x1)
          have fz : ∀ j, w4.frozen? ⟨g, j, none⟩ = false := (fun j => (by rw [World.frozen?_of_block (w := w.drew) DN.2]; exact unhide HF j))
          have HR := hide DN.1
          clear DN hr4 hg4 hv4
          subst e4_
          refine hK _ _ ?_
          clear hK K
          try simp only [Act.put, List.setIfInBounds_toArray, List.set_cons_zero, List.set_cons_succ]
          refine wpAny_take (i := 9) (oi := { dst := some 17, op := Op.nilCheck (Operand.tmp 8), type := 0, pos := "post.go:58", after := #[{ on := 0, ground := Ground.data }, { on := 0, ground := Ground.phase }, { on := 1, ground := Ground.phase }, { on := 2, ground := Ground.phase }, { on := 3, ground := Ground.phase }, { on := 4, ground := Ground.phase }, { on := 5, ground := Ground.phase }, { on := 6, ground := Ground.phase }, { on := 7, ground := Ground.phase }, { on := 8, ground := Ground.phase }], guard := none }) (v := .pointer (some ⟨g, k * 4, none⟩)) rfl (by kernel_rfl) (by kernel_rfl) (by kernel_rfl) (fun _ _ _ h => h) (Or.inl ⟨by rfl, fun w => by go_simp⟩) ?_
          try simp only [Act.put, List.setIfInBounds_toArray, List.set_cons_zero, List.set_cons_succ]
          refine wpAny_take (i := 10) (oi := { dst := some 18, op := Op.fieldAddr 69 (Operand.tmp 17) 2, type := 0, pos := "post.go:58", after := #[{ on := 9, ground := Ground.data }, { on := 0, ground := Ground.phase }, { on := 1, ground := Ground.phase }, { on := 2, ground := Ground.phase }, { on := 3, ground := Ground.phase }, { on := 4, ground := Ground.phase }, { on := 5, ground := Ground.phase }, { on := 6, ground := Ground.phase }, { on := 7, ground := Ground.phase }, { on := 8, ground := Ground.phase }], guard := none }) (v := .pointer (some ⟨g, k * 4 + 2, none⟩)) rfl (by kernel_rfl) (by kernel_rfl) (by kernel_rfl) (fun _ _ _ h => h) (Or.inl ⟨by rfl, fun w => by go_simp⟩) ?_
          try simp only [Act.put, List.setIfInBounds_toArray, List.set_cons_zero, List.set_cons_succ]
          refine wpAny_ready (rs := [11]) (by kernel_rfl) (by simp) (AllReady.cons (o := { dst := none, op := Op.store 67 (Operand.tmp 18) (Operand.tmp 16), type := 0, pos := "post.go:58", after := #[{ on := 10, ground := Ground.data }, { on := 8, ground := Ground.data }, { on := 8, ground := Ground.chain }, { on := 0, ground := Ground.phase }, { on := 1, ground := Ground.phase }, { on := 2, ground := Ground.phase }, { on := 3, ground := Ground.phase }, { on := 4, ground := Ground.phase }, { on := 5, ground := Ground.phase }, { on := 6, ground := Ground.phase }, { on := 7, ground := Ground.phase }, { on := 8, ground := Ground.phase }], guard := none }) rfl (fun K hK => ?_) AllReady.nil)
          go_simp
          refine hK _ _ ?_
          clear hK K
          try simp only [Act.put, List.setIfInBounds_toArray, List.set_cons_zero, List.set_cons_succ]
          refine wpAny_done (by kernel_rfl) ?_ _
          go_wp2_with fail
          go_ret
          obtain ⟨xs', HR'⟩ := unhide HR
          exact ⟨0, rfl, rfl, fun _ => ⟨xs', (unhide HR').1⟩, (unhide HR').2⟩
        · refine step_buildM rfl 67 50 (.tmp 14) rfl cs' (by first | rfl | simp [Act.eval, Act.put]) j0 (.agg ml0) Tryz.underlying67 hj hy0 (by rw [(unhide (unhide HX).1).1]; exact hy1) (by rw [(unhide (unhide HX).1).1]; decide) (by rw [(unhide (unhide HX).1).1]; decide) ?_
          refine hK _ _ ?_
          clear hK K
          try simp only [Act.put, List.setIfInBounds_toArray, List.set_cons_zero, List.set_cons_succ]
          refine wpAny_ready (rs := [4]) (by kernel_rfl) (by simp) (AllReady.cons (o := { dst := some 12, op := Op.load 67 (Operand.tmp 11), type := 67, pos := "post.go:58", after := #[{ on := 3, ground := Ground.data }], guard := none }) rfl (fun K hK => ?_) AllReady.nil)
          go_simp
          refine hK _ _ ?_
          clear hK K
          try simp only [Act.put, List.setIfInBounds_toArray, List.set_cons_zero, List.set_cons_succ]
          refine wpAny_ready (rs := [8]) (by kernel_rfl) (by simp) (AllReady.cons (o := { dst := some 16, op := Op.call { callee := Callee.builtin Builtin.append, args := #[Operand.tmp 12, Operand.tmp 15], argTypes := #[67, 67] }, type := 67, pos := "post.go:58", after := #[{ on := 4, ground := Ground.data }, { on := 7, ground := Ground.data }, { on := 6, ground := Ground.chain }], guard := none }) rfl (fun K hK => ?_) AllReady.nil)
          refine step_appM rfl (.tmp 12) (.tmp 15) 67 rfl B 50 j0 (.agg ml0) 30 336 Tryz.underlying67 hj hy0 hy1 hyb rfl (by decide) (.slice ac nc cc) nc (cellK kMl b.ml ys) (by first | rfl | simp [Act.eval, Act.put]) (unhide HROW zz _ (unhide HX).2) ⟨zz.heap.size, 0, none⟩ 1 1 cs' (by first | rfl | simp [Act.eval, Act.put]) (by rw [(unhide (unhide HX).1).1]) (cells_newM zz cs' 50) (unhide (unhide HX).1).2.1 (by have := unhide HNC; unfold maxLen; omega) (by have := unhide HNC; omega) (unhide HBS zz _ (unhide HX).2) ?_
          intro v4 w4 hr4 hg4 hv4
          obtain ⟨a4_, c4_, e4_⟩ := own_slice hr4
          have DN := (unhide HDN zz w4 v4 _ _ (unhide HX).2 (unhide (unhide HX).1).2.2.1 (unhide (unhide HX).1).2.2.2 hr4 hg4 hv4)
          have z1 : w4.cell? ⟨g, k * 4 + 2, none⟩ = some (.slice ac nc cc) := (by rw [World.cell?_of_block (w := w.drew) DN.2]; exact x1)
          have fz : ∀ j, w4.frozen? ⟨g, j, none⟩ = false := (fun j => (by rw [World.frozen?_of_block (w := w.drew) DN.2]; exact unhide HF j))
          have HR := hide DN.1
          clear DN hr4 hg4 hv4
          subst e4_
          refine hK _ _ ?_
          clear hK K
          try simp only [Act.put, List.setIfInBounds_toArray, List.set_cons_zero, List.set_cons_succ]
          refine wpAny_take (i := 9) (oi := { dst := some 17, op := Op.nilCheck (Operand.tmp 8), type := 0, pos := "post.go:58", after := #[{ on := 0, ground := Ground.data }, { on := 0, ground := Ground.phase }, { on := 1, ground := Ground.phase }, { on := 2, ground := Ground.phase }, { on := 3, ground := Ground.phase }, { on := 4, ground := Ground.phase }, { on := 5, ground := Ground.phase }, { on := 6, ground := Ground.phase }, { on := 7, ground := Ground.phase }, { on := 8, ground := Ground.phase }], guard := none }) (v := .pointer (some ⟨g, k * 4, none⟩)) rfl (by kernel_rfl) (by kernel_rfl) (by kernel_rfl) (fun _ _ _ h => h) (Or.inl ⟨by rfl, fun w => by go_simp⟩) ?_
          try simp only [Act.put, List.setIfInBounds_toArray, List.set_cons_zero, List.set_cons_succ]
          refine wpAny_take (i := 10) (oi := { dst := some 18, op := Op.fieldAddr 69 (Operand.tmp 17) 2, type := 0, pos := "post.go:58", after := #[{ on := 9, ground := Ground.data }, { on := 0, ground := Ground.phase }, { on := 1, ground := Ground.phase }, { on := 2, ground := Ground.phase }, { on := 3, ground := Ground.phase }, { on := 4, ground := Ground.phase }, { on := 5, ground := Ground.phase }, { on := 6, ground := Ground.phase }, { on := 7, ground := Ground.phase }, { on := 8, ground := Ground.phase }], guard := none }) (v := .pointer (some ⟨g, k * 4 + 2, none⟩)) rfl (by kernel_rfl) (by kernel_rfl) (by kernel_rfl) (fun _ _ _ h => h) (Or.inl ⟨by rfl, fun w => by go_simp⟩) ?_
          try simp only [Act.put, List.setIfInBounds_toArray, List.set_cons_zero, List.set_cons_succ]
          refine wpAny_ready (rs := [11]) (by kernel_rfl) (by simp) (AllReady.cons (o := { dst := none, op := Op.store 67 (Operand.tmp 18) (Operand.tmp 16), type := 0, pos := "post.go:58", after := #[{ on := 10, ground := Ground.data }, { on := 8, ground := Ground.data }, { on := 8, ground := Ground.chain }, { on := 0, ground := Ground.phase }, { on := 1, ground := Ground.phase }, { on := 2, ground := Ground.phase }, { on := 3, ground := Ground.phase }, { on := 4, ground := Ground.phase }, { on := 5, ground := Ground.phase }, { on := 6, ground := Ground.phase }, { on := 7, ground := Ground.phase }, { on := 8, ground := Ground.phase }], guard := none }) rfl (fun K hK => ?_) AllReady.nil)
          go_simp
          refine hK _ _ ?_
          clear hK K
          try simp only [Act.put, List.setIfInBounds_toArray, List.set_cons_zero, List.set_cons_succ]
          refine wpAny_done (by kernel_rfl) ?_ _
          go_wp2_with fail
          go_ret
          obtain ⟨xs', HR'⟩ := unhide HR
          exact ⟨0, rfl, rfl, fun _ => ⟨xs', (unhide HR').1⟩, (unhide HR').2⟩
end Go.Proofs.YtgmlkofogeoocaaGreatDoor

/- Put, Close, Done of package post. -/
namespace Go.Proofs.YtgmlkofogeoocaaGreatDoor
open Go.RowKit Go.Maps
def Trn (B : Nat) (w' : World) (v' : Value) (er : Int) (l : List Bx) (d : Int) (E : Bx → Int) (N : Bx → Bx) : Prop :=
  (er = 1 ∧ mayX l = false ∧ v' = .slice none 0 0) ∨ (er = 7 ∧ mayP l ∧ (∀ p ∈ l, p.dev ≠ d) ∧ v' = .slice none 0 0) ∨
  ∃ k b, mayP l ∧ l[k]? = some b ∧ b.dev = d ∧ er = E b ∧ ((er ≠ 0 ∧ v' = .slice none 0 0) ∨ (er = 0 ∧ ∃ xs', OwL kBx B w' v' (l.set k (N b)) xs'))
def cloN (b : Bx) : Bx := { b with out := true }
def TrP (B : Nat) (l : List Bx) (E : Bx → Int) (N : Bx → Bx) (k : Nat) (er : Int) (w' : World) (v2 : Value) : Prop :=
  ∀ b, l[k]? = some b → er = E b ∧ (er = 0 → ∃ xs', OwL kBx B w' v2 (l.set k (N b)) xs')
theorem trn_of {B B' : Nat} {w' : World} {v' : Value} {er : Int} {l : List Bx} {d : Int} {E : Bx → Int} {N : Bx → Bx} (hB : B' ≤ B)
    (h : (er = 1 ∧ mayX l = false ∧ v' = .slice none 0 0) ∨ (er = 7 ∧ mayP l ∧ (∀ p ∈ l, p.dev ≠ d) ∧ v' = .slice none 0 0) ∨ ∃ k b v2, mayP l ∧ l[k]? = some b ∧ b.dev = d ∧ TrP B l E N k er w' v2 ∧ ((er ≠ 0 ∧ v' = .slice none 0 0) ∨ (er = 0 ∧ v' = v2))) :
    Trn B' w' v' er l d E N := by
  rcases h with q | q | ⟨k, b, v2, q1, q2, q3, q4, q5⟩
  · exact Or.inl q
  · exact Or.inr (Or.inl q)
  · refine Or.inr (Or.inr ⟨k, b, q1, q2, q3, (q4 b q2).1, q5.imp (fun c => c) (fun c => ⟨c.1, ?_⟩)⟩)
    obtain ⟨xs', h⟩ := (q4 b q2).2 c.1
    rw [c.2]
    exact ⟨xs', h.mono hB⟩
set_option maxRecDepth 100000 in
set_option maxHeartbeats 4000000 in
theorem poPut_any {w : World} {v : Value} {l : List Bx} {xs : List (Value × List Mx)} {m : Ml} {x : Mx} (d : Int) (h : RdL kBx w v l xs) (hs : SmX l) (hm : MlR w m x) (hsm : SmM m) :
    Calls Tryz.prog 51 #[v, .int .i64 d, .agg (mlC m x).toArray] w fun e w' => ∃ v' er, e = .returned (.tuple #[v', .int .i64 er]) ∧ Below w.heap.size w w' ∧ Trn w.heap.size w' v' er l d putE (putN m) := by
  obtain ⟨w0, hw0⟩ : ∃ w0, w0 = w.alloc (.cells (mlC m x).toArray 50) := ⟨_, rfl⟩
  have bl : Below w.heap.size w w0 := by rw [hw0]; exact bwA _ _
  have kk : w0.heap[w.heap.size]? = some (.cells (mlC m x).toArray 50 (0, 0)) := by rw [hw0]; exact heap_alloc_new _ _
  have K := hide (turnedP_any (w := w0) (bs := w.heap.size) (d := d) (P := TrP w0.heap.size l putE (putN m)) (h.bw bl) hs.n (fun k b _ hb _ W g cap ys ho hW => by
    refine Calls.mono (put1_any ho hb (kept_b kk (lt_of_blk kk) hW) ((hm.bw bl).bw hW) hsm (hs.b b (List.mem_of_getElem? hb)).n hW.size) ?_
    rintro e w' ⟨er, rfl, he, hO, hB⟩
    exact ⟨er, rfl, fun b' hb' => by rw [hb] at hb'; cases hb'; exact ⟨he, hO⟩, hB _ _ (Nat.le_refl _) hW⟩))
  have HB := hide bl
  have HW := hide hw0
  clear h hs hm hsm bl kk hw0
  generalize mlC m x = CS at *
  go_enter Tryz.func51, Tryz.ntmps51
  go_upto_region 1 with fail
  rw [← unhide HW]
  clear HW
  go_wp2_with fail
  refine (unhide K).mono ?_
  rintro e w1 ⟨v', er, rfl, b1, hp⟩
  have HP := hide (trn_of (unhide HB).size hp)
  have HB1 := hide (bw_tr (unhide HB) b1)
  clear hp b1 K HB
  go_wp2_with fail
  go_ret2
  exact ⟨v', er, rfl, unhide HB1, unhide HP⟩
set_option maxRecDepth 100000 in
set_option maxHeartbeats 4000000 in
theorem poClose_any {w : World} {v : Value} {l : List Bx} {xs : List (Value × List Mx)} (d : Int) (h : RdL kBx w v l xs) (hs : SmX l) :
    Calls Tryz.prog 52 #[v, .int .i64 d] w fun e w' => ∃ v' er, e = .returned (.tuple #[v', .int .i64 er]) ∧ Below w.heap.size w w' ∧ ((er = 1 ∧ ¬ (0 ≤ d ∧ d < 512) ∧ v' = .slice none 0 0) ∨ Trn w.heap.size w' v' er l d (fun _ => 0) cloN) := by
  have K0 := hide (isDev_any (w := w) d)
  have K : Hid (∀ w0, Below w.heap.size w w0 → Calls Tryz.prog 74 #[v, .int .i64 d, .func (.func 76) #[] #[]] w0 fun e w' => ∃ v' er, e = .returned (.tuple #[v', .int .i64 er]) ∧ Below w0.heap.size w0 w' ∧ Trn w.heap.size w' v' er l d (fun _ => 0) cloN) := fun w0 bl => by
    refine Calls.mono (turnedC_any (w := w0) (d := d) (P := TrP w0.heap.size l (fun _ => 0) cloN) (h.bw bl) hs.n (fun k b hmy hb _ W g cap ys ho hW => by
      have hgl := World.ownsRow.lt ho.row g rfl
      refine Calls.mono (close1_any ho hb) ?_
      rintro e w' ⟨er, rfl, he, hO, hB⟩
      exact ⟨er, rfl, fun b' hb' => by rw [hb] at hb'; cases hb'; exact ⟨he, fun _ => ⟨ys, hO⟩⟩, by rw [hB]; exact Below.setCell hW hgl.1 _⟩)) ?_
    rintro e w1 ⟨v', er, rfl, b1, hp⟩
    exact ⟨v', er, rfl, b1, trn_of bl.size hp⟩
  clear h hs
  by_cases hd : 0 ≤ d ∧ d < 512
  · rw [decide_eq_true hd] at K0
    clear hd
    go_enter Tryz.func52, Tryz.ntmps52
    go_wp2_with fail
    refine (unhide K0).mono ?_
    rintro e w0 ⟨rfl, b0⟩
    have K2 := hide (unhide K w0 b0)
    clear K K0
    go_wp2_with fail
    refine (unhide K2).mono ?_
    rintro e w1 ⟨v', er, rfl, b1, hp⟩
    have HP := hide (And.intro hp (bw_tr b0 b1))
    clear hp b1 K2 b0
    go_wp2_with fail
    go_ret2
    exact ⟨v', er, rfl, (unhide HP).2, Or.inr (unhide HP).1⟩
  · rw [decide_eq_false hd] at K0
    have HD := hide hd
    clear hd
    go_enter Tryz.func52, Tryz.ntmps52
    go_wp2_with fail
    refine (unhide K0).mono ?_
    rintro e w0 ⟨rfl, b0⟩
    go_wp2_with fail
    go_ret2
    exact ⟨_, 1, rfl, b0, Or.inl ⟨rfl, unhide HD, rfl⟩⟩
end Go.Proofs.YtgmlkofogeoocaaGreatDoor
