/- Texts joined: QuC QuD QuDe QuDf. -/
import Derived.Test.YtgiicendejgklaaZ19
import Derived.Deep.MidRow
import Derived.Laws.IdiomCopy
import Derived.Deep.RegionLaw
/- A feed's copy (fresh.Feed). mkQuC.py writes it. -/
namespace Go.Proofs.Ytgiicendejgklaa
open Go.RowKit Go.Maps
theorem rng_bw {w W : World} {b o : Nat} {cs : List Value} (h : w.rangeAt b o cs) (hb : Below w.heap.size w W) : W.rangeAt b o cs := fun j u hj => by rw [hb.cell (lt_of_cell (h j u hj))]; exact h j u hj
theorem blk_rngQ {W : World} {b : Nat} {cs : List Value} {t : TypeId} (h : W.heap[b]? = some (.cells cs.toArray t (0, 0))) {o : Nat} {ds : List Value} (hd : ∀ j u, ds[j]? = some u → cs[o + j]? = some u) : W.rangeAt b o ds := fun j u hj => blk_c h (by rw [List.getElem?_toArray]; exact hd j u hj)
theorem blk_there {W : World} {b : Nat} {cs : Array Value} {t : TypeId} (h : W.heap[b]? = some (.cells cs t (0, 0))) {o n : Nat} (hn : o + n ≤ cs.size) : W.there b o n := fun j hj => by
  have hc : cs[o + j]? = some cs[o + j] := Array.getElem?_eq_getElem (by omega)
  exact ⟨by rw [blk_c h hc]; rfl, froz_b' (i := o + j) h⟩
theorem pk_mid (B' : List Value) : ∀ (A B C : List Value), B.length = B'.length → pk (A ++ (B ++ C)).toArray A.length B' = (A ++ (B' ++ C)).toArray := by
  induction B' with
  | nil => intro A B C h; have : B = [] := List.eq_nil_of_length_eq_zero h; subst this; rfl
  | cons v r ih =>
    intro A B C h
    cases B with
    | nil => simp at h
    | cons b B =>
      have e : (A ++ ((b :: B) ++ C)).toArray.setIfInBounds A.length v = ((A ++ [v]) ++ (B ++ C)).toArray := by
        rw [List.setIfInBounds_toArray, List.set_append_right _ _ (Nat.le_refl _), Nat.sub_self]
        simp
      show pk ((A ++ ((b :: B) ++ C)).toArray.setIfInBounds A.length v) (A.length + 1) r = _
      rw [e]
      have := ih (A ++ [v]) B C (by simpa using h)
      rw [List.length_append, List.length_singleton] at this
      rw [this]
      simp
theorem step_loadQ {P : Program} {ops : Array Oper} {o : Oper} {a : Act} {w : World} {K : Act → World → Prop} {Q : Exit → Act → World → Prop} {E : Prop} (hg : o.guard = none) (ty : TypeId) (x : Operand) (hop : o.op = .load ty x)
    (b off : Nat) (hx : a.eval x = .pointer (some ⟨b, off, none⟩)) (cs : List Value) (d : TypeDesc) (hc : w.rangeAt b off cs) (hu : P.underlying ty = some d) (hd : d.isRow = true) (hi : (P.info? ty).map (·.size) = some cs.length)
    (h : K (a.put o.dst (.agg cs.toArray)) w) : if Region.wanted o (yielded ops a.tmps) = true then Oper.wp P o a w K Q else E := by
  have hw : Region.wanted o (yielded ops a.tmps) = true := by simp [Region.wanted, hg]
  rw [if_pos hw]
  exact wp_load_mid ty x hop b off hx cs d hc hu hd hi h
theorem step_storeQ {P : Program} {ops : Array Oper} {o : Oper} {a : Act} {w : World} {K : Act → World → Prop} {Q : Exit → Act → World → Prop} {E : Prop} (hg : o.guard = none) (ty : TypeId) (x y : Operand) (hop : o.op = .store ty x y)
    (b off : Nat) (cells : Array Value) (hx : a.eval x = .pointer (some ⟨b, off, none⟩)) (hy : a.eval y = .agg cells) (ht : w.there b off cells.size) (hi : (P.info? ty).map (·.size) = some cells.size) (h1 : cells.all (·.oneCell') = true)
    (h : K (a.put o.dst undef) (w.setCells b off cells.toList)) : if Region.wanted o (yielded ops a.tmps) = true then Oper.wp P o a w K Q else E := by
  have hw : Region.wanted o (yielded ops a.tmps) = true := by simp [Region.wanted, hg]
  rw [if_pos hw]
  exact wp_store_mid ty x y hop b off cells hx hy ht hi h1 h
theorem setCells_pokesQ (b : Nat) : ∀ (vs : List Value) (o : Nat) (w : World), w.setCells b o vs = pokes w b o vs
  | [], _, _ => rfl
  | v :: r, o, w => by rw [World.setCells, pokes, setCells_pokesQ b r]
theorem infoCmSQ : (Try.prog.info? 32).map (·.size) = some 15 := by kernel_rfl
theorem infoMlQ : (Try.prog.info? 41).map (·.size) = some 30 := by kernel_rfl
theorem infoFdS : (Try.prog.info? 43).map (·.size) = some 53 := by kernel_rfl
def fdH (f : Fd) : List Value := [.int .u8 f.kd, .int .i64 f.tu, .int .i64 f.fr]
theorem fdH_len (f : Fd) : (fdH f).length = 3 := rfl
theorem fdC_commit (f : Fd) (x : Fx) : ∀ j u, (cmC f.cm x.cx)[j]? = some u → (fdC f x)[3 + j]? = some u := fun j u hj => by
  have hl := (List.getElem?_eq_some_iff.1 hj).1
  have e : fdC f x = fdH f ++ (cmC f.cm x.cx ++ (mlC f.ml x.mx ++ fdT f)) := rfl
  rw [e, List.getElem?_append_right (by rw [fdH_len]; omega), fdH_len, Nat.add_sub_cancel_left, List.getElem?_append_left hl]
  exact hj
theorem fdC_mail (f : Fd) (x : Fx) : ∀ j u, (mlC f.ml x.mx)[j]? = some u → (fdC f x)[18 + j]? = some u := fun j u hj => by
  have hl := (List.getElem?_eq_some_iff.1 hj).1
  have e : fdC f x = (fdH f ++ cmC f.cm x.cx) ++ (mlC f.ml x.mx ++ fdT f) := rfl
  have l : (fdH f ++ cmC f.cm x.cx).length = 18 := rfl
  rw [e, List.getElem?_append_right (by rw [l]; omega), l, Nat.add_sub_cancel_left, List.getElem?_append_left hl]
  exact hj
theorem fdC_pk (f : Fd) (x y : Fx) : pk (pk (fdC f x).toArray 3 (cmC f.cm y.cx)) 18 (mlC f.ml y.mx) = (fdC f y).toArray := by
  have e1 : pk (fdC f x).toArray 3 (cmC f.cm y.cx) = (fdH f ++ (cmC f.cm y.cx ++ (mlC f.ml x.mx ++ fdT f))).toArray :=
    pk_mid (cmC f.cm y.cx) (fdH f) (cmC f.cm x.cx) _ rfl
  rw [e1]
  have e2 := pk_mid (mlC f.ml y.mx) (fdH f ++ cmC f.cm y.cx) (mlC f.ml x.mx) (fdT f) rfl
  exact e2
set_option maxRecDepth 100000 in
set_option maxHeartbeats 8000000 in
theorem frFeed_any {w : World} {f : Fd} {x : Fx} (h : FdR w f x) (hs : SmF f) :
    Calls Try.prog 26 #[.agg (fdC f x).toArray] w fun e w' => ∃ x', e = .returned (.agg (fdC f x').toArray) ∧ OF w.heap.size w' f x' ∧ Below w.heap.size w w' := by
  obtain ⟨w0, hw0⟩ : ∃ w0, w0 = (w.alloc (.cells (fdC f x).toArray 43)).alloc (.cells fd0 43) := ⟨_, rfl⟩
  have s0 : TwoB w w0 43 (fdC f x).toArray fd0 := by rw [hw0]; exact TwoB.start _ _ _ _
  have sD : TwoB w w0.drew 43 (fdC f x).toArray fd0 := s0.bw (Below.refl _ _).drew
  obtain ⟨CC, hCC⟩ : ∃ z, z = cmC f.cm x.cx := ⟨_, rfl⟩
  obtain ⟨MM, hMM⟩ : ∃ z, z = mlC f.ml x.mx := ⟨_, rfl⟩
  have hCl : CC.length = 15 := by rw [hCC]; rfl
  have hMl : MM.length = 30 := by rw [hMM]; rfl
  have KA : Hid (∀ W, Below w.heap.size w W → Calls Try.prog 39 #[.agg CC.toArray] W fun e w' => ∃ (y : Cv) (us : List Value) (cs' : List Value), e = .returned (.agg cs'.toArray) ∧ Hid (cs'.length = 15 ∧ (∀ u ∈ cs', u.oneCell' = true) ∧ OC W.heap.size w' f.cm y us ∧ cmC f.cm y = cs') ∧ Below W.heap.size W w') := fun W hW => by
    rw [hCC]
    refine Calls.mono (frCommit_any (h.c.bw hW) hs.c) ?_
    rintro e w' ⟨y, us, rfl, h1, h2⟩
    exact ⟨y, us, _, rfl, ⟨rfl, cm_one (h1.rd hs.c), h1, rfl⟩, h2⟩
  have KB : Hid (∀ W, Below w.heap.size w W → Calls Try.prog 40 #[.agg MM.toArray] W fun e w' => ∃ (y : Mx) (cs' : List Value), e = .returned (.agg cs'.toArray) ∧ Hid (cs'.length = 30 ∧ (∀ u ∈ cs', u.oneCell' = true) ∧ OM W.heap.size w' f.ml y ∧ mlC f.ml y = cs') ∧ Below W.heap.size W w') := fun W hW => by
    rw [hMM]
    refine Calls.mono (frMail_any (h.m.bw hW) hs.m) ?_
    rintro e w' ⟨y, rfl, h1, h2⟩
    exact ⟨y, _, rfl, ⟨rfl, ml_one (h1.rd hs.m), h1, rfl⟩, h2⟩
  have RG : Hid (∀ W, Below w0.drew.heap.size w0.drew W → W.rangeAt w.heap.size 3 CC ∧ W.rangeAt w.heap.size 18 MM) := fun W hW =>
    ⟨by rw [hCC]; exact rng_bw (blk_rngQ sD.k1 (fdC_commit f x)) hW, by rw [hMM]; exact rng_bw (blk_rngQ sD.k1 (fdC_mail f x)) hW⟩
  have HI : Hid ((Try.prog.info? 32).map (·.size) = some CC.length ∧ (Try.prog.info? 41).map (·.size) = some MM.length) := ⟨by rw [hCl]; exact infoCmSQ, by rw [hMl]; exact infoMlQ⟩
  have HT : Hid (∀ W (cs : Array Value), Below w0.drew.heap.size w0.drew W → cs.size = 15 → W.there w.heap.size 3 cs.size) := fun W cs hW hc => by
    rw [hc]; exact blk_there (sD.bw hW).k1 (by rw [List.size_toArray, fdC_len]; decide)
  have HD : Hid (∀ (z1 z2 : World) (y : Cv) (us : List Value) (cs1 : List Value) (y2 : Mx) (cs2 : List Value), Below w0.drew.heap.size w0.drew z1 → Below z1.heap.size z1 z2 → OC w0.drew.heap.size z1 f.cm y us → cmC f.cm y = cs1 → OM z1.heap.size z2 f.ml y2 → mlC f.ml y2 = cs2 →
      (z2.setCells w.heap.size 3 cs1).there w.heap.size 18 cs2.length ∧ ∃ (x' : Fx) (V : World), V = (z2.setCells w.heap.size 3 cs1).setCells w.heap.size 18 cs2 ∧ Hid (TwoB w V 43 (fdC f x').toArray fd0 ∧ OF (w.heap.size + 2) V f x')) := fun z1 z2 y us cs1 y2 cs2 b1 b2 o1 e1 o2 e2 => by
    subst e1 e2
    have q2 := sD.bw (bw_tr b1 b2)
    have p1 := q2.pokes1 3 (cmC f.cm y)
    have p2 := p1.1.pokes1 18 (mlC f.ml y2)
    rw [← setCells_pokesQ] at p1
    rw [← setCells_pokesQ, ← setCells_pokesQ] at p2
    have ek : pk (pk (fdC f x).toArray 3 (cmC f.cm y)) 18 (mlC f.ml y2) = (fdC f ⟨y, us, y2⟩).toArray := fdC_pk f x ⟨y, us, y2⟩
    rw [ek] at p2
    refine ⟨blk_there p1.1.k1 ?_, ⟨y, us, y2⟩, _, rfl, p2.1, ?_⟩
    · have e1 : pk (fdC f x).toArray 3 (cmC f.cm y) = (fdH f ++ (cmC f.cm y ++ (mlC f.ml x.mx ++ fdT f))).toArray :=
        pk_mid (cmC f.cm y) (fdH f) (cmC f.cm x.cx) _ rfl
      rw [e1, mlC_len', List.size_toArray, List.length_append, List.length_append, List.length_append, fdH_len, cmC_len, mlC_len']
      omega
    · have kp : ∀ k, w.heap.size + 2 ≤ k → ((z2.setCells w.heap.size 3 (cmC f.cm y)).setCells w.heap.size 18 (mlC f.ml y2)).heap[k]? = z2.heap[k]? := fun k hk => by rw [p2.2 k hk, p1.2 k hk]
      have h2 : w.heap.size + 2 ≤ w0.drew.heap.size := sD.two
      have o1' := o1.mono h2
      have o2' := o2.mono (Nat.le_trans h2 b1.size)
      refine ⟨o1'.keep (fun k hk => ?_), o2'.keep (fun k hk => kp k (o2'.lt k hk).1), fun k hk hq => ?_⟩
      · rw [kp k (o1'.lt k hk).1]; exact b2.block k (o1'.lt k hk).2
      · have h8 := (o1.lt k hk).2
        have h9 := (o2.lt k hq).1
        omega
  have HW : Hid (w0 = (w.alloc (.cells (fdC f x).toArray 43)).alloc (.cells #[.int .u8 0, .int .i64 0, .int .i64 0, .int .i64 0, .int .i64 0, .int .i64 0, .int .i64 0, .int .i64 0, .bool false, .slice none 0 0, .slice none 0 0, .slice none 0 0, .slice none 0 0, .int .i64 0, .int .i64 0, .slice none 0 0, .int .i64 0, .int .i64 0, .int .u8 0, .int .i64 0, .int .i64 0, .int .i64 0, .int .i64 0, .int .i64 0, .bool false, .slice none 0 0, .slice none 0 0, .slice none 0 0, .slice none 0 0, .int .i64 0, .int .i64 0, .slice none 0 0, .int .i64 0, .int .i64 0, .int .i64 0, .int .i64 0, .int .i64 0, .int .i64 0, .int .i64 0, .int .i64 0, .int .i64 0, .slice none 0 0, .int .i64 0, .int .i64 0, .int .i64 0, .int .i64 0, .int .i64 0, .int .i64 0, .int .i64 0, .int .i64 0, .int .i64 0, .int .i64 0, .int .i64 0] 43)) := hw0
  have HS := hide hs
  have HB0 := hide sD.bel
  clear h hs s0 sD hCC hMM hCl hMl hw0
  go_enter Try.func26, Try.ntmps26
  go_upto_region 1 with fail
  rw [← unhide HW]
  clear HW
  refine wp_region_any (by kernel_rfl) ?_
  change wpAny _ _ _ _ _ _ _ (World.drew _)
  refine wpAny_take (i := 0) (oi := { dst := some 3, op := Op.fieldAddr 43 (Operand.tmp 1) 3, type := 0, pos := "fresh.go:77", after := #[], guard := none }) (v := .pointer (some ⟨w.heap.size, 3, none⟩)) rfl (by kernel_rfl) (by kernel_rfl) (by kernel_rfl) (fun _ _ _ h => h) (Or.inl ⟨by rfl, fun w => by go_simp⟩) ?_
  try simp only [Act.put, List.setIfInBounds_toArray, List.set_cons_zero, List.set_cons_succ]
  refine wpAny_take (i := 3) (oi := { dst := some 6, op := Op.fieldAddr 43 (Operand.tmp 1) 4, type := 0, pos := "fresh.go:77", after := #[], guard := none }) (v := .pointer (some ⟨w.heap.size, 18, none⟩)) rfl (by kernel_rfl) (by kernel_rfl) (by kernel_rfl) (fun _ _ _ h => h) (Or.inl ⟨by rfl, fun w => by go_simp⟩) ?_
  try simp only [Act.put, List.setIfInBounds_toArray, List.set_cons_zero, List.set_cons_succ]
  refine wpAny_ready (rs := [1, 4]) (by kernel_rfl) (by simp) (AllReady.cons (o := { dst := some 4, op := Op.load 32 (Operand.tmp 3), type := 32, pos := "fresh.go:77", after := #[{ on := 0, ground := Ground.data }], guard := none }) rfl (fun K hK => ?_) (AllReady.cons (o := { dst := some 7, op := Op.load 41 (Operand.tmp 6), type := 41, pos := "fresh.go:77", after := #[{ on := 3, ground := Ground.data }], guard := none }) rfl (fun K hK => ?_) AllReady.nil))
  · refine step_loadQ rfl 32 (.tmp 3) rfl w.heap.size 3 (by first | rfl | simp [Act.eval, Act.put]) CC _ (unhide RG _ (Below.refl _ _)).1 Try.underlying32 rfl (unhide HI).1 ?_
    refine hK _ _ ?_
    clear hK K
    try simp only [Act.put, List.setIfInBounds_toArray, List.set_cons_zero, List.set_cons_succ]
    refine wpAny_ready (rs := [2, 4]) (by kernel_rfl) (by simp) (AllReady.cons (o := { dst := some 5, op := Op.call { callee := Callee.value (Operand.func 39), args := #[Operand.tmp 4], argTypes := #[32] }, type := 32, pos := "fresh.go:77", after := #[{ on := 1, ground := Ground.data }], guard := none }) rfl (fun K hK => ?_) (AllReady.cons (o := { dst := some 7, op := Op.load 41 (Operand.tmp 6), type := 41, pos := "fresh.go:77", after := #[{ on := 3, ground := Ground.data }], guard := none }) rfl (fun K hK => ?_) AllReady.nil))
    · go_simp
      refine (unhide KA w0.drew (unhide HB0)).mono ?_
      rintro e_ z1 ⟨y1, us1, cs1, rfl, hO1, b1⟩
      have HX1 := hide (And.intro hO1 b1)
      clear hO1 b1
      go_wp2_with fail
      try simp only [Act.put, List.setIfInBounds_toArray, List.set_cons_zero, List.set_cons_succ]
      refine wpAny_ready (rs := [4]) (by kernel_rfl) (by simp) (AllReady.cons (o := { dst := some 7, op := Op.load 41 (Operand.tmp 6), type := 41, pos := "fresh.go:77", after := #[{ on := 3, ground := Ground.data }], guard := none }) rfl (fun K hK => ?_) AllReady.nil)
      refine step_loadQ rfl 41 (.tmp 6) rfl w.heap.size 18 (by first | rfl | simp [Act.eval, Act.put]) MM _ (unhide RG _ (unhide HX1).2).2 Try.underlying41 rfl (unhide HI).2 ?_
      refine hK _ _ ?_
      clear hK K
      try simp only [Act.put, List.setIfInBounds_toArray, List.set_cons_zero, List.set_cons_succ]
      refine wpAny_take (i := 6) (oi := { dst := some 9, op := Op.fieldAddr 43 (Operand.tmp 1) 3, type := 0, pos := "fresh.go:77", after := #[{ on := 0, ground := Ground.phase }, { on := 1, ground := Ground.phase }, { on := 2, ground := Ground.phase }, { on := 3, ground := Ground.phase }, { on := 4, ground := Ground.phase }, { on := 5, ground := Ground.textOnly Departure.lateStoresUnsure }], guard := none }) (v := .pointer (some ⟨w.heap.size, 3, none⟩)) rfl (by kernel_rfl) (by kernel_rfl) (by kernel_rfl) (fun _ _ _ h => h) (Or.inl ⟨by rfl, fun w => by go_simp⟩) ?_
      try simp only [Act.put, List.setIfInBounds_toArray, List.set_cons_zero, List.set_cons_succ]
      refine wpAny_ready (rs := [5]) (by kernel_rfl) (by simp) (AllReady.cons (o := { dst := some 8, op := Op.call { callee := Callee.value (Operand.func 40), args := #[Operand.tmp 7], argTypes := #[41] }, type := 41, pos := "fresh.go:77", after := #[{ on := 4, ground := Ground.data }, { on := 2, ground := Ground.chain }], guard := none }) rfl (fun K hK => ?_) AllReady.nil)
      go_simp
      refine (unhide KB z1 (bw_tr (unhide HB0) (unhide HX1).2)).mono ?_
      rintro e_ z2 ⟨y2, cs2, rfl, hO2, b2⟩
      have HX2 := hide (And.intro hO2 b2)
      clear hO2 b2
      go_wp2_with fail
      try simp only [Act.put, List.setIfInBounds_toArray, List.set_cons_zero, List.set_cons_succ]
      refine wpAny_ready (rs := [7]) (by kernel_rfl) (by simp) (AllReady.cons (o := { dst := none, op := Op.store 32 (Operand.tmp 9) (Operand.tmp 5), type := 0, pos := "fresh.go:77", after := #[{ on := 6, ground := Ground.data }, { on := 2, ground := Ground.data }, { on := 5, ground := Ground.chain }, { on := 0, ground := Ground.phase }, { on := 1, ground := Ground.phase }, { on := 2, ground := Ground.phase }, { on := 3, ground := Ground.phase }, { on := 4, ground := Ground.phase }, { on := 5, ground := Ground.textOnly Departure.lateStoresUnsure }], guard := none }) rfl (fun K hK => ?_) AllReady.nil)
      refine step_storeQ rfl 32 (.tmp 9) (.tmp 5) rfl w.heap.size 3 cs1.toArray (by first | rfl | simp [Act.eval, Act.put]) (by first | rfl | simp [Act.eval, Act.put]) (unhide HT z2 _ (bw_tr (unhide HX1).2 (unhide HX2).2) (by rw [List.size_toArray]; exact (unhide (unhide HX1).1).1)) (by rw [List.size_toArray, (unhide (unhide HX1).1).1]; exact infoCmSQ) (all_oneCell_toArray (unhide (unhide HX1).1).2.1) ?_
      refine hK _ _ ?_
      clear hK K
      try simp only [Act.put]
      refine wpAny_take (i := 8) (oi := { dst := some 10, op := Op.fieldAddr 43 (Operand.tmp 1) 4, type := 0, pos := "fresh.go:77", after := #[{ on := 0, ground := Ground.phase }, { on := 1, ground := Ground.phase }, { on := 2, ground := Ground.phase }, { on := 3, ground := Ground.phase }, { on := 4, ground := Ground.phase }, { on := 5, ground := Ground.phase }, { on := 6, ground := Ground.phase }, { on := 7, ground := Ground.phase }], guard := none }) (v := .pointer (some ⟨w.heap.size, 18, none⟩)) rfl (by kernel_rfl) (by kernel_rfl) (by kernel_rfl) (fun _ _ _ h => h) (Or.inl ⟨by rfl, fun w => by go_simp⟩) ?_
      try simp only [Act.put, List.setIfInBounds_toArray, List.set_cons_zero, List.set_cons_succ]
      refine wpAny_ready (rs := [9]) (by kernel_rfl) (by simp) (AllReady.cons (o := { dst := none, op := Op.store 41 (Operand.tmp 10) (Operand.tmp 8), type := 0, pos := "fresh.go:77", after := #[{ on := 8, ground := Ground.data }, { on := 5, ground := Ground.data }, { on := 7, ground := Ground.chain }, { on := 0, ground := Ground.phase }, { on := 1, ground := Ground.phase }, { on := 2, ground := Ground.phase }, { on := 3, ground := Ground.phase }, { on := 4, ground := Ground.phase }, { on := 5, ground := Ground.phase }, { on := 6, ground := Ground.phase }, { on := 7, ground := Ground.phase }], guard := none }) rfl (fun K hK => ?_) AllReady.nil)
      have HDN := unhide HD z1 z2 y1 us1 cs1 y2 cs2 (unhide HX1).2 (unhide HX2).2 (unhide (unhide HX1).1).2.2.1 (unhide (unhide HX1).1).2.2.2 (unhide (unhide HX2).1).2.2.1 (unhide (unhide HX2).1).2.2.2
      obtain ⟨ht9, x9, V, hV, HV⟩ := HDN
      refine step_storeQ rfl 41 (.tmp 10) (.tmp 8) rfl w.heap.size 18 cs2.toArray (by first | rfl | simp [Act.eval, Act.put]) (by first | rfl | simp [Act.eval, Act.put]) (by rw [List.size_toArray]; exact ht9) (by rw [List.size_toArray, (unhide (unhide HX2).1).1]; exact infoMlQ) (all_oneCell_toArray (unhide (unhide HX2).1).2.1) ?_
      refine hK _ _ ?_
      rw [show (z2.setCells w.heap.size 3 cs1.toArray.toList).setCells w.heap.size 18 cs2.toArray.toList = V from hV.symm]
      clear hK K ht9 hV
      try simp only [Act.put]
      refine wpAny_done (by kernel_rfl) ?_ _
      have om := (unhide HV).2
      have s2 := (unhide HV).1
      have z1_ := all_oneCell_toArray (fd_one (om.rd (unhide HS)))
      obtain ⟨C1, hC1⟩ : ∃ C : Array Value, C = (fdC f x9).toArray := ⟨_, rfl⟩
      rw [← hC1] at s2 z1_
      have z0 : C1.size = 53 := by rw [hC1, List.size_toArray]; rfl
      have z2_ : (Try.prog.info? 43).map (·.size) = some C1.size := by rw [z0]; exact infoFdS
      have HO : Hid (OF w.heap.size (V.setRow (w.heap.size + 1) C1) f x9 ∧ Below w.heap.size w (V.setRow (w.heap.size + 1) C1)) :=
        ⟨(om.keep (fun k hk => setRow_other _ _ _ _ (by have := (om.lt k hk).1; omega))).mono (by omega), below_setRow' s2.bel (by omega) _⟩
      have HC := hide hC1
      have HZ := hide (And.intro s2.k1 (And.intro s2.k2 (And.intro z0 (And.intro z1_ z2_))))
      clear om s2 hC1 z0 z1_ z2_ HV HX1 HX2 HS HT HI RG KA KB HD HB0
      go_wp2_with (first | refine wpList_load_row rfl 43 (.tmp 1) rfl w.heap.size rfl 43 C1 (0, 0) _ (unhide HZ).1 Try.underlying43 rfl (unhide HZ).2.2.2.2 ?_ | refine wpList_store_row rfl 43 (.tmp 2) (.tmp 11) rfl (w.heap.size + 1) C1 rfl rfl 43 fd0 (unhide HZ).2.1 (unhide HZ).2.2.2.2 (by rw [(unhide HZ).2.2.1]; rfl) (unhide HZ).2.2.2.1 ?_)
      refine bodyPost_ret (v := .agg C1) (results_cell_row Try.results26 _ _ (w.heap.size + 1) 43 C1 (0, 0) _ rfl (setRow_heap _ _ _ _ _ _ (unhide HZ).2.1) Try.underlying43 rfl (unhide HZ).2.2.2.2) rfl ⟨x9, by rw [unhide HC], (unhide HO).1, (unhide HO).2⟩
    · refine step_loadQ rfl 41 (.tmp 6) rfl w.heap.size 18 (by first | rfl | simp [Act.eval, Act.put]) MM _ (unhide RG _ (Below.refl _ _)).2 Try.underlying41 rfl (unhide HI).2 ?_
      refine hK _ _ ?_
      clear hK K
      try simp only [Act.put, List.setIfInBounds_toArray, List.set_cons_zero, List.set_cons_succ]
      refine wpAny_ready (rs := [2]) (by kernel_rfl) (by simp) (AllReady.cons (o := { dst := some 5, op := Op.call { callee := Callee.value (Operand.func 39), args := #[Operand.tmp 4], argTypes := #[32] }, type := 32, pos := "fresh.go:77", after := #[{ on := 1, ground := Ground.data }], guard := none }) rfl (fun K hK => ?_) AllReady.nil)
      go_simp
      refine (unhide KA w0.drew (unhide HB0)).mono ?_
      rintro e_ z1 ⟨y1, us1, cs1, rfl, hO1, b1⟩
      have HX1 := hide (And.intro hO1 b1)
      clear hO1 b1
      go_wp2_with fail
      try simp only [Act.put, List.setIfInBounds_toArray, List.set_cons_zero, List.set_cons_succ]
      refine wpAny_take (i := 6) (oi := { dst := some 9, op := Op.fieldAddr 43 (Operand.tmp 1) 3, type := 0, pos := "fresh.go:77", after := #[{ on := 0, ground := Ground.phase }, { on := 1, ground := Ground.phase }, { on := 2, ground := Ground.phase }, { on := 3, ground := Ground.phase }, { on := 4, ground := Ground.phase }, { on := 5, ground := Ground.textOnly Departure.lateStoresUnsure }], guard := none }) (v := .pointer (some ⟨w.heap.size, 3, none⟩)) rfl (by kernel_rfl) (by kernel_rfl) (by kernel_rfl) (fun _ _ _ h => h) (Or.inl ⟨by rfl, fun w => by go_simp⟩) ?_
      try simp only [Act.put, List.setIfInBounds_toArray, List.set_cons_zero, List.set_cons_succ]
      refine wpAny_ready (rs := [5]) (by kernel_rfl) (by simp) (AllReady.cons (o := { dst := some 8, op := Op.call { callee := Callee.value (Operand.func 40), args := #[Operand.tmp 7], argTypes := #[41] }, type := 41, pos := "fresh.go:77", after := #[{ on := 4, ground := Ground.data }, { on := 2, ground := Ground.chain }], guard := none }) rfl (fun K hK => ?_) AllReady.nil)
      go_simp
      refine (unhide KB z1 (bw_tr (unhide HB0) (unhide HX1).2)).mono ?_
      rintro e_ z2 ⟨y2, cs2, rfl, hO2, b2⟩
      have HX2 := hide (And.intro hO2 b2)
      clear hO2 b2
      go_wp2_with fail
      try simp only [Act.put, List.setIfInBounds_toArray, List.set_cons_zero, List.set_cons_succ]
      refine wpAny_ready (rs := [7]) (by kernel_rfl) (by simp) (AllReady.cons (o := { dst := none, op := Op.store 32 (Operand.tmp 9) (Operand.tmp 5), type := 0, pos := "fresh.go:77", after := #[{ on := 6, ground := Ground.data }, { on := 2, ground := Ground.data }, { on := 5, ground := Ground.chain }, { on := 0, ground := Ground.phase }, { on := 1, ground := Ground.phase }, { on := 2, ground := Ground.phase }, { on := 3, ground := Ground.phase }, { on := 4, ground := Ground.phase }, { on := 5, ground := Ground.textOnly Departure.lateStoresUnsure }], guard := none }) rfl (fun K hK => ?_) AllReady.nil)
      refine step_storeQ rfl 32 (.tmp 9) (.tmp 5) rfl w.heap.size 3 cs1.toArray (by first | rfl | simp [Act.eval, Act.put]) (by first | rfl | simp [Act.eval, Act.put]) (unhide HT z2 _ (bw_tr (unhide HX1).2 (unhide HX2).2) (by rw [List.size_toArray]; exact (unhide (unhide HX1).1).1)) (by rw [List.size_toArray, (unhide (unhide HX1).1).1]; exact infoCmSQ) (all_oneCell_toArray (unhide (unhide HX1).1).2.1) ?_
      refine hK _ _ ?_
      clear hK K
      try simp only [Act.put]
      refine wpAny_take (i := 8) (oi := { dst := some 10, op := Op.fieldAddr 43 (Operand.tmp 1) 4, type := 0, pos := "fresh.go:77", after := #[{ on := 0, ground := Ground.phase }, { on := 1, ground := Ground.phase }, { on := 2, ground := Ground.phase }, { on := 3, ground := Ground.phase }, { on := 4, ground := Ground.phase }, { on := 5, ground := Ground.phase }, { on := 6, ground := Ground.phase }, { on := 7, ground := Ground.phase }], guard := none }) (v := .pointer (some ⟨w.heap.size, 18, none⟩)) rfl (by kernel_rfl) (by kernel_rfl) (by kernel_rfl) (fun _ _ _ h => h) (Or.inl ⟨by rfl, fun w => by go_simp⟩) ?_
      try simp only [Act.put, List.setIfInBounds_toArray, List.set_cons_zero, List.set_cons_succ]
      refine wpAny_ready (rs := [9]) (by kernel_rfl) (by simp) (AllReady.cons (o := { dst := none, op := Op.store 41 (Operand.tmp 10) (Operand.tmp 8), type := 0, pos := "fresh.go:77", after := #[{ on := 8, ground := Ground.data }, { on := 5, ground := Ground.data }, { on := 7, ground := Ground.chain }, { on := 0, ground := Ground.phase }, { on := 1, ground := Ground.phase }, { on := 2, ground := Ground.phase }, { on := 3, ground := Ground.phase }, { on := 4, ground := Ground.phase }, { on := 5, ground := Ground.phase }, { on := 6, ground := Ground.phase }, { on := 7, ground := Ground.phase }], guard := none }) rfl (fun K hK => ?_) AllReady.nil)
      have HDN := unhide HD z1 z2 y1 us1 cs1 y2 cs2 (unhide HX1).2 (unhide HX2).2 (unhide (unhide HX1).1).2.2.1 (unhide (unhide HX1).1).2.2.2 (unhide (unhide HX2).1).2.2.1 (unhide (unhide HX2).1).2.2.2
      obtain ⟨ht9, x9, V, hV, HV⟩ := HDN
      refine step_storeQ rfl 41 (.tmp 10) (.tmp 8) rfl w.heap.size 18 cs2.toArray (by first | rfl | simp [Act.eval, Act.put]) (by first | rfl | simp [Act.eval, Act.put]) (by rw [List.size_toArray]; exact ht9) (by rw [List.size_toArray, (unhide (unhide HX2).1).1]; exact infoMlQ) (all_oneCell_toArray (unhide (unhide HX2).1).2.1) ?_
      refine hK _ _ ?_
      rw [show (z2.setCells w.heap.size 3 cs1.toArray.toList).setCells w.heap.size 18 cs2.toArray.toList = V from hV.symm]
      clear hK K ht9 hV
      try simp only [Act.put]
      refine wpAny_done (by kernel_rfl) ?_ _
      have om := (unhide HV).2
      have s2 := (unhide HV).1
      have z1_ := all_oneCell_toArray (fd_one (om.rd (unhide HS)))
      obtain ⟨C1, hC1⟩ : ∃ C : Array Value, C = (fdC f x9).toArray := ⟨_, rfl⟩
      rw [← hC1] at s2 z1_
      have z0 : C1.size = 53 := by rw [hC1, List.size_toArray]; rfl
      have z2_ : (Try.prog.info? 43).map (·.size) = some C1.size := by rw [z0]; exact infoFdS
      have HO : Hid (OF w.heap.size (V.setRow (w.heap.size + 1) C1) f x9 ∧ Below w.heap.size w (V.setRow (w.heap.size + 1) C1)) :=
        ⟨(om.keep (fun k hk => setRow_other _ _ _ _ (by have := (om.lt k hk).1; omega))).mono (by omega), below_setRow' s2.bel (by omega) _⟩
      have HC := hide hC1
      have HZ := hide (And.intro s2.k1 (And.intro s2.k2 (And.intro z0 (And.intro z1_ z2_))))
      clear om s2 hC1 z0 z1_ z2_ HV HX1 HX2 HS HT HI RG KA KB HD HB0
      go_wp2_with (first | refine wpList_load_row rfl 43 (.tmp 1) rfl w.heap.size rfl 43 C1 (0, 0) _ (unhide HZ).1 Try.underlying43 rfl (unhide HZ).2.2.2.2 ?_ | refine wpList_store_row rfl 43 (.tmp 2) (.tmp 11) rfl (w.heap.size + 1) C1 rfl rfl 43 fd0 (unhide HZ).2.1 (unhide HZ).2.2.2.2 (by rw [(unhide HZ).2.2.1]; rfl) (unhide HZ).2.2.2.1 ?_)
      refine bodyPost_ret (v := .agg C1) (results_cell_row Try.results26 _ _ (w.heap.size + 1) 43 C1 (0, 0) _ rfl (setRow_heap _ _ _ _ _ _ (unhide HZ).2.1) Try.underlying43 rfl (unhide HZ).2.2.2.2) rfl ⟨x9, by rw [unhide HC], (unhide HO).1, (unhide HO).2⟩
  · refine step_loadQ rfl 41 (.tmp 6) rfl w.heap.size 18 (by first | rfl | simp [Act.eval, Act.put]) MM _ (unhide RG _ (Below.refl _ _)).2 Try.underlying41 rfl (unhide HI).2 ?_
    refine hK _ _ ?_
    clear hK K
    try simp only [Act.put, List.setIfInBounds_toArray, List.set_cons_zero, List.set_cons_succ]
    refine wpAny_ready (rs := [1]) (by kernel_rfl) (by simp) (AllReady.cons (o := { dst := some 4, op := Op.load 32 (Operand.tmp 3), type := 32, pos := "fresh.go:77", after := #[{ on := 0, ground := Ground.data }], guard := none }) rfl (fun K hK => ?_) AllReady.nil)
    refine step_loadQ rfl 32 (.tmp 3) rfl w.heap.size 3 (by first | rfl | simp [Act.eval, Act.put]) CC _ (unhide RG _ (Below.refl _ _)).1 Try.underlying32 rfl (unhide HI).1 ?_
    refine hK _ _ ?_
    clear hK K
    try simp only [Act.put, List.setIfInBounds_toArray, List.set_cons_zero, List.set_cons_succ]
    refine wpAny_ready (rs := [2]) (by kernel_rfl) (by simp) (AllReady.cons (o := { dst := some 5, op := Op.call { callee := Callee.value (Operand.func 39), args := #[Operand.tmp 4], argTypes := #[32] }, type := 32, pos := "fresh.go:77", after := #[{ on := 1, ground := Ground.data }], guard := none }) rfl (fun K hK => ?_) AllReady.nil)
    go_simp
    refine (unhide KA w0.drew (unhide HB0)).mono ?_
    rintro e_ z1 ⟨y1, us1, cs1, rfl, hO1, b1⟩
    have HX1 := hide (And.intro hO1 b1)
    clear hO1 b1
    go_wp2_with fail
    try simp only [Act.put, List.setIfInBounds_toArray, List.set_cons_zero, List.set_cons_succ]
    refine wpAny_take (i := 6) (oi := { dst := some 9, op := Op.fieldAddr 43 (Operand.tmp 1) 3, type := 0, pos := "fresh.go:77", after := #[{ on := 0, ground := Ground.phase }, { on := 1, ground := Ground.phase }, { on := 2, ground := Ground.phase }, { on := 3, ground := Ground.phase }, { on := 4, ground := Ground.phase }, { on := 5, ground := Ground.textOnly Departure.lateStoresUnsure }], guard := none }) (v := .pointer (some ⟨w.heap.size, 3, none⟩)) rfl (by kernel_rfl) (by kernel_rfl) (by kernel_rfl) (fun _ _ _ h => h) (Or.inl ⟨by rfl, fun w => by go_simp⟩) ?_
    try simp only [Act.put, List.setIfInBounds_toArray, List.set_cons_zero, List.set_cons_succ]
    refine wpAny_ready (rs := [5]) (by kernel_rfl) (by simp) (AllReady.cons (o := { dst := some 8, op := Op.call { callee := Callee.value (Operand.func 40), args := #[Operand.tmp 7], argTypes := #[41] }, type := 41, pos := "fresh.go:77", after := #[{ on := 4, ground := Ground.data }, { on := 2, ground := Ground.chain }], guard := none }) rfl (fun K hK => ?_) AllReady.nil)
    go_simp
    refine (unhide KB z1 (bw_tr (unhide HB0) (unhide HX1).2)).mono ?_
    rintro e_ z2 ⟨y2, cs2, rfl, hO2, b2⟩
    have HX2 := hide (And.intro hO2 b2)
    clear hO2 b2
    go_wp2_with fail
    try simp only [Act.put, List.setIfInBounds_toArray, List.set_cons_zero, List.set_cons_succ]
    refine wpAny_ready (rs := [7]) (by kernel_rfl) (by simp) (AllReady.cons (o := { dst := none, op := Op.store 32 (Operand.tmp 9) (Operand.tmp 5), type := 0, pos := "fresh.go:77", after := #[{ on := 6, ground := Ground.data }, { on := 2, ground := Ground.data }, { on := 5, ground := Ground.chain }, { on := 0, ground := Ground.phase }, { on := 1, ground := Ground.phase }, { on := 2, ground := Ground.phase }, { on := 3, ground := Ground.phase }, { on := 4, ground := Ground.phase }, { on := 5, ground := Ground.textOnly Departure.lateStoresUnsure }], guard := none }) rfl (fun K hK => ?_) AllReady.nil)
    refine step_storeQ rfl 32 (.tmp 9) (.tmp 5) rfl w.heap.size 3 cs1.toArray (by first | rfl | simp [Act.eval, Act.put]) (by first | rfl | simp [Act.eval, Act.put]) (unhide HT z2 _ (bw_tr (unhide HX1).2 (unhide HX2).2) (by rw [List.size_toArray]; exact (unhide (unhide HX1).1).1)) (by rw [List.size_toArray, (unhide (unhide HX1).1).1]; exact infoCmSQ) (all_oneCell_toArray (unhide (unhide HX1).1).2.1) ?_
    refine hK _ _ ?_
    clear hK K
    try simp only [Act.put]
    refine wpAny_take (i := 8) (oi := { dst := some 10, op := Op.fieldAddr 43 (Operand.tmp 1) 4, type := 0, pos := "fresh.go:77", after := #[{ on := 0, ground := Ground.phase }, { on := 1, ground := Ground.phase }, { on := 2, ground := Ground.phase }, { on := 3, ground := Ground.phase }, { on := 4, ground := Ground.phase }, { on := 5, ground := Ground.phase }, { on := 6, ground := Ground.phase }, { on := 7, ground := Ground.phase }], guard := none }) (v := .pointer (some ⟨w.heap.size, 18, none⟩)) rfl (by kernel_rfl) (by kernel_rfl) (by kernel_rfl) (fun _ _ _ h => h) (Or.inl ⟨by rfl, fun w => by go_simp⟩) ?_
    try simp only [Act.put, List.setIfInBounds_toArray, List.set_cons_zero, List.set_cons_succ]
    refine wpAny_ready (rs := [9]) (by kernel_rfl) (by simp) (AllReady.cons (o := { dst := none, op := Op.store 41 (Operand.tmp 10) (Operand.tmp 8), type := 0, pos := "fresh.go:77", after := #[{ on := 8, ground := Ground.data }, { on := 5, ground := Ground.data }, { on := 7, ground := Ground.chain }, { on := 0, ground := Ground.phase }, { on := 1, ground := Ground.phase }, { on := 2, ground := Ground.phase }, { on := 3, ground := Ground.phase }, { on := 4, ground := Ground.phase }, { on := 5, ground := Ground.phase }, { on := 6, ground := Ground.phase }, { on := 7, ground := Ground.phase }], guard := none }) rfl (fun K hK => ?_) AllReady.nil)
    have HDN := unhide HD z1 z2 y1 us1 cs1 y2 cs2 (unhide HX1).2 (unhide HX2).2 (unhide (unhide HX1).1).2.2.1 (unhide (unhide HX1).1).2.2.2 (unhide (unhide HX2).1).2.2.1 (unhide (unhide HX2).1).2.2.2
    obtain ⟨ht9, x9, V, hV, HV⟩ := HDN
    refine step_storeQ rfl 41 (.tmp 10) (.tmp 8) rfl w.heap.size 18 cs2.toArray (by first | rfl | simp [Act.eval, Act.put]) (by first | rfl | simp [Act.eval, Act.put]) (by rw [List.size_toArray]; exact ht9) (by rw [List.size_toArray, (unhide (unhide HX2).1).1]; exact infoMlQ) (all_oneCell_toArray (unhide (unhide HX2).1).2.1) ?_
    refine hK _ _ ?_
    rw [show (z2.setCells w.heap.size 3 cs1.toArray.toList).setCells w.heap.size 18 cs2.toArray.toList = V from hV.symm]
    clear hK K ht9 hV
    try simp only [Act.put]
    refine wpAny_done (by kernel_rfl) ?_ _
    have om := (unhide HV).2
    have s2 := (unhide HV).1
    have z1_ := all_oneCell_toArray (fd_one (om.rd (unhide HS)))
    obtain ⟨C1, hC1⟩ : ∃ C : Array Value, C = (fdC f x9).toArray := ⟨_, rfl⟩
    rw [← hC1] at s2 z1_
    have z0 : C1.size = 53 := by rw [hC1, List.size_toArray]; rfl
    have z2_ : (Try.prog.info? 43).map (·.size) = some C1.size := by rw [z0]; exact infoFdS
    have HO : Hid (OF w.heap.size (V.setRow (w.heap.size + 1) C1) f x9 ∧ Below w.heap.size w (V.setRow (w.heap.size + 1) C1)) :=
      ⟨(om.keep (fun k hk => setRow_other _ _ _ _ (by have := (om.lt k hk).1; omega))).mono (by omega), below_setRow' s2.bel (by omega) _⟩
    have HC := hide hC1
    have HZ := hide (And.intro s2.k1 (And.intro s2.k2 (And.intro z0 (And.intro z1_ z2_))))
    clear om s2 hC1 z0 z1_ z2_ HV HX1 HX2 HS HT HI RG KA KB HD HB0
    go_wp2_with (first | refine wpList_load_row rfl 43 (.tmp 1) rfl w.heap.size rfl 43 C1 (0, 0) _ (unhide HZ).1 Try.underlying43 rfl (unhide HZ).2.2.2.2 ?_ | refine wpList_store_row rfl 43 (.tmp 2) (.tmp 11) rfl (w.heap.size + 1) C1 rfl rfl 43 fd0 (unhide HZ).2.1 (unhide HZ).2.2.2.2 (by rw [(unhide HZ).2.2.1]; rfl) (unhide HZ).2.2.2.1 ?_)
    refine bodyPost_ret (v := .agg C1) (results_cell_row Try.results26 _ _ (w.heap.size + 1) 43 C1 (0, 0) _ rfl (setRow_heap _ _ _ _ _ _ (unhide HZ).2.1) Try.underlying43 rfl (unhide HZ).2.2.2.2) rfl ⟨x9, by rw [unhide HC], (unhide HO).1, (unhide HO).2⟩
end Go.Proofs.Ytgiicendejgklaa

/- Lists of feeds: copies, in memory of their own (fresh.List). mkQuC.py writes it. -/
namespace Go.Proofs.Ytgiicendejgklaa
open Go.RowKit Go.Maps
set_option maxRecDepth 100000 in
set_option maxHeartbeats 8000000 in
theorem listFeed_any {w : World} {v : Value} {l : List Fd} {xs : List Fx} (h : RdL kFd w v l xs) (hl : l.length ≤ 1073741824) :
    Calls Try.prog 51 #[v, .func (.func 26) #[] #[]] w fun e w' => ∃ v' xs', e = .returned v' ∧ OwL kFd w.heap.size w' v' l xs' ∧ Below w.heap.size w w' := by
  obtain ⟨ad, cap, rfl, hsrc⟩ := h.form
  have KC := hide (cloneFeed_any (w := w) (a := ad) (cap := cap) (cs := cellK kFd l xs) (cellK_len h.xl) (cellK_one h.xl h.el) hl (hsrc.imp (fun c => by rw [c]; rfl) (fun c => c)))
  have HC : Hid (∀ (w1 wr : World) (v : Value) (g : Nat) (xs : List Fx) (i : Nat), CpL kFd w.heap.size w w1 wr v g l xs i → i < l.length → ∃ (a : Fd) (cs : List Value), l[i]? = some a ∧ cs.length = 53 ∧ (∀ u ∈ cs, u.oneCell' = true) ∧ wr.rangeAt g (i * 53) cs ∧ wr.there g (i * 53) 53 ∧
      ∀ W, Below w.heap.size w W → Calls Try.prog 26 #[.agg cs.toArray] W fun x w' => ∃ (x' : Fx) (cs' : List Value), x = .returned (.agg cs'.toArray) ∧ Hid (cs'.length = 53 ∧ (∀ u ∈ cs', u.oneCell' = true) ∧ OF W.heap.size w' a x' ∧ fdC a x' = cs') ∧ Below W.heap.size W w') := by
    intro w1 wr v g xs i hcp hi
    obtain ⟨a, x, ha, hx, hR, hc⟩ := hcp.at hi
    refine ⟨a, fdC a x, ha, rfl, fd_one hR.1, hc, fun j hj => ⟨?_, own_frozen hcp.row hcp.own _⟩, fun W hW => ?_⟩
    · have : (fdC a x)[j]? = some ((fdC a x)[j]'(by rw [fdC_len]; exact hj)) := List.getElem?_eq_getElem _
      rw [show wr.cell? ⟨g, i * 53 + j, none⟩ = _ from hc j _ this]; rfl
    · refine (frFeed_any (w := W) (hR.1.bw hW) hR.2).mono ?_
      rintro y w' ⟨x', rfl, ho, hb⟩
      exact ⟨x', _, rfl, ⟨rfl, fd_one (OF.rd ho hR.2), ho, rfl⟩, hb⟩
  have HR := hide h
  obtain ⟨N, hN⟩ : ∃ N, N = l.length := ⟨_, rfl⟩
  rw [← hN] at KC HC hl ⊢
  have hNI : (N : Int) ≤ 1073741824 := by omega
  have HN := hide hN
  clear h hsrc hl hN
  rcases Nat.eq_zero_or_pos N with h0 | h0
  · subst h0
    go_enter Try.func51, Try.ntmps51
    go_wp2_with fail
    refine (unhide KC).mono ?_
    rintro e w1 ⟨v1, rfl, ho, b1⟩
    obtain ⟨a1, c1, rfl⟩ := own_slice ho
    have HO := hide (And.intro ho b1)
    clear ho b1 KC HC
    go_wp2_with fail
    go_loopw [12] (fun iv wr => iv = .int .i64 0 ∧ wr = w1) (fun _ _ => 0)
    case atStart => exact ⟨rfl, rfl⟩
    case round =>
      obtain ⟨rfl, rfl⟩ := hrel
      go_wp2_with fail
      go_ret
      have hl0 : l = [] := List.eq_nil_of_length_eq_zero (unhide HN).symm
      have hx0 : xs = [] := List.eq_nil_of_length_eq_zero (by rw [(unhide HR).xl, hl0]; rfl)
      subst hl0 hx0
      exact ⟨_, [], rfl, ⟨rfl, (unhide HO).1, by simp, by simp, by simp⟩, (unhide HO).2⟩
  · go_enter Try.func51, Try.ntmps51
    go_wp2_with fail
    refine (unhide KC).mono ?_
    rintro e w1 ⟨v1, rfl, ho, b1⟩
    obtain ⟨g, c1, rfl, hg, _, _⟩ := own_open ho h0
    have S0 : Hid (CpL kFd w.heap.size w w1 w1 (.slice (some ⟨g, 0, none⟩) N c1) g l xs 0) := CpL.start (unhide HR) (by rw [← unhide HN]; exact ho) rfl
    have HB := hide (And.intro b1 hg)
    clear ho b1 KC hg
    go_wp2_with fail
    go_loopw [12] (fun iv wr => ∃ (i : Nat) (xs' : List Fx), iv = .int .i64 (i : Int) ∧ i ≤ N ∧ Hid (CpL kFd w.heap.size w w1 wr (.slice (some ⟨g, 0, none⟩) N c1) g l xs' i)) (fun iv _ => (N - intOf iv).toNat)
    case atStart => exact ⟨0, xs, rfl, Nat.zero_le _, S0⟩
    case round =>
      clear S0
      obtain ⟨i, xs', rfl, hi, HS⟩ := hrel
      by_cases hlt : i < N
      · obtain ⟨a, cs, ha, hcl, hc1, hrg, hth, KF⟩ := unhide HC w1 wr _ g xs' i (unhide HS) hlt
        have q1 : (i : Int) < (N : Int) := by omega
        have q0 : (0 : Int) ≤ (i : Int) := by omega
        have z1 : (Try.prog.info? 43).map (·.size) = some cs.length := by rw [hcl]; exact infoFdS
        have z2 : (Try.prog.info? 43).map (·.size) = some cs.toArray.size := by rw [List.size_toArray, hcl]; exact infoFdS
        have z3 : fd0.size = cs.toArray.size := by
          have q : cs.toArray.size = 53 := by simpa using hcl
          rw [q]; rfl
        have z4 := all_oneCell_toArray hc1
        have HZ := hide (And.intro hrg (And.intro z1 (And.intro z2 (And.intro z3 z4))))
        have bw0 : Below w.heap.size w wr := Fr.toBase (unhide HB).1 (unhide HS).fr (by intro x hx; rw [List.mem_singleton] at hx; subst hx; exact (World.ownsRow.lt (unhide HS).row x (unhide HS).own).1)
        have HF := hide (And.intro ha (And.intro hth (And.intro bw0 KF)))
        clear hrg z1 z2 z3 z4 hc1 hcl ha hth KF bw0
        go_upto_region 5 with (first | refine wpList_load_mid rfl 43 (.tmp 15) rfl g (i * 53) (by simp [Act.eval]) cs _ (unhide HZ).1 Try.underlying43 rfl (unhide HZ).2.1 ?_ | refine wpList_store_row rfl 43 (.tmp 7) (.tmp 16) rfl wr.heap.size cs.toArray rfl rfl 43 fd0 (heap_alloc_new _ _) (unhide HZ).2.2.1 (unhide HZ).2.2.2.1 (unhide HZ).2.2.2.2 ?_)
        generalize hW : World.setRow (wr.alloc _) wr.heap.size cs.toArray = W2
        have g0 : W2.heap[wr.heap.size]? = some (.cells cs.toArray 43 (0, 0)) := by rw [← hW]; exact setRow_heap _ _ _ _ _ _ (heap_alloc_new _ _)
        have g1 : Below wr.heap.size wr W2 := by rw [← hW]; exact below_setRow' (bwA _ _) (Nat.le_refl _) _
        clear hW
        have KF1 := hide ((unhide HF).2.2.2 W2 (bw_tr (unhide HF).2.2.1 g1))
        have HG := hide (And.intro g0 g1)
        clear g0 g1
        go_wp2_with (refine wpList_load_row rfl 43 (.tmp 7) rfl wr.heap.size rfl 43 cs.toArray (0, 0) _ (unhide HG).1 Try.underlying43 rfl (unhide HZ).2.2.1 ?_)
        refine (unhide KF1).mono ?_
        rintro x w2 ⟨x', cs', rfl, hO, b2⟩
        have th2 : w2.there g (i * 53) cs'.toArray.size := fun j hj => by
          have hj' : j < 53 := by rw [List.size_toArray, (unhide hO).1] at hj; exact hj
          have b9 := bw_tr (unhide HG).2 b2
          have hg9 : g < wr.heap.size := (unhide HS).glt
          have e9 := b9.block g hg9
          obtain ⟨p1, p2⟩ := (unhide HF).2.1 j hj'
          exact ⟨by rw [World.cell?_of_block (w := wr) e9]; exact p1, by rw [World.frozen?_of_block (w := wr) e9]; exact p2⟩
        have y1 : (Try.prog.info? 43).map (·.size) = some cs'.toArray.size := by rw [List.size_toArray, (unhide hO).1]; exact infoFdS
        have y2 := all_oneCell_toArray (unhide hO).2.1
        have HX : Hid (CpL kFd w.heap.size w w1 (w2.setCells g (i * 53) cs'.toArray.toList) (.slice (some ⟨g, 0, none⟩) N c1) g l (xs'.set i x') (i + 1)) := by
          have := ((unhide HS).bw (unhide HG).2).step (unhide HF).1 b2 (unhide hO).2.2.1 (unhide HB).2
          rw [show kFd.C a x' = cs' from (unhide hO).2.2.2] at this
          rw [setCells_pokesQ]
          exact this
        have HY := hide (And.intro th2 (And.intro y1 y2))
        clear th2 y1 y2 hO b2 KF1 HF HZ HG
        go_wp2_with (refine wpList_store_mid rfl 43 (.tmp 22) (.tmp 21) rfl g (i * 53) cs'.toArray (by simp [Act.eval]) rfl (unhide HY).1 (unhide HY).2.1 (unhide HY).2.2 ?_)
        go_roundw
        case rel => exact ⟨i + 1, _, by go_num, by omega, HX⟩
        case measure => simp [intOf]; omega
      · obtain rfl : i = N := by omega
        have HO : Hid (OwL kFd w.heap.size wr (.slice (some ⟨g, 0, none⟩) i c1) l xs' ∧ Below w.heap.size w wr) := by
          have hS := unhide HS
          refine ⟨?_, Fr.toBase (unhide HB).1 hS.fr (by intro x hx; rw [List.mem_singleton] at hx; subst hx; exact (World.ownsRow.lt hS.row x hS.own).1)⟩
          have e := unhide HN
          have hS' : CpL kFd w.heap.size w w1 wr (.slice (some ⟨g, 0, none⟩) i c1) g l xs' l.length := by rw [← e]; exact hS
          exact hS'.done (unhide HB).1.size (unhide HB).2
        clear HS HC
        go_wp2_with fail
        go_ret
        exact ⟨_, xs', rfl, (unhide HO).1, (unhide HO).2⟩
end Go.Proofs.Ytgiicendejgklaa

/- Something that came early: its copy (fresh.Early). mkQuC.py writes it. -/
namespace Go.Proofs.Ytgiicendejgklaa
open Go.RowKit Go.Maps
theorem infoErS : (Try.prog.info? 87).map (·.size) = some 54 := by kernel_rfl
theorem erC_feed (e : Er) (x : Fx) : ∀ j u, (fdC e.fd x)[j]? = some u → (erC e x)[1 + j]? = some u := fun j u hj => by
  unfold erC
  rw [Nat.add_comm, List.getElem?_cons_succ]; exact hj
theorem erC_pk (e : Er) (x y : Fx) : pk (erC e x).toArray 1 (fdC e.fd y) = (erC e y).toArray := by
  have := pk_mid (fdC e.fd y) [Value.int .i64 e.sq] (fdC e.fd x) [] rfl
  rw [List.append_nil, List.append_nil] at this
  exact this
set_option maxRecDepth 100000 in
set_option maxHeartbeats 8000000 in
theorem frEarly_any {w : World} {f : Er} {x : Fx} (h : FdR w f.fd x) (hs : SmF f.fd) :
    Calls Try.prog 53 #[.agg (erC f x).toArray] w fun e w' => ∃ x', e = .returned (.agg (erC f x').toArray) ∧ OF w.heap.size w' f.fd x' ∧ Below w.heap.size w w' := by
  obtain ⟨w0, hw0⟩ : ∃ w0, w0 = (w.alloc (.cells (erC f x).toArray 87)).alloc (.cells er0 87) := ⟨_, rfl⟩
  have s0 : TwoB w w0 87 (erC f x).toArray er0 := by rw [hw0]; exact TwoB.start _ _ _ _
  obtain ⟨CC, hCC⟩ : ∃ z, z = fdC f.fd x := ⟨_, rfl⟩
  have hCl : CC.length = 53 := by rw [hCC]; rfl
  have KA : Hid (∀ W, Below w.heap.size w W → Calls Try.prog 26 #[.agg CC.toArray] W fun e w' => ∃ (y : Fx) (cs' : List Value), e = .returned (.agg cs'.toArray) ∧ Hid (cs'.length = 53 ∧ (∀ u ∈ cs', u.oneCell' = true) ∧ OF W.heap.size w' f.fd y ∧ fdC f.fd y = cs') ∧ Below W.heap.size W w') := fun W hW => by
    rw [hCC]
    refine Calls.mono (frFeed_any (h.bw hW) hs) ?_
    rintro e w' ⟨y, rfl, h1, h2⟩
    exact ⟨y, _, rfl, ⟨rfl, fd_one (h1.rd hs), h1, rfl⟩, h2⟩
  have RG : Hid (w0.rangeAt w.heap.size 1 CC) := by rw [hCC]; exact blk_rngQ s0.k1 (erC_feed f x)
  have HI : Hid ((Try.prog.info? 43).map (·.size) = some CC.length) := by rw [hCl]; exact infoFdS
  have HD : Hid (∀ (z1 : World) (y : Fx) (cs1 : List Value), Below w0.heap.size w0 z1 → OF w0.heap.size z1 f.fd y → fdC f.fd y = cs1 →
      z1.there w.heap.size 1 cs1.toArray.size ∧ ∃ V : World, V = z1.setCells w.heap.size 1 cs1.toArray.toList ∧ Hid (TwoB w V 87 (erC f y).toArray er0 ∧ OF (w.heap.size + 2) V f.fd y)) := fun z1 y cs1 b1 o1 e1 => by
    subst e1
    have q2 := s0.bw b1
    have p1 := q2.pokes1 1 (fdC f.fd y)
    rw [← setCells_pokesQ, erC_pk f x y] at p1
    refine ⟨blk_there q2.k1 (by rw [List.size_toArray, List.size_toArray, fdC_len, erC_len]; decide), _, rfl, p1.1, ?_⟩
    have o1' := o1.mono s0.two
    exact o1'.keep (fun k hk => p1.2 k (o1'.lt k hk).1)
  have HW : Hid (w0 = (w.alloc (.cells (erC f x).toArray 87)).alloc (.cells #[.int .i64 0, .int .u8 0, .int .i64 0, .int .i64 0, .int .i64 0, .int .i64 0, .int .i64 0, .int .i64 0, .int .i64 0, .bool false, .slice none 0 0, .slice none 0 0, .slice none 0 0, .slice none 0 0, .int .i64 0, .int .i64 0, .slice none 0 0, .int .i64 0, .int .i64 0, .int .u8 0, .int .i64 0, .int .i64 0, .int .i64 0, .int .i64 0, .int .i64 0, .bool false, .slice none 0 0, .slice none 0 0, .slice none 0 0, .slice none 0 0, .int .i64 0, .int .i64 0, .slice none 0 0, .int .i64 0, .int .i64 0, .int .i64 0, .int .i64 0, .int .i64 0, .int .i64 0, .int .i64 0, .int .i64 0, .int .i64 0, .slice none 0 0, .int .i64 0, .int .i64 0, .int .i64 0, .int .i64 0, .int .i64 0, .int .i64 0, .int .i64 0, .int .i64 0, .int .i64 0, .int .i64 0, .int .i64 0] 87)) := hw0
  have HS := hide hs
  have HB0 := hide s0.bel
  clear h hs s0 hCC hCl hw0
  go_enter Try.func53, Try.ntmps53
  go_upto_region 1 with fail
  rw [← unhide HW]
  clear HW
  go_wp2_with (refine wpList_load_mid rfl 43 (.tmp 3) rfl w.heap.size 1 (by simp [Act.eval]) CC _ (unhide RG) Try.underlying43 rfl (unhide HI) ?_)
  refine (unhide KA w0 (unhide HB0)).mono ?_
  rintro e_ z1 ⟨y1, cs1, rfl, hO1, b1⟩
  obtain ⟨ht, V, hV, HV⟩ := unhide HD z1 y1 cs1 b1 (unhide hO1).2.2.1 (unhide hO1).2.2.2
  have HY : Hid ((Try.prog.info? 43).map (·.size) = some cs1.toArray.size ∧ cs1.toArray.all (·.oneCell') = true ∧ z1.there w.heap.size 1 cs1.toArray.size) := ⟨by rw [List.size_toArray, (unhide hO1).1]; exact infoFdS, all_oneCell_toArray (unhide hO1).2.1, ht⟩
  have HV2 := hide hV
  clear hO1 b1 ht hV HD KA RG HI
  go_upto_region 2 with (refine wpList_store_mid rfl 43 (.tmp 6) (.tmp 5) rfl w.heap.size 1 cs1.toArray (by simp [Act.eval]) rfl (unhide HY).2.2 (unhide HY).1 (unhide HY).2.1 ?_)
  rw [← unhide HV2]
  clear HV2 HY
  have om := (unhide HV).2
  have s2 := (unhide HV).1
  have z1_ := all_oneCell_toArray (er_one (e := f) (om.rd (unhide HS)))
  obtain ⟨C1, hC1⟩ : ∃ C : Array Value, C = (erC f y1).toArray := ⟨_, rfl⟩
  rw [← hC1] at s2 z1_
  have z0 : C1.size = 54 := by rw [hC1, List.size_toArray]; rfl
  have z2_ : (Try.prog.info? 87).map (·.size) = some C1.size := by rw [z0]; exact infoErS
  have HO : Hid (OF w.heap.size (V.setRow (w.heap.size + 1) C1) f.fd y1 ∧ Below w.heap.size w (V.setRow (w.heap.size + 1) C1)) :=
    ⟨(om.keep (fun k hk => setRow_other _ _ _ _ (by have := (om.lt k hk).1; omega))).mono (by omega), below_setRow' s2.bel (by omega) _⟩
  have HC := hide hC1
  have HZ := hide (And.intro s2.k1 (And.intro s2.k2 (And.intro z0 (And.intro z1_ z2_))))
  clear om s2 hC1 z0 z1_ z2_ HV HS HB0
  go_wp2_with (first | refine wpList_load_row rfl 87 (.tmp 1) rfl w.heap.size rfl 87 C1 (0, 0) _ (unhide HZ).1 Try.underlying87 rfl (unhide HZ).2.2.2.2 ?_ | refine wpList_store_row rfl 87 (.tmp 2) (.tmp 7) rfl (w.heap.size + 1) C1 rfl rfl 87 er0 (unhide HZ).2.1 (unhide HZ).2.2.2.2 (by rw [(unhide HZ).2.2.1]; rfl) (unhide HZ).2.2.2.1 ?_)
  refine bodyPost_ret (v := .agg C1) (results_cell_row Try.results53 _ _ (w.heap.size + 1) 87 C1 (0, 0) _ rfl (setRow_heap _ _ _ _ _ _ (unhide HZ).2.1) Try.underlying87 rfl (unhide HZ).2.2.2.2) rfl ⟨y1, by rw [unhide HC], (unhide HO).1, (unhide HO).2⟩
end Go.Proofs.Ytgiicendejgklaa

/- Lists of what came early: copies (fresh.List). mkQuC.py writes it. -/
namespace Go.Proofs.Ytgiicendejgklaa
open Go.RowKit Go.Maps
set_option maxRecDepth 100000 in
set_option maxHeartbeats 8000000 in
theorem listEarly_any {w : World} {v : Value} {l : List Er} {xs : List Fx} (h : RdL kEr w v l xs) (hl : l.length ≤ 1073741824) :
    Calls Try.prog 52 #[v, .func (.func 53) #[] #[]] w fun e w' => ∃ v' xs', e = .returned v' ∧ OwL kEr w.heap.size w' v' l xs' ∧ Below w.heap.size w w' := by
  obtain ⟨ad, cap, rfl, hsrc⟩ := h.form
  have KC := hide (cloneEarly_any (w := w) (a := ad) (cap := cap) (cs := cellK kEr l xs) (cellK_len h.xl) (cellK_one h.xl h.el) hl (hsrc.imp (fun c => by rw [c]; rfl) (fun c => c)))
  have HC : Hid (∀ (w1 wr : World) (v : Value) (g : Nat) (xs : List Fx) (i : Nat), CpL kEr w.heap.size w w1 wr v g l xs i → i < l.length → ∃ (a : Er) (cs : List Value), l[i]? = some a ∧ cs.length = 54 ∧ (∀ u ∈ cs, u.oneCell' = true) ∧ wr.rangeAt g (i * 54) cs ∧ wr.there g (i * 54) 54 ∧
      ∀ W, Below w.heap.size w W → Calls Try.prog 53 #[.agg cs.toArray] W fun x w' => ∃ (x' : Fx) (cs' : List Value), x = .returned (.agg cs'.toArray) ∧ Hid (cs'.length = 54 ∧ (∀ u ∈ cs', u.oneCell' = true) ∧ OF W.heap.size w' a.fd x' ∧ erC a x' = cs') ∧ Below W.heap.size W w') := by
    intro w1 wr v g xs i hcp hi
    obtain ⟨a, x, ha, hx, hR, hc⟩ := hcp.at hi
    refine ⟨a, erC a x, ha, rfl, er_one (e := a) hR.1, hc, fun j hj => ⟨?_, own_frozen hcp.row hcp.own _⟩, fun W hW => ?_⟩
    · have : (erC a x)[j]? = some ((erC a x)[j]'(by rw [erC_len]; exact hj)) := List.getElem?_eq_getElem _
      rw [show wr.cell? ⟨g, i * 54 + j, none⟩ = _ from hc j _ this]; rfl
    · refine (frEarly_any (w := W) (hR.1.bw hW) hR.2).mono ?_
      rintro y w' ⟨x', rfl, ho, hb⟩
      exact ⟨x', _, rfl, ⟨rfl, er_one (e := a) (OF.rd ho hR.2), ho, rfl⟩, hb⟩
  have HR := hide h
  obtain ⟨N, hN⟩ : ∃ N, N = l.length := ⟨_, rfl⟩
  rw [← hN] at KC HC hl ⊢
  have hNI : (N : Int) ≤ 1073741824 := by omega
  have HN := hide hN
  clear h hsrc hl hN
  rcases Nat.eq_zero_or_pos N with h0 | h0
  · subst h0
    go_enter Try.func52, Try.ntmps52
    go_wp2_with fail
    refine (unhide KC).mono ?_
    rintro e w1 ⟨v1, rfl, ho, b1⟩
    obtain ⟨a1, c1, rfl⟩ := own_slice ho
    have HO := hide (And.intro ho b1)
    clear ho b1 KC HC
    go_wp2_with fail
    go_loopw [12] (fun iv wr => iv = .int .i64 0 ∧ wr = w1) (fun _ _ => 0)
    case atStart => exact ⟨rfl, rfl⟩
    case round =>
      obtain ⟨rfl, rfl⟩ := hrel
      go_wp2_with fail
      go_ret
      have hl0 : l = [] := List.eq_nil_of_length_eq_zero (unhide HN).symm
      have hx0 : xs = [] := List.eq_nil_of_length_eq_zero (by rw [(unhide HR).xl, hl0]; rfl)
      subst hl0 hx0
      exact ⟨_, [], rfl, ⟨rfl, (unhide HO).1, by simp, by simp, by simp⟩, (unhide HO).2⟩
  · go_enter Try.func52, Try.ntmps52
    go_wp2_with fail
    refine (unhide KC).mono ?_
    rintro e w1 ⟨v1, rfl, ho, b1⟩
    obtain ⟨g, c1, rfl, hg, _, _⟩ := own_open ho h0
    have S0 : Hid (CpL kEr w.heap.size w w1 w1 (.slice (some ⟨g, 0, none⟩) N c1) g l xs 0) := CpL.start (unhide HR) (by rw [← unhide HN]; exact ho) rfl
    have HB := hide (And.intro b1 hg)
    clear ho b1 KC hg
    go_wp2_with fail
    go_loopw [12] (fun iv wr => ∃ (i : Nat) (xs' : List Fx), iv = .int .i64 (i : Int) ∧ i ≤ N ∧ Hid (CpL kEr w.heap.size w w1 wr (.slice (some ⟨g, 0, none⟩) N c1) g l xs' i)) (fun iv _ => (N - intOf iv).toNat)
    case atStart => exact ⟨0, xs, rfl, Nat.zero_le _, S0⟩
    case round =>
      clear S0
      obtain ⟨i, xs', rfl, hi, HS⟩ := hrel
      by_cases hlt : i < N
      · obtain ⟨a, cs, ha, hcl, hc1, hrg, hth, KF⟩ := unhide HC w1 wr _ g xs' i (unhide HS) hlt
        have q1 : (i : Int) < (N : Int) := by omega
        have q0 : (0 : Int) ≤ (i : Int) := by omega
        have z1 : (Try.prog.info? 87).map (·.size) = some cs.length := by rw [hcl]; exact infoErS
        have z2 : (Try.prog.info? 87).map (·.size) = some cs.toArray.size := by rw [List.size_toArray, hcl]; exact infoErS
        have z3 : er0.size = cs.toArray.size := by
          have q : cs.toArray.size = 54 := by simpa using hcl
          rw [q]; rfl
        have z4 := all_oneCell_toArray hc1
        have HZ := hide (And.intro hrg (And.intro z1 (And.intro z2 (And.intro z3 z4))))
        have bw0 : Below w.heap.size w wr := Fr.toBase (unhide HB).1 (unhide HS).fr (by intro x hx; rw [List.mem_singleton] at hx; subst hx; exact (World.ownsRow.lt (unhide HS).row x (unhide HS).own).1)
        have HF := hide (And.intro ha (And.intro hth (And.intro bw0 KF)))
        clear hrg z1 z2 z3 z4 hc1 hcl ha hth KF bw0
        go_upto_region 5 with (first | refine wpList_load_mid rfl 87 (.tmp 15) rfl g (i * 54) (by simp [Act.eval]) cs _ (unhide HZ).1 Try.underlying87 rfl (unhide HZ).2.1 ?_ | refine wpList_store_row rfl 87 (.tmp 7) (.tmp 16) rfl wr.heap.size cs.toArray rfl rfl 87 er0 (heap_alloc_new _ _) (unhide HZ).2.2.1 (unhide HZ).2.2.2.1 (unhide HZ).2.2.2.2 ?_)
        generalize hW : World.setRow (wr.alloc _) wr.heap.size cs.toArray = W2
        have g0 : W2.heap[wr.heap.size]? = some (.cells cs.toArray 87 (0, 0)) := by rw [← hW]; exact setRow_heap _ _ _ _ _ _ (heap_alloc_new _ _)
        have g1 : Below wr.heap.size wr W2 := by rw [← hW]; exact below_setRow' (bwA _ _) (Nat.le_refl _) _
        clear hW
        have KF1 := hide ((unhide HF).2.2.2 W2 (bw_tr (unhide HF).2.2.1 g1))
        have HG := hide (And.intro g0 g1)
        clear g0 g1
        go_wp2_with (refine wpList_load_row rfl 87 (.tmp 7) rfl wr.heap.size rfl 87 cs.toArray (0, 0) _ (unhide HG).1 Try.underlying87 rfl (unhide HZ).2.2.1 ?_)
        refine (unhide KF1).mono ?_
        rintro x w2 ⟨x', cs', rfl, hO, b2⟩
        have th2 : w2.there g (i * 54) cs'.toArray.size := fun j hj => by
          have hj' : j < 54 := by rw [List.size_toArray, (unhide hO).1] at hj; exact hj
          have b9 := bw_tr (unhide HG).2 b2
          have hg9 : g < wr.heap.size := (unhide HS).glt
          have e9 := b9.block g hg9
          obtain ⟨p1, p2⟩ := (unhide HF).2.1 j hj'
          exact ⟨by rw [World.cell?_of_block (w := wr) e9]; exact p1, by rw [World.frozen?_of_block (w := wr) e9]; exact p2⟩
        have y1 : (Try.prog.info? 87).map (·.size) = some cs'.toArray.size := by rw [List.size_toArray, (unhide hO).1]; exact infoErS
        have y2 := all_oneCell_toArray (unhide hO).2.1
        have HX : Hid (CpL kEr w.heap.size w w1 (w2.setCells g (i * 54) cs'.toArray.toList) (.slice (some ⟨g, 0, none⟩) N c1) g l (xs'.set i x') (i + 1)) := by
          have := ((unhide HS).bw (unhide HG).2).step (unhide HF).1 b2 (unhide hO).2.2.1 (unhide HB).2
          rw [show kEr.C a x' = cs' from (unhide hO).2.2.2] at this
          rw [setCells_pokesQ]
          exact this
        have HY := hide (And.intro th2 (And.intro y1 y2))
        clear th2 y1 y2 hO b2 KF1 HF HZ HG
        go_wp2_with (refine wpList_store_mid rfl 87 (.tmp 22) (.tmp 21) rfl g (i * 54) cs'.toArray (by simp [Act.eval]) rfl (unhide HY).1 (unhide HY).2.1 (unhide HY).2.2 ?_)
        go_roundw
        case rel => exact ⟨i + 1, _, by go_num, by omega, HX⟩
        case measure => simp [intOf]; omega
      · obtain rfl : i = N := by omega
        have HO : Hid (OwL kEr w.heap.size wr (.slice (some ⟨g, 0, none⟩) i c1) l xs' ∧ Below w.heap.size w wr) := by
          have hS := unhide HS
          refine ⟨?_, Fr.toBase (unhide HB).1 hS.fr (by intro x hx; rw [List.mem_singleton] at hx; subst hx; exact (World.ownsRow.lt hS.row x hS.own).1)⟩
          have e := unhide HN
          have hS' : CpL kEr w.heap.size w w1 wr (.slice (some ⟨g, 0, none⟩) i c1) g l xs' l.length := by rw [← e]; exact hS
          exact hS'.done (unhide HB).1.size (unhide HB).2
        clear HS HC
        go_wp2_with fail
        go_ret
        exact ⟨_, xs', rfl, (unhide HO).1, (unhide HO).2⟩
end Go.Proofs.Ytgiicendejgklaa
