/- Texts joined: NeI NeJ NeK NeM. -/
import Derived.Test.YtndgdpefoidfbaaZ33
import Derived.Test.YtndgdpefoidfbaaZ29
/- A net, with what must stay beside it. -/
namespace Go.Proofs.Ytndgdpefoidfbaa
open Go.RowKit Go.Maps
structure NetK (B : Nat) (w0 w : World) (nb : Nat) (gv : Value) (P : List Py) (F : List (Nat × Obj)) : Prop where
  ns : NetS B w nb gv P
  bel : Below B w0 w
  fx : ∀ k o, (k, o) ∈ F → w.heap[k]? = some o ∧ k ≠ nb ∧ gv.ownBlock ≠ some k
theorem blk_lt {w : World} {k : Nat} {o : Obj} (h : w.heap[k]? = some o) : k < w.heap.size := by
  rcases Nat.lt_or_ge k w.heap.size with c | c
  · exact c
  · rw [Array.getElem?_eq_none c] at h; cases h
theorem NetK.bw {B : Nat} {w0 w w' : World} {nb : Nat} {gv : Value} {P : List Py} {F : List (Nat × Obj)} (h : NetK B w0 w nb gv P F) (hb : Below w.heap.size w w') : NetK B w0 w' nb gv P F :=
  ⟨h.ns.bw hb, h.bel.trans (bw_mono hb (by have := h.ns.hb; have := lt_of_blk h.ns.box; omega)), fun k o hk => ⟨by rw [hb.block k (blk_lt (h.fx k o hk).1)]; exact (h.fx k o hk).1, (h.fx k o hk).2⟩⟩
theorem NetK.step {B : Nat} {w0 w w' : World} {nb : Nat} {gv gv' : Value} {P P' : List Py} {F : List (Nat × Obj)} (h : NetK B w0 w nb gv P F) (hn : NetS B w' nb gv' P') (hf : Fr (nsZ nb gv) w w') (hv : gv'.ownBlock = gv.ownBlock ∨ ∀ k, gv'.ownBlock = some k → w.heap.size ≤ k) : NetK B w0 w' nb gv' P' F := by
  refine ⟨hn, h.bel.trans ⟨hf.os, hf.tape, hf.output, hf.size, fun k hk => hf.block k ?_ (nsZ_not ?_ ?_)⟩, fun k o hk => ?_⟩
  · have := h.ns.hb; have := lt_of_blk h.ns.box; omega
  · have := h.ns.hb; omega
  · intro c; have := (World.ownsRow.lt h.ns.row k c).1; omega
  · obtain ⟨h1, h2, h3⟩ := h.fx k o hk
    refine ⟨by rw [hf.block k (blk_lt h1) (nsZ_not h2 h3)]; exact h1, h2, fun c => ?_⟩
    rcases hv with e | e
    · rw [e] at c; exact h3 c
    · have := e k c; have := blk_lt h1; omega
theorem sendK_any {B : Nat} {w0 w : World} {nb : Nat} {gv : Value} {P : List Py} {F : List (Nat × Obj)} {p : Pt} {y : Fx} (h : NetK B w0 w nb gv P F) (hf : FdR w p.fd y) (hs : SmF p.fd) (hl : P.length < 4096) (ht : TakenP p) :
    Calls Try.prog 12 #[.pointer (some ⟨nb, 0, none⟩), .agg (ptC p y).toArray] w fun e w' => e = .returned (.int .i64 0) ∧ ∃ gv' q, Hid (q.p = p ∧ NetK B w0 w' nb gv' (P ++ [q]) F) := by
  refine (neSend_any h.ns hf hs (by omega)).mono ?_
  rintro e w' ⟨er, gv', P', rfl, ⟨h1, h2, h3⟩, hc⟩
  rcases hc with ⟨c, _⟩ | ⟨_, c, _⟩ | ⟨_, _, rfl, q, hq, rfl, _⟩
  · exact absurd ht c
  · omega
  · exact ⟨rfl, gv', q, hq, h.step h1 h2 h3⟩
theorem copyK_any {B : Nat} {w0 w : World} {nb : Nat} {gv : Value} {P : List Py} {F : List (Nat × Obj)} (h : NetK B w0 w nb gv P F) (n : Nat) (hn : n < P.length) (hl : P.length < 4096) :
    Calls Try.prog 13 #[.pointer (some ⟨nb, 0, none⟩), .int .i64 (n : Int)] w fun e w' => e = .returned (.int .i64 0) ∧ ∃ gv' q, Hid (P[n]? = some q ∧ NetK B w0 w' nb gv' (P ++ [q]) F) := by
  refine (neCopy_any h.ns (n : Int) (by omega)).mono ?_
  rintro e w' ⟨er, gv', P', rfl, ⟨h1, h2, h3⟩, hc⟩
  rcases hc with ⟨c, _⟩ | ⟨_, _, c, _⟩ | ⟨_, _, _, rfl, q, hq, rfl⟩
  · omega
  · omega
  · exact ⟨rfl, gv', q, hq, h.step h1 h2 h3⟩
theorem delK_any {B : Nat} {w0 w : World} {nb : Nat} {gv : Value} {P : List Py} {F : List (Nat × Obj)} (h : NetK B w0 w nb gv P F) (n : Nat) (hn : n < P.length) (hl : P.length ≤ 4096) :
    Calls Try.prog 15 #[.pointer (some ⟨nb, 0, none⟩), .int .i64 (n : Int)] w fun e w' => ∃ (q : Py) (y' : Fx) (gv' : Value), e = .returned (.tuple #[.agg (ptC q.p y').toArray, .int .i64 0]) ∧ Hid (P[n]? = some q ∧ NetK B w0 w' nb gv' (P.eraseIdx n) F ∧ OF w.heap.size w' q.p.fd y' ∧ SmF q.p.fd) := by
  refine (neDeliver_any h.ns (n : Int) (by omega)).mono ?_
  rintro e w' ⟨gv', P', ⟨h1, h2, h3⟩, hc⟩
  rcases hc with ⟨c, _⟩ | ⟨_, _, q, y', hq, rfl, rfl, ho, hs⟩
  · omega
  · exact ⟨q, y', gv', rfl, hq, h.step h1 h2 (Or.inl h3), ho, hs⟩
theorem dropK_no {B : Nat} {w0 w : World} {nb : Nat} {gv : Value} {P : List Py} {F : List (Nat × Obj)} (h : NetK B w0 w nb gv P F) (a : Int) (hn : a < 0 ∨ (P.length : Int) ≤ a) (hl : P.length ≤ 4096) :
    Calls Try.prog 17 #[.pointer (some ⟨nb, 0, none⟩), .int .i64 a] w fun e w' => e = .returned (.int .i64 7) ∧ ∃ gv', Hid (NetK B w0 w' nb gv' P F) := by
  refine (neDrop_any h.ns a (by omega)).mono ?_
  rintro e w' ⟨er, gv', P', rfl, ⟨h1, h2, h3⟩, hc⟩
  rcases hc with ⟨_, rfl, rfl⟩ | ⟨c1, c2, _⟩
  · exact ⟨rfl, gv', h.step h1 h2 h3⟩
  · omega
theorem lenK_any {B : Nat} {w0 w : World} {nb : Nat} {gv : Value} {P : List Py} {F : List (Nat × Obj)} (h : NetK B w0 w nb gv P F) : Calls Try.prog 14 #[.pointer (some ⟨nb, 0, none⟩)] w fun e w' => e = .returned (.int .i64 (P.length : Int)) ∧ w' = w := neLen_any h.ns
def pkX : Pt := ⟨0, 1, true, 5, fdK 0 0⟩
def pkY : Pt := ⟨0, 2, true, 0, fdK 0 0⟩
theorem taken_X : TakenP pkX := ⟨⟨by decide, by decide⟩, ⟨by decide, by decide⟩, by decide, Or.inl ⟨rfl, by decide⟩⟩
theorem taken_Y : TakenP pkY := ⟨⟨by decide, by decide⟩, ⟨by decide, by decide⟩, by decide, Or.inl ⟨rfl, by decide⟩⟩
theorem built_X : Try.prog.built 44 [(1, .int .i64 1), (2, .bool true), (3, .int .i64 5)] = some (ptC pkX fx00).toArray := by kernel_rfl
theorem built_Y : Try.prog.built 44 [(1, .int .i64 2), (2, .bool true)] = some (ptC pkY fx00).toArray := by kernel_rfl
end Go.Proofs.Ytndgdpefoidfbaa

/- What is so of whoever does something at all (alive of layer 18). -/
namespace Go.Proofs.Ytndgdpefoidfbaa
open Go.RowKit Go.Maps
theorem wpList_load_rowG {P : Program} {ops : Array Oper} {rest : List Oper} {o : Oper} {a : Act} {w : World} {Q : Exit → Act → World → Prop} (hgd : Region.wanted o (yielded ops a.tmps) = true) (ty : TypeId) (x : Operand) (ho : o.op = .load ty x)
    (g : Nat) (hx : a.eval x = .pointer (some ⟨g, 0, none⟩)) (t : TypeId) (cs : Array Value) (fr : Nat × Nat) (d : TypeDesc) (hg : w.heap[g]? = some (.cells cs t fr))
    (hu : P.underlying ty = some d) (hd : (match d with | .struct _ | .array _ _ => true | _ => false) = true) (hi : (P.info? ty).map (·.size) = some cs.size)
    (h : wpList P ops Q rest (a.put o.dst (.agg cs)) w) : wpList P ops Q (o :: rest) a w :=
  wpList_step fun K hK => by rw [if_pos hgd]; exact wp_load_row ty x ho g hx t cs fr d hg hu hd hi (hK _ _ h)
theorem NetK.addL {B : Nat} {w0 w w' : World} {nb : Nat} {gv : Value} {P : List Py} {F : List (Nat × Obj)} (h : NetK B w0 w nb gv P F) (hb : Below w.heap.size w w') (L : List (Nat × Obj)) (hL : ∀ k o, (k, o) ∈ L → w'.heap[k]? = some o ∧ w.heap.size ≤ k) : NetK B w0 w' nb gv P (L ++ F) := by
  have h' := h.bw hb
  refine ⟨h'.ns, h'.bel, fun j u hj => ?_⟩
  rcases List.mem_append.1 hj with c | c
  · have := lt_of_blk h.ns.box
    obtain ⟨h1, h2⟩ := hL j u c
    exact ⟨h1, by omega, fun c => by have := (World.ownsRow.lt h.ns.row j c).2; omega⟩
  · exact h'.fx j u c
theorem NetK.start {w w1 : World} (h : NetS w.heap.size w1 w.heap.size (.slice none 0 0) []) (hb : Below w.heap.size w w1) : NetK w.heap.size w w1 w.heap.size (.slice none 0 0) [] [] := ⟨h, hb, fun k o hk => by cases hk⟩
set_option maxRecDepth 100000 in
set_option maxHeartbeats 1000000 in
theorem alive18_any (w : World) : Calls Try.prog 10 #[] w fun e w' => e = .returned (.bool true) ∧ Below w.heap.size w w' := by
  obtain ⟨PX, hPX⟩ : ∃ z, z = (ptC pkX fx00).toArray := ⟨_, rfl⟩
  obtain ⟨PY, hPY⟩ : ∃ z, z = (ptC pkY fx00).toArray := ⟨_, rfl⟩
  have HBX : Hid (Try.prog.built 44 [(1, .int .i64 1), (2, .bool true), (3, .int .i64 5)] = some PX) := by rw [hPX]; exact built_X
  have HBY : Hid (Try.prog.built 44 [(1, .int .i64 2), (2, .bool true)] = some PY) := by rw [hPY]; exact built_Y
  have HIX : Hid ((Try.prog.info? 44).map (·.size) = some PX.size ∧ pt0.size = PX.size ∧ PX.all (·.oneCell') = true) := by
    rw [hPX]; exact ⟨by rw [List.size_toArray]; exact infoPkS2, by rw [List.size_toArray]; rfl, all_oneCell_toArray (pt_one (p := pkX) (fdK_r w 0 0))⟩
  have HIY : Hid ((Try.prog.info? 44).map (·.size) = some PY.size ∧ pt0.size = PY.size ∧ PY.all (·.oneCell') = true) := by
    rw [hPY]; exact ⟨by rw [List.size_toArray]; exact infoPkS2, by rw [List.size_toArray]; rfl, all_oneCell_toArray (pt_one (p := pkY) (fdK_r w 0 0))⟩
  have KX : Hid (∀ W gv P F, NetK w.heap.size w W w.heap.size gv P F → P.length < 4096 → Calls Try.prog 12 #[.pointer (some ⟨w.heap.size, 0, none⟩), .agg PX] W fun e w' => e = .returned (.int .i64 0) ∧ ∃ gv' q, Hid (q.p = pkX ∧ NetK w.heap.size w w' w.heap.size gv' (P ++ [q]) F)) := fun W gv P F h hl => by
    rw [hPX]; exact sendK_any h (fdK_r W 0 0) (fdK_s 0 0) hl taken_X
  have KY : Hid (∀ W gv P F, NetK w.heap.size w W w.heap.size gv P F → P.length < 4096 → Calls Try.prog 12 #[.pointer (some ⟨w.heap.size, 0, none⟩), .agg PY] W fun e w' => e = .returned (.int .i64 0) ∧ ∃ gv' q, Hid (q.p = pkY ∧ NetK w.heap.size w w' w.heap.size gv' (P ++ [q]) F)) := fun W gv P F h hl => by
    rw [hPY]; exact sendK_any h (fdK_r W 0 0) (fdK_s 0 0) hl taken_Y
  clear hPX hPY
  go_enter Try.func10, Try.ntmps10
  go_wp2_with fail
  refine (neNew_any w).mono ?_
  rintro e w1 ⟨rfl, b1, hs⟩
  have H1 := hide (NetK.start (hs _ (Nat.le_refl _)) b1)
  clear hs b1
  go_upto_region 5 with (first
    | refine wpList_buildTo (P := Try.prog) rfl 44 #[(1, .const (.int .i64 1)), (2, .const (.bool true)), (3, .const (.int .i64 5))] rfl (some 11) rfl PX (by simp only [List.map_toArray, List.map_cons, List.map_nil, List.toList_toArray]; exact unhide HBX) ?_
    | refine wpList_buildTo (P := Try.prog) rfl 44 #[(1, .const (.int .i64 2)), (2, .const (.bool true))] rfl (some 12) rfl PY (by simp only [List.map_toArray, List.map_cons, List.map_nil, List.toList_toArray]; exact unhide HBY) ?_
    | refine wpList_store_row rfl 44 (.tmp 2) (.tmp 11) rfl w1.heap.size PX rfl rfl 44 pt0 (TwoB.start w1 44 pt0 pt0).k1 (unhide HIX).1 (unhide HIX).2.1 (unhide HIX).2.2 ?_
    | refine wpList_store_row rfl 44 (.tmp 3) (.tmp 12) rfl (w1.heap.size + 1) PY rfl rfl 44 pt0 ((setRow_other _ _ _ _ (by omega)).trans (TwoB.start w1 44 pt0 pt0).k2) (unhide HIY).1 (unhide HIY).2.1 (unhide HIY).2.2 ?_)
  generalize hV : World.setRow _ _ _ = V
  obtain ⟨k1, hk1⟩ : ∃ z, z = w1.heap.size := ⟨_, rfl⟩
  have H2 : Hid (NetK w.heap.size w V w.heap.size (.slice none 0 0) [] [(k1, .cells PX 44 (0, 0)), (k1 + 1, .cells PY 44 (0, 0))]) := by
    have s0 := TwoB.start w1 44 pt0 pt0
    have e1 := setRow_heap _ _ _ PX _ _ s0.k1
    have e2 : (((w1.alloc (.cells pt0 44)).alloc (.cells pt0 44)).setRow w1.heap.size PX).heap[w1.heap.size + 1]? = _ := (setRow_other _ _ _ _ (by omega)).trans s0.k2
    have e3 := setRow_heap _ _ _ PY _ _ e2
    have e4 : V.heap[w1.heap.size]? = some (.cells PX 44 (0, 0)) := by rw [← hV]; exact (setRow_other _ _ _ _ (by omega)).trans e1
    have bV : Below w1.heap.size w1 V := by rw [← hV]; exact below_setRow' (below_setRow' s0.bel (Nat.le_refl _) _) (by omega) _
    have h := (unhide H1).addL bV [(k1, .cells PX 44 (0, 0)), (k1 + 1, .cells PY 44 (0, 0))] (fun k o hk => ?_)
    · rw [List.append_nil] at h; exact h
    rw [hk1] at hk
    simp only [List.mem_cons, List.not_mem_nil, or_false, Prod.mk.injEq] at hk
    rcases hk with ⟨rfl, rfl⟩ | ⟨rfl, rfl⟩
    · exact ⟨e4, Nat.le_refl _⟩
    · exact ⟨by rw [← hV]; exact e3, by omega⟩
  have KS1 := hide (unhide KX V _ _ _ (unhide H2) (by simp))
  have HR1 := hide ((unhide H2).fx k1 (.cells PX 44 (0, 0)) (by simp)).1
  rw [← hk1]
  clear hV hk1 H1 HBX HBY
  go_wp2_with (refine wpList_load_row rfl 44 (.tmp 2) rfl k1 rfl 44 PX (0, 0) _ (unhide HR1) Try.underlying44 rfl (unhide HIX).1 ?_)
  refine (unhide KS1).mono ?_
  rintro e w3 ⟨rfl, gv3, q3, H3⟩
  have KS2 := hide (unhide KY w3 _ _ _ (unhide H3).2 (by simp))
  have HR2 := hide ((unhide H3).2.fx (k1 + 1) (.cells PY 44 (0, 0)) (by simp)).1
  clear KS1 HR1 H2 KX
  go_wp2_with (refine wpList_load_rowG (by first | rfl | simp [Region.wanted, yielded]) 44 (.tmp 3) rfl (k1 + 1) rfl 44 PY (0, 0) _ (unhide HR2) Try.underlying44 rfl (unhide HIY).1 ?_)
  refine (unhide KS2).mono ?_
  rintro e w4 ⟨rfl, gv4, q4, H4⟩
  have KC := hide (copyK_any (unhide H4).2 0 (by simp) (by simp))
  clear KS2 HR2 KY
  go_wp2_with fail
  refine (unhide KC).mono ?_
  rintro e w5 ⟨rfl, gv5, q5, H5⟩
  have KL := hide (lenK_any (unhide H5).2)
  clear KC
  go_wp2_with fail
  refine (unhide KL).mono ?_
  rintro e w6 ⟨rfl, rfl⟩
  have HQ5 : Hid (q5 = q3) := by have := (unhide H5).1; simp at this; exact this.symm
  have KD := hide (delK_any (unhide H5).2 1 (by simp) (by simp))
  clear KL HIX HIY
  go_wp2_with fail
  refine (unhide KD).mono ?_
  rintro e w7 ⟨q7, y7, gv7, rfl, H7⟩
  obtain ⟨CA, hCA⟩ : ∃ z, z = (ptC q7.p y7).toArray := ⟨_, rfl⟩
  have HCA : Hid (CA[1]? = some (.int .i64 2) ∧ (Try.prog.info? 44).map (·.size) = some CA.size ∧ pt0.size = CA.size ∧ CA.all (·.oneCell') = true) := by
    have hq : q7.p = pkY := by have := (unhide H7).1; simp at this; rw [← this]; exact (unhide H4).1
    rw [hCA]
    refine ⟨?_, by rw [List.size_toArray]; exact infoPkS2, by rw [List.size_toArray]; rfl, all_oneCell_toArray (pt_one (OF.rd (unhide H7).2.2.1 (unhide H7).2.2.2))⟩
    rw [hq]; rfl
  have H7' : Hid (NetK w.heap.size w w7 w.heap.size gv7 [q3, q5] [(k1, .cells PX 44 (0, 0)), (k1 + 1, .cells PY 44 (0, 0))]) := (unhide H7).2.1
  rw [← hCA]
  have HC := hide hCA
  clear KD hCA H7
  go_upto_region 8 with (refine wpList_store_row rfl 44 (.tmp 4) (.tmp 36) rfl w7.heap.size CA rfl rfl 44 pt0 (heap_alloc_new _ _) (unhide HCA).2.1 (unhide HCA).2.2.1 (unhide HCA).2.2.2 ?_)
  generalize hV : World.setRow _ _ _ = V8
  obtain ⟨k7, hk7⟩ : ∃ z, z = w7.heap.size := ⟨_, rfl⟩
  have H8 : Hid (NetK w.heap.size w V8 w.heap.size gv7 [q3, q5] ([(k7, .cells CA 44 (0, 0))] ++ [(k1, .cells PX 44 (0, 0)), (k1 + 1, .cells PY 44 (0, 0))])) := by
    have e1 : V8.heap[w7.heap.size]? = some (.cells CA 44 (0, 0)) := by rw [← hV]; exact setRow_heap _ _ _ _ _ _ (heap_alloc_new w7 (.cells pt0 44))
    have bV : Below w7.heap.size w7 V8 := by rw [← hV]; exact below_setRow' (bwA _ _) (Nat.le_refl _) _
    refine (unhide H7').addL bV _ (fun k o hk => ?_)
    simp only [List.mem_cons, List.not_mem_nil, or_false, Prod.mk.injEq] at hk
    obtain ⟨rfl, rfl⟩ := hk
    rw [hk7]
    exact ⟨e1, Nat.le_refl _⟩
  rw [← hk7]
  have KD2 := hide (delK_any (unhide H8) 1 (by simp) (by simp))
  clear hV hk7 H7'
  go_wp2_with fail
  refine (unhide KD2).mono ?_
  rintro e w9 ⟨q9, y9, gv9, rfl, H9⟩
  obtain ⟨CB, hCB⟩ : ∃ z, z = (ptC q9.p y9).toArray := ⟨_, rfl⟩
  have HCB : Hid (CB[3]? = some (.int .i64 5) ∧ (Try.prog.info? 44).map (·.size) = some CB.size ∧ pt0.size = CB.size ∧ CB.all (·.oneCell') = true) := by
    have hq : q9.p = pkX := by have := (unhide H9).1; simp at this; rw [← this, unhide HQ5]; exact (unhide H3).1
    rw [hCB]
    refine ⟨?_, by rw [List.size_toArray]; exact infoPkS2, by rw [List.size_toArray]; rfl, all_oneCell_toArray (pt_one (OF.rd (unhide H9).2.2.1 (unhide H9).2.2.2))⟩
    rw [hq]; rfl
  have H9' : Hid (NetK w.heap.size w w9 w.heap.size gv9 [q3] ([(k7, .cells CA 44 (0, 0))] ++ [(k1, .cells PX 44 (0, 0)), (k1 + 1, .cells PY 44 (0, 0))])) := (unhide H9).2.1
  rw [← hCB]
  clear KD2 hCB H9 H8
  go_upto_region 9 with (refine wpList_store_row rfl 44 (.tmp 6) (.tmp 41) rfl w9.heap.size CB rfl rfl 44 pt0 (heap_alloc_new _ _) (unhide HCB).2.1 (unhide HCB).2.2.1 (unhide HCB).2.2.2 ?_)
  generalize hV : World.setRow _ _ _ = V10
  obtain ⟨k9, hk9⟩ : ∃ z, z = w9.heap.size := ⟨_, rfl⟩
  have H10 : Hid (NetK w.heap.size w V10 w.heap.size gv9 [q3] ([(k9, .cells CB 44 (0, 0))] ++ ([(k7, .cells CA 44 (0, 0))] ++ [(k1, .cells PX 44 (0, 0)), (k1 + 1, .cells PY 44 (0, 0))]))) := by
    have e1 : V10.heap[w9.heap.size]? = some (.cells CB 44 (0, 0)) := by rw [← hV]; exact setRow_heap _ _ _ _ _ _ (heap_alloc_new w9 (.cells pt0 44))
    have bV : Below w9.heap.size w9 V10 := by rw [← hV]; exact below_setRow' (bwA _ _) (Nat.le_refl _) _
    refine (unhide H9').addL bV _ (fun k o hk => ?_)
    simp only [List.mem_cons, List.not_mem_nil, or_false, Prod.mk.injEq] at hk
    obtain ⟨rfl, rfl⟩ := hk
    rw [hk9]
    exact ⟨e1, Nat.le_refl _⟩
  rw [← hk9]
  have d1 : V10.cell? ⟨k7, 1, none⟩ = some (.int .i64 2) := blk_c ((unhide H10).fx k7 (.cells CA 44 (0, 0)) (by simp)).1 (unhide HCA).1
  have d2 : V10.cell? ⟨k9, 3, none⟩ = some (.int .i64 5) := blk_c ((unhide H10).fx k9 (.cells CB 44 (0, 0)) (by simp)).1 (unhide HCB).1
  have KN := hide (dropK_no (unhide H10) 1 (by simp) (by simp))
  clear hV hk9 H9' H10 HCA HCB HC HQ5 H3 H4 H5
  go_wp2_with fail
  refine (unhide KN).mono ?_
  rintro e w11 ⟨rfl, gv11, H11⟩
  have HB := hide (unhide H11).bel
  clear KN H11 d1 d2
  go_wp2_with fail
  go_ret
  exact ⟨rfl, unhide HB⟩
end Go.Proofs.Ytndgdpefoidfbaa

/- A net that is not there: what each call answers. -/
namespace Go.Proofs.Ytndgdpefoidfbaa
open Go.RowKit Go.Maps
end Go.Proofs.Ytndgdpefoidfbaa

/- May a packet be, as the document has it (phratryref17.May). mkNeM.py writes it. -/
namespace Go.Proofs.Ytndgdpefoidfbaa
open Go.RowKit Go.Maps
set_option maxRecDepth 100000 in
set_option maxHeartbeats 2000000 in
theorem q17feed_any {w : World} (f : Fd) (x : Fx) : Calls Try.prog 23 #[.agg (fdC f x).toArray] w fun e w' => e = .returned (.bool (decide (1 ≤ f.kd ∧ f.kd ≤ 6))) ∧ Below w.heap.size w w' := by
  obtain ⟨w0, hw0⟩ : ∃ w0, w0 = w.alloc (.cells (fdC f x).toArray 42) := ⟨_, rfl⟩
  have kk : w0.heap[w.heap.size]? = some (.cells (fdC f x).toArray 42 (0, 0)) := by rw [hw0]; exact heap_alloc_new _ _
  have HB : Hid (Below w.heap.size w w0) := by rw [hw0]; exact bwA _ _
  have c0 : w0.cell? ⟨w.heap.size, 0, none⟩ = some (.int .u8 f.kd) := blk_c kk rfl
  have HW := hide hw0
  clear hw0 kk
  generalize fdC f x = cs at *
  generalize f.kd = k at *
  by_cases h1 : 1 ≤ k
  · by_cases h2 : k ≤ 6
    · rw [show decide (1 ≤ k ∧ k ≤ 6) = true from decide_eq_true ⟨h1, h2⟩]
      go_enter Try.func23, Try.ntmps23
      go_upto_region 1 with fail
      rw [← unhide HW]
      go_wp2_with fail
      go_ret
      exact ⟨by first | rfl | simp, unhide HB⟩
    · rw [show decide (1 ≤ k ∧ k ≤ 6) = false from decide_eq_false (fun c => h2 c.2)]
      go_enter Try.func23, Try.ntmps23
      go_upto_region 1 with fail
      rw [← unhide HW]
      go_wp2_with fail
      go_ret
      exact ⟨by first | rfl | simp, unhide HB⟩
  · rw [show decide (1 ≤ k ∧ k ≤ 6) = false from decide_eq_false (fun c => h1 c.1)]
    go_enter Try.func23, Try.ntmps23
    go_upto_region 1 with fail
    rw [← unhide HW]
    go_wp2_with fail
    go_ret
    exact ⟨by first | rfl | simp, unhide HB⟩
set_option maxRecDepth 100000 in
set_option maxHeartbeats 8000000 in
theorem q17may_any {w : World} (p : Pt) (x : Fx) {b : Bool} (hb : b = true ↔ TakenP p) :
    Calls Try.prog 9 #[.agg (ptC p x).toArray] w fun e w' => e = .returned (.bool b) ∧ Below w.heap.size w w' := by
  obtain ⟨fr, tu, ack, sq, fd⟩ := p
  have KT0 := fun W => q17feed_any (w := W) fd x
  unfold TakenP tellP at hb
  unfold ptC
  simp only at hb ⊢
  obtain ⟨fc, hfc⟩ : ∃ z, z = fdC fd x := ⟨_, rfl⟩
  have hfl : fc.length = 53 := by rw [hfc]; rfl
  rw [← hfc] at KT0 ⊢
  obtain ⟨d3, hd3⟩ : ∃ z, z = decide (1 ≤ fd.kd ∧ fd.kd ≤ 6) := ⟨_, rfl⟩
  rw [← hd3] at KT0
  have HBB : Hid (b = true ↔ ((0 ≤ fr ∧ fr < 4) ∧ (0 ≤ tu ∧ tu < 4) ∧ 0 ≤ sq ∧ ((ack = true ∧ sq ≤ 1099511627776) ∨ (ack = false ∧ sq < 1099511627776 ∧ d3 = true)))) := by
    have : b = true ↔ ((0 ≤ fr ∧ fr < 4) ∧ (0 ≤ tu ∧ tu < 4) ∧ 0 ≤ sq ∧ ((ack = true ∧ sq ≤ 1099511627776) ∨ (ack = false ∧ sq < 1099511627776 ∧ d3 = true))) := by
      rw [hb, hd3, decide_eq_true_iff]
    exact this
  have KT := hide KT0
  obtain ⟨w0, hw0⟩ : ∃ w0, w0 = w.alloc (.cells (Value.int .i64 fr :: .int .i64 tu :: .bool ack :: .int .i64 sq :: fc).toArray 44) := ⟨_, rfl⟩
  have kk : w0.heap[w.heap.size]? = some (.cells (Value.int .i64 fr :: .int .i64 tu :: .bool ack :: .int .i64 sq :: fc).toArray 44 (0, 0)) := by rw [hw0]; exact heap_alloc_new _ _
  have bl : Below w.heap.size w w0 := by rw [hw0]; exact bwA _ _
  have x0 : w0.cell? ⟨w.heap.size, 0, none⟩ = some (.int .i64 fr) := blk_c kk rfl
  have x1 : w0.cell? ⟨w.heap.size, 1, none⟩ = some (.int .i64 tu) := blk_c kk rfl
  have x2 : w0.cell? ⟨w.heap.size, 2, none⟩ = some (.bool ack) := blk_c kk rfl
  have x3 : w0.cell? ⟨w.heap.size, 3, none⟩ = some (.int .i64 sq) := blk_c kk rfl
  have HR : Hid (w0.rangeAt w.heap.size 4 fc) := blk_rngQ kk (fun j u hj => by rw [show 4 + j = j + 1 + 1 + 1 + 1 by omega]; simpa using hj)
  have HI : Hid ((Try.prog.info? 42).map (·.size) = some fc.length) := by rw [hfl]; exact infoFdS3
  generalize (Value.int .i64 fr :: .int .i64 tu :: .bool ack :: .int .i64 sq :: fc).toArray = CC at hw0 kk ⊢
  have HW := hide hw0
  have HBL := hide bl
  clear hb KT0 hd3 hfc hfl kk bl hw0
  go_enter Try.func9, Try.ntmps9
  go_upto_region 1 with fail
  rw [← unhide HW]
  clear HW
  by_cases a2 : fr < 0
  · have hb2 : b = false := false_iff (unhide HBB) (by simp; omega)
    subst hb2
    clear HBB KT HR
    go_wp2_with fail
    go_ret
    exact ⟨by first | rfl | (simp; omega), unhide HBL⟩
  ·
    by_cases a4 : 4 ≤ fr
    · have hb2 : b = false := false_iff (unhide HBB) (by simp; omega)
      subst hb2
      clear HBB KT HR
      go_wp2_with fail
      go_ret
      exact ⟨by first | rfl | (simp; omega), unhide HBL⟩
    ·
      by_cases a6 : tu < 0
      · have hb2 : b = false := false_iff (unhide HBB) (by simp; omega)
        subst hb2
        clear HBB KT HR
        go_wp2_with fail
        go_ret
        exact ⟨by first | rfl | (simp; omega), unhide HBL⟩
      ·
        by_cases a8 : 4 ≤ tu
        · have hb2 : b = false := false_iff (unhide HBB) (by simp; omega)
          subst hb2
          clear HBB KT HR
          go_wp2_with fail
          go_ret
          exact ⟨by first | rfl | (simp; omega), unhide HBL⟩
        ·
          by_cases a10 : sq < 0
          · have hb2 : b = false := false_iff (unhide HBB) (by simp; omega)
            subst hb2
            clear HBB KT HR
            go_wp2_with fail
            go_ret
            exact ⟨by first | rfl | (simp; omega), unhide HBL⟩
          ·
            cases ack with
            | true =>
              by_cases h1 : sq ≤ 1099511627776
              · have hb2 : b = true := (unhide HBB).2 (by simp; omega)
                subst hb2
                clear HBB KT HR
                go_wp2_with fail
                go_ret
                exact ⟨by first | rfl | (simp; omega), unhide HBL⟩
              · have hb2 : b = false := false_iff (unhide HBB) (by simp; omega)
                subst hb2
                clear HBB KT HR
                go_wp2_with fail
                go_ret
                exact ⟨by first | rfl | (simp; omega), unhide HBL⟩
            | false =>
              by_cases h1 : sq < 1099511627776
              · go_wp2_with (refine wpList_load_midG (by first | rfl | simp [Region.wanted, yielded]) 42 (.tmp 35) rfl w.heap.size 4 (by simp [Act.eval]) fc _ (unhide HR) Try.underlying42 rfl (unhide HI) ?_)
                refine (unhide KT _).mono ?_
                rintro e w3 ⟨rfl, b3⟩
                have HB3 := hide (bw_tr (unhide HBL) b3)
                cases d3 with
                | false =>
                  have hb2 : b = false := false_iff (unhide HBB) (by simp)
                  subst hb2
                  clear HBB KT HR x0 x1 x2 x3
                  go_wp2_with fail
                  go_ret
                  exact ⟨by first | rfl | (simp; omega), unhide HB3⟩
                | true =>
                  have hb2 : b = true := (unhide HBB).2 (by simp; omega)
                  subst hb2
                  clear HBB KT HR x0 x1 x2 x3
                  go_wp2_with fail
                  go_ret
                  exact ⟨by first | rfl | (simp; omega), unhide HB3⟩
              · have hb2 : b = false := false_iff (unhide HBB) (by simp; omega)
                subst hb2
                clear HBB KT HR
                go_wp2_with fail
                go_ret
                exact ⟨by first | rfl | (simp; omega), unhide HBL⟩
end Go.Proofs.Ytndgdpefoidfbaa
