/- Texts joined: NeF NeG NeH. -/
import Derived.Test.YtndgdpefoidfbaaZ32
import Derived.Great.BuildSlice
import Derived.Deep.RegionLaw
import Derived.Test.YtndgdpefoidfbaaQuL
/- Copy. -/
namespace Go.Proofs.Ytndgdpefoidfbaa
open Go.RowKit Go.Maps
theorem step_appP {P : Program} {ops : Array Oper} {o : Oper} {a : Act} {w : World} {K : Act → World → Prop} {Q : Exit → Act → World → Prop} {E : Prop}
    (hg : o.guard = none) (s x : Operand) (t : TypeId) (hop : o.op = Op.call { callee := Callee.builtin Builtin.append, args := #[s, x], argTypes := #[t, t] })
    (base : Nat) (e : TypeId) (i : TypeInfo) (z : Value) (size bytes : Nat) (ht : P.underlying t = some (.slice e)) (hi : P.info? e = some i) (hz : i.zero = some z)
    (hsize : i.size = size) (hby : i.bytes = bytes) (hzs : z.cells.size = size) (hsz : 0 < size)
    (v : Value) (n : Nat) (xs : List Value) (hs : a.eval s = v) (hown : w.ownsRow base e size v n xs)
    (ad : Addr) (m c : Nat) (news : List Value) (hx : a.eval x = .slice (some ad) m c) (hl : news.length = m * size) (hnews : ∀ j u, news[j]? = some u → w.cell? (ad.add j) = some u) (h1 : ∀ u ∈ news, u.oneCell' = true)
    (h63 : n + m ≤ maxLen) (hbytes : (n + m) * bytes ≤ 140737488355328) (hbase : base ≤ w.heap.size)
    (hK : ∀ v' w', w'.ownsRow base e size v' (n + m) (xs ++ news) → w.grownBy w' v.ownBlock → (v'.ownBlock = v.ownBlock ∨ v'.ownBlock = some w.heap.size) → K (a.put o.dst v') w') :
    if Region.wanted o (yielded ops a.tmps) = true then Oper.wp P o a w K Q else E := by
  have hw : Region.wanted o (yielded ops a.tmps) = true := by simp [Region.wanted, hg]
  rw [if_pos hw]
  obtain ⟨v', w', hr, h2, h3, _, h5⟩ := run_append_own_at (P := P) w base t o.type e i z size bytes ht hi hz hsize hby hzs hsz v n xs hown ad m c news hl hnews h1 h63 hbytes hbase
  unfold Oper.wp
  simp [execOp, hop, resolve, invoke, builtin, hs, hx, hr, Result.andThen]
  exact hK v' w' h2 h3 h5
def NetR (B nb : Nat) (w w' : World) (gv : Value) (e : Ending) (ok : Int → List Py → Prop) : Prop := ∃ er gv' P', e = .returned (.int .i64 er) ∧ Hid (NetS B w' nb gv' P' ∧ Fr (nsZ nb gv) w w' ∧ (gv'.ownBlock = gv.ownBlock ∨ ∀ k, gv'.ownBlock = some k → w.heap.size ≤ k)) ∧ ok er P'
def copyOk (P : List Py) (a : Int) (er : Int) (P' : List Py) : Prop := ((a < 0 ∨ (P.length : Int) ≤ a) ∧ er = 7 ∧ P' = P) ∨ (0 ≤ a ∧ a < (P.length : Int) ∧ P.length = 4096 ∧ er = 3 ∧ P' = P) ∨ (0 ≤ a ∧ a < (P.length : Int) ∧ P.length ≠ 4096 ∧ er = 0 ∧ ∃ q, P[a.toNat]? = some q ∧ P' = P ++ [q])
theorem NetR.same {B nb : Nat} {w w' : World} {gv : Value} {P : List Py} {er : Int} {ok : Int → List Py → Prop} (h : NetS B w nb gv P) (hb : Below w.heap.size w w') (ho : ok er P) : NetR B nb w w' gv (.returned (.int .i64 er)) ok :=
  ⟨er, gv, P, rfl, ⟨h.bw hb, (Fr.refl _ w).below hb, Or.inl rfl⟩, ho⟩
set_option maxRecDepth 100000 in
set_option maxHeartbeats 2000000 in
theorem neCopy_any {B nb : Nat} {w : World} {gv : Value} {P : List Py} (h : NetS B w nb gv P) (at_ : Int) (hl : P.length ≤ 1048576) :
    Calls Try.prog 13 #[.pointer (some ⟨nb, 0, none⟩), .int .i64 at_] w fun e w' => NetR B nb w w' gv e (copyOk P at_) := by
  have KI := hide (neFind_any h at_)
  have KF := hide (neFull_any h)
  have HH := hide h
  obtain ⟨N, hN⟩ : ∃ N, N = P.length := ⟨_, rfl⟩
  rw [← hN] at KI KF hl
  have HN := hide hN
  clear h hN
  go_enter Try.func13, Try.ntmps13
  go_wp2_with fail
  refine (unhide KI).mono ?_
  rintro e w1 ⟨f1, f2, rfl⟩
  clear KI
  by_cases hA : 0 ≤ at_ ∧ at_ < (N : Int)
  · rw [f1 hA.1 hA.2]
    clear f1 f2
    go_wp2_with fail
    refine (unhide KF).mono ?_
    rintro e w2 ⟨rfl, rfl⟩
    clear KF
    by_cases hF : N = 4096
    · have HR : Hid (NetR B nb w2 w2 gv (.returned (.int .i64 3)) (copyOk P at_)) := NetR.same (unhide HH) (Below.refl _ _) (Or.inr (Or.inl ⟨hA.1, by rw [← unhide HN]; exact hA.2, by rw [← unhide HN]; exact hF, rfl, rfl⟩))
      rw [decide_eq_true hF]
      clear HH HN hA
      go_wp2_with fail
      go_ret
      exact unhide HR
    · rw [decide_eq_false hF]
      obtain ⟨n, rfl⟩ : ∃ n : Nat, at_ = (n : Int) := ⟨at_.toNat, by omega⟩
      have hn : n < N := by omega
      have hnI : (n : Int) < (N : Int) := by omega
      obtain ⟨q, hq⟩ : ∃ q, P[n]? = some q := ⟨_, List.getElem?_eq_getElem (by rw [← unhide HN]; exact hn)⟩
      obtain ⟨a, cap, hgv⟩ := (unhide HH).len
      subst hgv
      obtain ⟨g, rfl, cq⟩ := (unhide HH).at hq
      have hbd : w2.drew.heap[nb]? = some (.cells #[.bool true, .slice (some ⟨g, 0, none⟩) N cap] 61 (0, 0)) := by rw [unhide HN]; exact (unhide HH).box
      have c1 : w2.drew.cell? ⟨nb, 1, none⟩ = some (.slice (some ⟨g, 0, none⟩) N cap) := blk_c hbd rfl
      have c2 : w2.drew.cell? ⟨g, n, none⟩ = some (pyV q) := cq
      have c3 : ∀ o, (w2.alloc o).cell? ⟨nb, 1, none⟩ = some (.slice (some ⟨g, 0, none⟩) N cap) := fun o => by rw [(bwA w2 o).cell (lt_of_cell (w := w2) c1)]; exact c1
      obtain ⟨qv, hqv⟩ : ∃ z, z = pyV q := ⟨_, rfl⟩
      rw [← hqv] at c2
      have hpq : qv = .pointer (some ⟨q.b, 0, none⟩) := by rw [hqv]; rfl
      obtain ⟨qb, hqb⟩ : ∃ z, z = q.b := ⟨_, rfl⟩
      rw [← hqb] at hpq
      subst hpq
      have hD : NetS B w2.drew nb (.slice (some ⟨g, 0, none⟩) N cap) P := by rw [unhide HN]; exact (unhide HH).keep (fun _ _ _ => rfl)
      have hrow : w2.drew.ownsRow B 72 1 (.slice (some ⟨g, 0, none⟩) N cap) N (P.map pyV) := by have := hD.row; rw [← unhide HN] at this; exact this
      have HP : Hid (NetS B w2.drew nb (.slice (some ⟨g, 0, none⟩) N cap) P ∧ q ∈ P ∧ P[n]? = some q ∧ Value.pointer (some ⟨qb, 0, none⟩) = pyV q) := ⟨hD, List.mem_of_getElem? hq, hq, hqv⟩
      have hBV : B ≤ w2.drew.heap.size := by have := hD.hb; have := lt_of_blk hD.box; omega
      obtain ⟨i0, hi0, hz0, hz1, hz2⟩ := info_parts infoPP
      have HRW := hide hrow
      have HT : Hid (∀ (v' : Value) (W : World) (o : Obj), W.ownsRow B 72 1 v' (N + 1) (P.map pyV ++ [.pointer (some ⟨qb, 0, none⟩)]) → (w2.drew.alloc o).grownBy W (Value.slice (some ⟨g, 0, none⟩) N cap).ownBlock → (v'.ownBlock = (Value.slice (some ⟨g, 0, none⟩) N cap).ownBlock ∨ v'.ownBlock = some (w2.heap.size + 1)) →
          Hid (NetR B nb w2 (W.setCell ⟨nb, 1, none⟩ v') (.slice (some ⟨g, 0, none⟩) P.length cap) (.returned (.int .i64 0)) (copyOk P (n : Int))) ∧ W.cell? ⟨nb, 1, none⟩ = some (.slice (some ⟨g, 0, none⟩) N cap) ∧ (∀ j, W.frozen? ⟨nb, j, none⟩ = false) ∧ ∃ av nv cv, v' = .slice av nv cv) := fun v' W o hown hgrow hpl => by
        obtain ⟨hD, hm, hq, hv⟩ := unhide HP
        obtain ⟨x1, x2, x3⟩ := own_slice hown
        rw [hv] at hown
        rw [unhide HN] at hown hgrow hpl hD hF
        obtain ⟨m1, m2, m3, m4⟩ := hD.more (hD.el q hm) (hD.ap q hm) hown hgrow hpl
        have m2' : Fr (nsZ nb (.slice (some ⟨g, 0, none⟩) P.length cap)) w2 (W.setCell ⟨nb, 1, none⟩ v') := ⟨m2.os, m2.tape, m2.output, m2.size, m2.block⟩
        refine ⟨⟨0, v', P ++ [q], rfl, ⟨m1, m2', m3⟩, Or.inr (Or.inr ⟨by omega, by rw [← unhide HN]; exact hnI, hF, rfl, q, hq, rfl⟩)⟩, by rw [unhide HN]; exact blk_c m4 rfl, fun j => froz_b' m4, _, _, _, x3⟩
      clear hD hbd hq hqv cq hqb
      go_wp2_with fail
      go_region_law (refine step_appP rfl (.tmp 18) (.tmp 26) 59 rfl B 72 i0 (.pointer none) 1 8 Try.underlying59 hi0 hz0 hz1 hz2 rfl (by decide) (.slice (some ⟨g, 0, none⟩) N cap) N (P.map pyV) (by simp [Act.eval]) (World.ownsRow.alloc (unhide HRW) _) ⟨w2.drew.heap.size, 0, none⟩ 1 1 [.pointer (some ⟨qb, 0, none⟩)] (by simp [Act.eval]) rfl (cell_one_new _ _ _) (by intro u hu; simp at hu; subst hu; rfl) (by unfold maxLen; omega) (by omega) (by have := hBV; simp at this ⊢; omega) ?_; intro v' W hown hgrow hpl; obtain ⟨r1, r2, r3, av, nv, cv, rfl⟩ := unhide HT v' W _ hown hgrow (by simpa using hpl); clear hown hgrow hpl)
      all_goals
        go_wp2_with fail
        go_ret
        exact unhide r1
  · have HR : Hid (NetR B nb w1 w1 gv (.returned (.int .i64 7)) (copyOk P at_)) := NetR.same (unhide HH) (Below.refl _ _) (Or.inl ⟨by rw [← unhide HN]; omega, rfl, rfl⟩)
    rw [f2 (by omega)]
    clear f1 f2 HH HN KF hA
    go_wp2_with fail
    go_ret
    exact unhide HR
end Go.Proofs.Ytndgdpefoidfbaa

/- Drop, Deliver. -/
namespace Go.Proofs.Ytndgdpefoidfbaa
open Go.RowKit Go.Maps
def dropOk (P : List Py) (a : Int) (er : Int) (P' : List Py) : Prop := ((a < 0 ∨ (P.length : Int) ≤ a) ∧ er = 7 ∧ P' = P) ∨ (0 ≤ a ∧ a < (P.length : Int) ∧ er = 0 ∧ P' = P.eraseIdx a.toNat)
set_option maxRecDepth 100000 in
set_option maxHeartbeats 2000000 in
theorem neDrop_any {B nb : Nat} {w : World} {gv : Value} {P : List Py} (h : NetS B w nb gv P) (at_ : Int) (hl : P.length ≤ 1048576) :
    Calls Try.prog 17 #[.pointer (some ⟨nb, 0, none⟩), .int .i64 at_] w fun e w' => NetR B nb w w' gv e (dropOk P at_) := by
  have KI := hide (neFind_any h at_)
  have HH := hide h
  obtain ⟨N, hN⟩ : ∃ N, N = P.length := ⟨_, rfl⟩
  rw [← hN] at KI
  have HN := hide hN
  clear h
  go_enter Try.func17, Try.ntmps17
  go_wp2_with fail
  refine (unhide KI).mono ?_
  rintro e w1 ⟨f1, f2, rfl⟩
  clear KI
  by_cases hA : 0 ≤ at_ ∧ at_ < (N : Int)
  · rw [f1 hA.1 hA.2]
    obtain ⟨n, rfl⟩ : ∃ n : Nat, at_ = (n : Int) := ⟨at_.toNat, by omega⟩
    have KT := hide (neTake_any (unhide HH) (i := n) (by omega) hl)
    have HA := hide hA
    clear f1 f2 hN hA hl
    go_wp2_with fail
    refine (unhide KT).mono ?_
    rintro e w2 ⟨gv', rfl, h2, ho, hf⟩
    have HR : Hid (NetR B nb w1 w2 gv (.returned (.int .i64 0)) (dropOk P (n : Int))) := ⟨0, gv', _, rfl, ⟨h2, hf, Or.inl ho⟩, Or.inr ⟨by omega, by rw [← unhide HN]; exact (unhide HA).2, rfl, rfl⟩⟩
    clear KT h2 hf ho HH HN HA
    go_wp2_with fail
    go_ret
    exact unhide HR
  · have HR : Hid (NetR B nb w1 w1 gv (.returned (.int .i64 7)) (dropOk P at_)) := NetR.same (unhide HH) (Below.refl _ _) (Or.inl ⟨by rw [← unhide HN]; omega, rfl, rfl⟩)
    rw [f2 (by omega)]
    clear f1 f2 HH HN hA hN hl
    go_wp2_with fail
    go_ret
    exact unhide HR
theorem NetS.keepB {B nb : Nat} {w w' : World} {gv : Value} {P : List Py} (h : NetS B w nb gv P) (hf : ∀ k, (k = nb ∨ gv.ownBlock = some k ∨ ∃ q ∈ P, k ∈ pyZ q) → w'.heap[k]? = w.heap[k]?) : NetS B w' nb gv P :=
  ⟨h.hb, by rw [hf nb (Or.inl rfl)]; exact h.box, ne_blocks h.row (fun k hk => hf k (Or.inr (Or.inl hk))), h.ne, fun q hq => (h.el q hq).keep (fun k hk => hf k (Or.inr (Or.inr ⟨q, hq, hk⟩))), h.ap⟩
theorem results_cell_tmp {P : Program} {fn : Func} {p t0 : Tmp} {ty : TypeId} (h : fn.results = #[.cell p ty, .tmp t0]) (tmps : Array Value) (w : World) (g : Nat) (t : TypeId) (cs : Array Value) (fr : Nat × Nat) (d : TypeDesc)
    (hp : tmps.getD p undef = .pointer (some ⟨g, 0, none⟩)) (hg : w.heap[g]? = some (.cells cs t fr))
    (hu : P.underlying ty = some d) (hd : (match d with | .struct _ | .array _ _ => true | _ => false) = true) (hi : (P.info? ty).map (·.size) = some cs.size) :
    (results fn tmps).run P w = .ok (.tuple #[.agg cs, tmps.getD t0 undef]) w := by
  have hp' : tmps[p]?.getD undef = .pointer (some ⟨g, 0, none⟩) := by simpa using hp
  simp [results, h, hp', asAddr, run_loadVar_row w g t ty cs fr d hg hu hd hi]
def DelR (B nb : Nat) (w w' : World) (gv : Value) (P : List Py) (a : Int) (e : Ending) : Prop := ∃ gv' P', Hid (NetS B w' nb gv' P' ∧ Fr (nsZ nb gv) w w' ∧ gv'.ownBlock = gv.ownBlock) ∧
  (((a < 0 ∨ (P.length : Int) ≤ a) ∧ e = .returned (.tuple #[.agg pt0, .int .i64 7]) ∧ P' = P) ∨ (0 ≤ a ∧ a < (P.length : Int) ∧ ∃ q y', P[a.toNat]? = some q ∧ P' = P.eraseIdx a.toNat ∧ e = .returned (.tuple #[.agg (ptC q.p y').toArray, .int .i64 0]) ∧ OF w.heap.size w' q.p.fd y' ∧ SmF q.p.fd))
theorem built_pt0 : Try.prog.built 44 [] = some pt0 := by kernel_rfl
theorem infoPk0 : (Try.prog.info? 44).map (·.size) = some pt0.size := by kernel_rfl
theorem pt0_one : pt0.all (·.oneCell') = true := by
  have h : pt0.toList.all (fun u => u.oneCell') = true := by rfl
  have := all_oneCell_toArray (fun u hu => List.all_eq_true.1 h u hu)
  simpa using this
set_option maxRecDepth 100000 in
set_option maxHeartbeats 2000000 in
theorem neDeliver_any {B nb : Nat} {w : World} {gv : Value} {P : List Py} (h : NetS B w nb gv P) (at_ : Int) (hl : P.length ≤ 1048576) :
    Calls Try.prog 15 #[.pointer (some ⟨nb, 0, none⟩), .int .i64 at_] w fun e w' => DelR B nb w w' gv P at_ e := by
  obtain ⟨w0, hw0⟩ : ∃ w0, w0 = w.alloc (.cells pt0 44) := ⟨_, rfl⟩
  have bl : Below w.heap.size w w0 := by rw [hw0]; exact bwA _ _
  have kk : w0.heap[w.heap.size]? = some (.cells pt0 44 (0, 0)) := by rw [hw0]; exact heap_alloc_new _ _
  have KI := hide (neFind_any (h.bw bl) at_)
  have HH := hide (And.intro h (And.intro bl kk))
  have HW : Hid (w0 = w.alloc (.cells #[.int .i64 0, .int .i64 0, .bool false, .int .i64 0, .int .u8 0, .int .i64 0, .int .i64 0, .int .i64 0, .int .i64 0, .int .i64 0, .int .i64 0, .int .i64 0, .bool false, .slice none 0 0, .slice none 0 0, .slice none 0 0, .slice none 0 0, .int .i64 0, .int .i64 0, .slice none 0 0, .int .i64 0, .int .i64 0, .int .u8 0, .int .i64 0, .int .i64 0, .int .i64 0, .int .i64 0, .int .i64 0, .bool false, .slice none 0 0, .slice none 0 0, .slice none 0 0, .slice none 0 0, .int .i64 0, .int .i64 0, .slice none 0 0, .int .i64 0, .int .i64 0, .int .i64 0, .int .i64 0, .int .i64 0, .int .i64 0, .int .i64 0, .int .i64 0, .int .i64 0, .slice none 0 0, .int .i64 0, .int .i64 0, .int .i64 0, .int .i64 0, .int .i64 0, .int .i64 0, .int .i64 0, .int .i64 0, .int .i64 0, .int .i64 0, .int .i64 0] 44)) := hw0
  obtain ⟨N, hN⟩ : ∃ N, N = P.length := ⟨_, rfl⟩
  rw [← hN] at KI
  have HN := hide hN
  clear h bl kk hw0
  go_enter Try.func15, Try.ntmps15
  go_upto_region 1 with fail
  rw [← unhide HW]
  clear HW
  go_wp2_with fail
  refine (unhide KI).mono ?_
  rintro e w1 ⟨f1, f2, rfl⟩
  clear KI
  by_cases hA : 0 ≤ at_ ∧ at_ < (N : Int)
  · rw [f1 hA.1 hA.2]
    obtain ⟨n, rfl⟩ : ∃ n : Nat, at_ = (n : Int) := ⟨at_.toNat, by omega⟩
    have hn : n < N := by omega
    have hnI : (n : Int) < (N : Int) := by omega
    obtain ⟨q, hq⟩ : ∃ q, P[n]? = some q := ⟨_, List.getElem?_eq_getElem (by rw [← unhide HN]; exact hn)⟩
    have h1 : NetS B w1 nb gv P := (unhide HH).1.bw (unhide HH).2.1
    obtain ⟨a, cap, hgv⟩ := h1.len
    subst hgv
    obtain ⟨g, rfl, cq⟩ := h1.at hq
    have hqA := h1.el q (List.mem_of_getElem? hq)
    have c1 : w1.cell? ⟨nb, 1, none⟩ = some (.slice (some ⟨g, 0, none⟩) N cap) := by rw [unhide HN]; exact blk_c h1.box rfl
    obtain ⟨qb, hqb⟩ : ∃ z, z = q.b := ⟨_, rfl⟩
    obtain ⟨CS, hCS⟩ : ∃ z, z = ptC q.p q.x := ⟨_, rfl⟩
    have cq2 : w1.cell? ⟨g, n, none⟩ = some (.pointer (some ⟨qb, 0, none⟩)) := by rw [hqb]; exact cq
    have HK : Hid (w1.heap[qb]? = some (.cells CS.toArray 44 (0, 0)) ∧ (Try.prog.info? 44).map (·.size) = some CS.toArray.size) := by
      rw [hqb, hCS]; exact ⟨hqA.blk, by rw [List.size_toArray]; exact infoPkS2⟩
    have KP : Hid (Calls Try.prog 27 #[.agg CS.toArray] w1 fun e w' => ∃ (y' : Fx) (cs' : Array Value), e = .returned (.agg cs') ∧ Hid (OF w1.heap.size w' q.p.fd y' ∧ (ptC q.p y').toArray = cs' ∧ (Try.prog.info? 44).map (·.size) = some cs'.size ∧ pt0.size = cs'.size ∧ cs'.all (·.oneCell') = true) ∧ Below w1.heap.size w1 w') := by
      rw [hCS]
      refine Calls.mono (frPacket_any (OF.rd hqA.of hqA.sm) hqA.sm) ?_
      rintro e w' ⟨y', rfl, o1, o2⟩
      exact ⟨y', _, rfl, ⟨o1, rfl, by rw [List.size_toArray]; exact infoPkS2, by rw [List.size_toArray]; rfl, all_oneCell_toArray (pt_one (OF.rd o1 hqA.sm))⟩, o2⟩
    have HQ := hide (And.intro hq hqA.sm)
    have HL := hide hl
    clear f1 f2 hN hA hl h1 hqA hqb hCS cq hn hq
    go_wp2_with (refine wpList_load_row rfl 44 (.tmp 22) rfl qb rfl 44 CS.toArray (0, 0) _ (unhide HK).1 Try.underlying44 rfl (unhide HK).2 ?_)
    refine (unhide KP).mono ?_
    rintro e w2 ⟨y', cs', rfl, hO, b2⟩
    have HB2 := hide b2
    clear KP HK b2 c1 cq2
    go_upto_region 5 with (refine wpList_store_row rfl 44 (.tmp 7) (.tmp 24) rfl w2.heap.size cs' rfl rfl 44 pt0 (heap_alloc_new _ _) (unhide hO).2.2.1 (unhide hO).2.2.2.1 (unhide hO).2.2.2.2 ?_)
    generalize hV : World.setRow _ _ _ = V
    have HV : Hid (Below w2.heap.size w2 V ∧ V.heap[w2.heap.size]? = some (.cells cs' 44 (0, 0))) := by
      rw [← hV]
      exact ⟨below_setRow' (bwA _ _) (Nat.le_refl _) _, setRow_heap _ _ _ _ _ _ (heap_alloc_new w2 (.cells pt0 44))⟩
    have KT : Hid (Calls Try.prog 29 #[.pointer (some ⟨nb, 0, none⟩), .int .i64 (n : Int)] V fun e w' => ∃ gv', e = .returned (.tuple #[]) ∧ NetS B w' nb gv' (P.eraseIdx n) ∧ gv'.ownBlock = (Value.slice (some ⟨g, 0, none⟩) P.length cap).ownBlock ∧ Fr (nsZ nb (.slice (some ⟨g, 0, none⟩) P.length cap)) V w') := by
      refine neTake_any ((((unhide HH).1.bw (unhide HH).2.1).bw (unhide HB2)).bw (unhide HV).1) ?_ (unhide HL)
      have := unhide HN; omega
    clear hV
    go_wp2_with fail
    refine (unhide KT).mono ?_
    rintro e w3 ⟨gv', rfl, h3, ho3, f3⟩
    have HR : Hid (w3.heap[w2.heap.size]? = some (.cells cs' 44 (0, 0)) ∧ w3.heap[w.heap.size]? = some (.cells pt0 44 (0, 0)) ∧ DelR B nb w (w3.setRow w.heap.size cs') (.slice (some ⟨g, 0, none⟩) P.length cap) P (n : Int) (.returned (.tuple #[.agg cs', .int .i64 0])) ∧ (w3.setRow w.heap.size cs').heap[w.heap.size]? = some (.cells cs' 44 (0, 0))) := by
      obtain ⟨h, bl, kk⟩ := unhide HH
      obtain ⟨bV, kV⟩ := unhide HV
      obtain ⟨o1, o2, _⟩ := unhide hO
      have b2 := unhide HB2
      have hnb := lt_of_blk h.box
      have hgb : g < w.heap.size := (World.ownsRow.lt h.row g rfl).2
      have hk0 := lt_of_blk kk
      have hs2 := b2.size
      have hsV := bV.size
      have hin : ∀ k, w.heap.size ≤ k → k ∉ nsZ nb (.slice (some ⟨g, 0, none⟩) P.length cap) := fun k hk => nsZ_not (by omega) (by intro c; simp [Value.ownBlock] at c; omega)
      have e1 : w3.heap[w2.heap.size]? = some (.cells cs' 44 (0, 0)) := by rw [f3.block _ (lt_of_blk kV) (hin _ (by omega))]; exact kV
      have e2 : w3.heap[w.heap.size]? = some (.cells pt0 44 (0, 0)) := by
        rw [f3.block _ (by omega) (hin _ (Nat.le_refl _)), bV.block _ (by omega), b2.block _ hk0]; exact kk
      have e4 : (w3.setRow w.heap.size cs').heap[w.heap.size]? = some (.cells cs' 44 (0, 0)) := setRow_heap _ _ _ _ _ _ e2
      refine ⟨e1, e2, ⟨gv', P.eraseIdx n, ⟨h3.keepB (fun k hk => setRow_other _ _ _ _ ?_), ?_, ho3⟩, Or.inr ⟨by omega, by rw [← unhide HN]; exact hnI, q, y', (unhide HQ).1, rfl, by rw [o2], ?_, (unhide HQ).2⟩⟩, e4⟩
      · rcases hk with c | c | ⟨q', hq', c⟩
        · omega
        · rw [ho3] at c; simp [Value.ownBlock] at c; omega
        · have := ((h.el q' (List.mem_of_mem_eraseIdx hq')).lt k c).2; omega
      · have f0 := ((Fr.refl (nsZ nb (.slice (some ⟨g, 0, none⟩) P.length cap)) w).below bl)
        have f1 := (f0.below b2).below bV
        have f4 := f1.tr f3
        exact ⟨f4.os, f4.tape, f4.output, by simpa [World.setRow] using f4.size, fun k hk hm => by rw [setRow_other _ _ _ _ (by omega)]; exact f4.block k hk hm⟩
      · refine OF.keep (OF.mono o1 (by omega)) (fun k hk => ?_)
        obtain ⟨k1, k2⟩ := OF.lt o1 k hk
        rw [setRow_other _ _ _ _ (by omega), f3.block k (by omega) (hin k (by omega)), bV.block k k2]
    have HS : Hid ((Try.prog.info? 44).map (·.size) = some cs'.size ∧ pt0.size = cs'.size ∧ cs'.all (·.oneCell') = true) := (unhide hO).2.2
    clear KT HV HH HN h3 ho3 f3 hO HB2 HQ HL
    go_wp2_with (first | refine wpList_load_row rfl 44 (.tmp 7) rfl w2.heap.size rfl 44 cs' (0, 0) _ (unhide HR).1 Try.underlying44 rfl (unhide HS).1 ?_ | refine wpList_store_row rfl 44 (.tmp 4) (.tmp 28) rfl w.heap.size cs' rfl rfl 44 pt0 (unhide HR).2.1 (unhide HS).1 (unhide HS).2.1 (unhide HS).2.2 ?_)
    exact bodyPost_ret (v := .tuple #[.agg cs', .int .i64 0]) (results_cell_tmp Try.results15 _ _ w.heap.size 44 cs' (0, 0) _ rfl (unhide HR).2.2.2 Try.underlying44 rfl (unhide HS).1) rfl (unhide HR).2.2.1
  · rw [f2 (by omega)]
    have HK := hide (unhide HH).2.2
    have HR : Hid (DelR B nb w (w1.setRow w.heap.size pt0) gv P at_ (.returned (.tuple #[.agg pt0, .int .i64 7])) ∧ (w1.setRow w.heap.size pt0).heap[w.heap.size]? = some (.cells pt0 44 (0, 0))) := by
      obtain ⟨h, bl, kk⟩ := unhide HH
      have b2 : Below w.heap.size w (w1.setRow w.heap.size pt0) := below_setRow' bl (Nat.le_refl _) _
      exact ⟨⟨gv, P, ⟨h.bw b2, (Fr.refl _ w).below b2, rfl⟩, Or.inl ⟨by rw [← unhide HN]; omega, rfl, rfl⟩⟩, setRow_heap _ _ _ _ _ _ kk⟩
    clear f1 f2 HH HN hA hN hl
    go_wp2_with (first | refine wpList_buildTo (P := Try.prog) rfl 44 #[] rfl (some 13) rfl pt0 (by simp only [List.map_toArray, List.map_nil, List.toList_toArray]; exact built_pt0) ?_ | refine wpList_store_row rfl 44 (.tmp 4) (.tmp 13) rfl w.heap.size pt0 rfl rfl 44 pt0 (unhide HK) infoPk0 rfl pt0_one ?_)
    exact bodyPost_ret (v := .tuple #[.agg pt0, .int .i64 7]) (results_cell_tmp Try.results15 _ _ w.heap.size 44 pt0 (0, 0) _ rfl (unhide HR).2 Try.underlying44 rfl infoPk0) rfl (unhide HR).1
end Go.Proofs.Ytndgdpefoidfbaa

/- All. -/
namespace Go.Proofs.Ytndgdpefoidfbaa
open Go.RowKit Go.Maps
theorem wpList_buildW {P : Program} {ops : Array Oper} {rest : List Oper} {o : Oper} {a : Act} {w : World} {Q : Exit → Act → World → Prop} (hg : o.guard = none) (t e : TypeId) (x : Operand) (hop : o.op = .buildSlice t 1 #[(0, x)])
    (cs : List Value) (hx : a.eval x = .agg cs.toArray) (ie : TypeInfo) (z : Value) (hu : P.underlying t = some (.slice e)) (hie : P.info? e = some ie) (hz : ie.zero = some z) (hs : ie.size = cs.length) (hc : 0 < cs.length) (hm : cs.length ≤ 1000) (d : Option Tmp) (hd : o.dst = d)
    (h : wpList P ops Q rest (a.put d (.slice (some ⟨w.heap.size, 0, none⟩) 1 1)) (w.alloc (.cells cs.toArray e))) : wpList P ops Q (o :: rest) a w := by
  subst hd
  refine wpList_buildSlice hg t e 1 #[(0, x)] hop cs.toArray ie z hu hie hz (by rw [hs]; omega) (by rw [hs]; omega) ?_ h
  rw [hs]
  have : (#[(0, x)].map fun (p : Nat × Operand) => (p.1, a.eval p.2)).toList = [(0, .agg cs.toArray)] := by simp [hx]
  rw [show (#[(0, x)].map fun (i, x) => (i, a.eval x)).toList = [(0, Value.agg cs.toArray)] from this]
  exact fill_one rfl (by simp)
end Go.Proofs.Ytndgdpefoidfbaa
