/- Contracts of Get and Make of package term. -/
import Derived.Test.YtpcpcgagiapinaaGreatDoorNTmA
import Derived.Deep.RegionLaw
import Derived.Deep.RegionWith
import Derived.Deep.CutRange
namespace Go.Proofs.YtpcpcgagiapinaaGreatDoor.Tn
open Go.RowKit Go.Maps
def getT (L : List Tm) (x : Int) : Tm := if thr L.length x = true then tmAt L x.toNat else ⟨0, 0, 0, 0⟩
theorem thr_open {L : List Tm} {x : Int} (h : thr L.length x = true) : ∃ i t, x = ((i : Nat) : Int) + 1 ∧ L[i]? = some t ∧ i < L.length ∧ getT L x = t := by
  have h1 := thr_iff.1 h
  have hi : x.toNat - 1 < L.length := by omega
  refine ⟨x.toNat - 1, L[x.toNat - 1], by omega, List.getElem?_eq_getElem hi, hi, ?_⟩
  simp [getT, h, tmAt, List.getD, List.getElem?_eq_getElem hi]
set_option maxHeartbeats 1000000 in
theorem get_any (b : Nat) (sv : Value) (mb : Nat) (L : List Tm) (x : Int) (w : World) (h : St w b sv mb L) :
    Calls Tryz.prog 45 #[.pointer (some ⟨b, 0, none⟩), .int .i64 x] w fun e w' => e = .returned (.tuple #[.agg #[.int .u8 (getT L x).kd, .int .i64 (getT L x).n, .int .i64 (getT L x).a, .int .i64 (getT L x).b], .bool (thr L.length x)]) ∧ Below w.heap.size w w' := by
  have K := has_any b sv mb L x _ (h.bw ((Below.refl w.heap.size w).alloc (Nat.le_refl _) (.cells #[.int .u8 0, .int .i64 0, .int .i64 0, .int .i64 0] 64)))
  cases ht : thr L.length x
  · have e : getT L x = ⟨0, 0, 0, 0⟩ := by simp [getT, ht]
    rw [e]
    rw [ht] at K
    clear e ht h
    go_enter Tryz.func45, Tryz.ntmps45
    go_wp2_with fail
    refine K.mono ?_
    rintro e w1 ⟨rfl, rfl⟩
    go_wp2
    exact bodyPost_ret (v := .tuple #[.agg #[.int .u8 0, .int .i64 0, .int .i64 0, .int .i64 0], .bool false]) (by simp [results, Tryz.results45, go_sem]) rfl ⟨rfl, (Below.refl _ _).alloc (Nat.le_refl _) _⟩
  · rw [ht] at K
    obtain ⟨i, t, rfl, hi, hlt, e⟩ := thr_open ht
    rw [e]
    have hl := h.len
    obtain ⟨c0, c1, _⟩ := h.cells
    have hbw := lt_of_blk h.blk
    obtain ⟨g, cap, rfl, hg, t0, t1, t2, t3⟩ : ∃ g cap, sv = .slice (some ⟨g, 0, none⟩) L.length cap ∧ g < w.heap.size ∧ TAt w g (i * 4) t := by
      rcases h.row.form with ⟨_, rfl⟩ | ⟨g, cap, hv, _, hg, _⟩
      · simp at hlt
      · exact ⟨g, cap, hv, hg, h.row.at (by rw [hv]; rfl) hi⟩
    have hlt' : (i : Int) < (L.length : Int) := by omega
    clear e ht h hi
    go_enter Tryz.func45, Tryz.ntmps45
    go_wp2_with fail
    refine K.mono ?_
    rintro e w1 ⟨rfl, rfl⟩
    go_wp2
    exact bodyPost_ret (v := .tuple #[.agg #[.int .u8 t.kd, .int .i64 t.n, .int .i64 t.a, .int .i64 t.b], .bool true]) (by simp [results, Tryz.results45, go_sem]) rfl ⟨rfl, (Below.refl _ _).alloc (Nat.le_refl _) _⟩
theorem TMap.look {w : World} {b : Nat} {L : List Tm} (h : TMap w b L) {t : Tm} (ht : t.ok) : (Instr.lookup 129 (.map (some b)) (.agg #[.int .u8 t.kd, .int .i64 t.n, .int .i64 t.a, .int .i64 t.b]) true).run Tryz.prog w = .ok (.tuple #[.int .i64 (num L t : Nat), .bool (decide (t ∈ L))]) w := by
  obtain ⟨D, hD, hv⟩ := h
  obtain ⟨kl, hk⟩ := keyOf_tm ht
  obtain ⟨q1, q2⟩ := hv t ht kl hk
  obtain ⟨v, ps, hr, hR⟩ := hD.look_ok lawTm Tryz.underlying129 (zeroInt w) (plainElem_int Tryz.underlying3 (by decide)) hk
  rw [q1] at hr
  rw [q2] at hR
  obtain ⟨c, rfl, hc, _⟩ := plainElem_int_inv Tryz.underlying3 hR
  simp only [Prod.mk.injEq, DataW.lit.injEq, Lit.int.injEq, true_and] at hc
  rw [hc.1]
  exact hr
theorem TMap.store {w : World} {b : Nat} {L : List Tm} (h : TMap w b L) {t : Tm} (ht : t.ok) (hn : t ∉ L) (hl : L.length < 1048576) : ∃ w', (Instr.mapUpdate 129 (.map (some b)) (.agg #[.int .u8 t.kd, .int .i64 t.n, .int .i64 t.a, .int .i64 t.b]) (.int .i64 ((L.length : Int) + 1))).run Tryz.prog w = .ok () w' ∧ TMap w' b (L ++ [t]) ∧ w.grownBy w' (some b) := by
  obtain ⟨D, hD, hv⟩ := h
  obtain ⟨kl, hk⟩ := keyOf_tm ht
  obtain ⟨w', hr, h1, h2⟩ := hD.update lawTm Tryz.underlying129 (by unfold maxLen; omega) hk (plainElem_int (a := ((L.length + 1 : Nat) : Int)) Tryz.underlying3 (wf_i64 (by omega) (by omega)))
  refine ⟨w', ?_, TMap.put hD hv hk hn h1, h2⟩
  have e : ((L.length + 1 : Nat) : Int) = (L.length : Int) + 1 := by omega
  rw [e] at hr
  exact hr
theorem step_append_own {P : Program} {ops : Array Oper} {o : Oper} {a : Act} {w : World} {K : Act → World → Prop} {Q : Exit → Act → World → Prop} {E : Prop}
    (hg : o.guard = none) (s x : Operand) (t : TypeId) (hop : o.op = Op.call { callee := Callee.builtin Builtin.append, args := #[s, x], argTypes := #[t, t] })
    (base : Nat) (e : TypeId) (i : TypeInfo) (z : Value) (size bytes : Nat) (h1 : P.underlying t = some (.slice e)) (h2 : P.info? e = some i) (h3 : i.zero = some z) (h4 : i.size = size) (h5 : i.bytes = bytes) (h6 : z.cells.size = size) (h7 : 0 < size)
    (v : Value) (n : Nat) (xs : List Value) (hs : a.eval s = v) (hown : w.ownsRow base e size v n xs)
    (ad : Addr) (m c : Nat) (news : List Value) (hx : a.eval x = .slice (some ad) m c) (hn : news.length = m * size) (hc : ∀ j u, news[j]? = some u → w.cell? (ad.add j) = some u) (h1c : ∀ u ∈ news, u.oneCell' = true)
    (b1 : n + m ≤ maxLen) (b2 : (n + m) * bytes ≤ 140737488355328) (hbase : base ≤ w.heap.size)
    (hK : ∀ v' w', w'.ownsRow base e size v' (n + m) (xs ++ news) → w.grownBy w' v.ownBlock → (v'.ownBlock = v.ownBlock ∨ v'.ownBlock = some w.heap.size) → K (a.put o.dst v') w') :
    if Region.wanted o (yielded ops a.tmps) = true then Oper.wp P o a w K Q else E := by
  have hw : Region.wanted o (yielded ops a.tmps) = true := by simp [Region.wanted, hg]
  rw [if_pos hw]
  obtain ⟨v', w', hr, r2, r3, _, r5⟩ := run_append_own_at (P := P) w base t o.type e i z size bytes h1 h2 h3 h4 h5 h6 h7 v n xs hown ad m c news hn hc h1c b1 b2 hbase
  unfold Oper.wp
  simp [execOp, hop, resolve, invoke, builtin, hs, hx, hr, Result.andThen]
  exact hK v' w' r2 r3 r5
theorem St.appendedN {w w0 w1 : World} {b : Nat} {sv sv' : Value} {mb N : Nat} {L : List Tm} {t : Tm} (h : St w b sv mb L) (hN : N = L.length) (h0 : Fr [] w w0) (hown : w1.ownsRow 0 64 4 sv' (N + 1) (L.flatMap tmC ++ tmC t)) (hg : w0.grownBy w1 sv.ownBlock)
    (hat : sv'.ownBlock = sv.ownBlock ∨ sv'.ownBlock = some w0.heap.size) :
    w1.cell? ⟨b, 0, none⟩ = some sv ∧ w1.frozen? ⟨b, 0, none⟩ = false ∧ (w1.setCell ⟨b, 0, none⟩ sv').heap[b]? = some (.cells #[sv', .map (some mb)] 131 (0, 0)) ∧ TmRow 0 (w1.setCell ⟨b, 0, none⟩ sv') sv' (L ++ [t]) ∧
    (w1.setCell ⟨b, 0, none⟩ sv').heap[mb]? = w.heap[mb]? ∧ Fr (foot b sv mb) w (w1.setCell ⟨b, 0, none⟩ sv') ∧ (∀ k, sv'.ownBlock = some k → sv.ownBlock = some k ∨ w.heap.size ≤ k) ∧ (∃ g cap, sv' = .slice (some ⟨g, 0, none⟩) (N + 1) cap) ∧ sv'.ownBlock ≠ some mb := by
  subst hN
  exact h.appended h0 hown hg hat
theorem St.ready {w W W3 : World} {b N : Nat} {sv sv' : Value} {mb : Nat} {L : List Tm} {k n x y : Int} (h2 : St W b sv mb L) (hN : N < 1048576) (hL : N = L.length) (hs : w.heap.size < W.heap.size) (hl : ∀ z ∈ foot b sv mb, z < w.heap.size)
    (u0 : W.cell? ⟨w.heap.size, 0, none⟩ = some (.int .u8 k)) (u1 : W.cell? ⟨w.heap.size, 1, none⟩ = some (.int .i64 n)) (u2 : W.cell? ⟨w.heap.size, 2, none⟩ = some (.int .i64 x)) (u3 : W.cell? ⟨w.heap.size, 3, none⟩ = some (.int .i64 y))
    (k3 : W3.heap[b]? = some (.cells #[sv', .map (some mb)] 131 (0, 0))) (k5 : W3.heap[mb]? = W.heap[mb]?) (k6 : Fr (foot b sv mb) W W3) (ht : (⟨k, n, x, y⟩ : Tm).ok) (hn : (⟨k, n, x, y⟩ : Tm) ∉ L) :
    (W3.cell? ⟨b, 0, none⟩ = some sv' ∧ W3.cell? ⟨b, 1, none⟩ = some (.map (some mb)) ∧ W3.cell? ⟨w.heap.size, 0, none⟩ = some (.int .u8 k) ∧ W3.cell? ⟨w.heap.size, 1, none⟩ = some (.int .i64 n) ∧ W3.cell? ⟨w.heap.size, 2, none⟩ = some (.int .i64 x) ∧ W3.cell? ⟨w.heap.size, 3, none⟩ = some (.int .i64 y)) ∧
    ∃ w4, (Instr.mapUpdate 129 (.map (some mb)) (.agg #[.int .u8 k, .int .i64 n, .int .i64 x, .int .i64 y]) (.int .i64 ((N : Int) + 1))).run Tryz.prog W3.drew = .ok () w4 ∧ w4.cell? ⟨b, 0, none⟩ = some sv' ∧ TMap w4 mb (L ++ [⟨k, n, x, y⟩]) ∧ W3.drew.grownBy w4 (some mb) := by
  subst hL
  have hbx : W3.heap[w.heap.size]? = W.heap[w.heap.size]? := k6.block _ hs (fun c => by have := hl _ c; omega)
  have hc : ∀ j, W3.cell? ⟨w.heap.size, j, none⟩ = W.cell? ⟨w.heap.size, j, none⟩ := fun j => World.cell?_of_block hbx
  obtain ⟨w4, r1, r2, r3⟩ := TMap.store (w := W3.drew) (h2.map.keep k5) ht hn hN
  have e0 : W3.cell? ⟨b, 0, none⟩ = some sv' := by simp [World.cell?, k3]
  refine ⟨⟨e0, by simp [World.cell?, k3], (hc 0).trans u0, (hc 1).trans u1, (hc 2).trans u2, (hc 3).trans u3⟩, w4, r1, ?_, r2, r3⟩
  have hbm : b ≠ mb := h2.apart.1
  rw [World.cell?_of_block (w := W3) (r3.block b (lt_of_blk k3) (fun c => hbm (Option.some.inj c)))]
  exact e0
theorem St.stored {w W W3 w4 : World} {b : Nat} {sv sv' : Value} {mb : Nat} {L : List Tm} {t : Tm} (h : St w b sv mb L) (hb : Below w.heap.size w W) (k3 : W3.heap[b]? = some (.cells #[sv', .map (some mb)] 131 (0, 0))) (k4 : TmRow 0 W3 sv' (L ++ [t])) (k6 : Fr (foot b sv mb) W W3)
    (k7 : ∀ k, sv'.ownBlock = some k → sv.ownBlock = some k ∨ W.heap.size ≤ k) (k9 : sv'.ownBlock ≠ some mb) (hm : TMap w4 mb (L ++ [t])) (hg : W3.drew.grownBy w4 (some mb)) (hG : Good (L ++ [t])) (hf : ∀ u ∈ L ++ [t], u.ok) : SStep w w4 b sv sv' mb (L ++ [t]) := by
  have hbm : b ≠ mb := h.apart.1
  refine ⟨⟨?_, ?_, hm, hG, hf⟩, ?_, fun k hk => (k7 k hk).imp id (fun c => Nat.le_trans hb.size c)⟩
  · rw [hg.block b (lt_of_blk k3) (fun c => hbm (Option.some.inj c))]; exact k3
  · exact k4.keep fun k hk => hg.block k (k4.lt k hk).2 (fun c => k9 (by rw [hk, c]))
  · have f1 : Fr (foot b sv mb) w W3 := (Fr.ofBelow hb).trans k6 (fun _ _ c => by cases c) (fun _ _ c => c)
    exact f1.drew.trans (Fr.ofGrown hg) (fun _ _ c => c) (fun x _ c => by simp at c; subst c; simp [foot])
theorem ret_pair {a b c d : Int} (h1 : a = b) (h2 : c = d) : Ending.returned (.tuple #[.int .i64 a, .int .i64 c]) = .returned (.tuple #[.int .i64 b, .int .i64 d]) := by rw [h1, h2]
set_option maxRecDepth 100000 in
set_option maxHeartbeats 4000000 in
theorem make_any (b : Nat) (sv : Value) (mb : Nat) (L : List Tm) (t : Tm) (w : World) (h : St w b sv mb L) (ht : t.ok) :
    Calls Tryz.prog 22 #[.pointer (some ⟨b, 0, none⟩), .agg #[.int .u8 t.kd, .int .i64 t.n, .int .i64 t.a, .int .i64 t.b]] w fun e w' => e = .returned (.tuple #[.int .i64 (mkN L t : Nat), .int .i64 (mkE L t)]) ∧ ∃ sv', SStep w w' b sv sv' mb (mkL L t) := by
  obtain ⟨k, n, x, y⟩ := t
  obtain ⟨w0, hw0⟩ : ∃ w0, w0 = w.alloc (.cells #[.int .u8 k, .int .i64 n, .int .i64 x, .int .i64 y] 64) := ⟨_, rfl⟩
  have hb0 : Below w.heap.size w w0 := by rw [hw0]; exact (Below.refl _ _).alloc (Nat.le_refl _) _
  have h0 := h.bw hb0
  have K1 := missing_any b sv mb L w0 h0
  have K2 := mayBe_any b sv mb L k n x y w0 h0
  have hsz : w0.heap.size = w.heap.size + 1 := by rw [hw0]; simp
  have bx : TAt w0 w.heap.size 0 ⟨k, n, x, y⟩ := by
    rw [hw0]; unfold TAt World.cell?; simp only [heap_alloc_new]; exact ⟨rfl, rfl, rfl, rfl⟩
  cases hm : may L.length ⟨k, n, x, y⟩
  · have e1 : mkN L ⟨k, n, x, y⟩ = 0 := by simp [mkN, hm]
    have e2 : mkE L ⟨k, n, x, y⟩ = 1 := by simp [mkE, hm]
    have e3 : mkL L ⟨k, n, x, y⟩ = L := by simp [mkL, hm]
    rw [e1, e2, e3]
    rw [hm] at K2
    rw [hw0] at K1 K2 hb0
    clear e1 e2 e3 h0 hm hsz bx hw0
    go_enter Tryz.func22, Tryz.ntmps22
    go_wp2_with fail
    refine K1.mono ?_
    rintro e w1 ⟨rfl, rfl⟩
    go_wp2_with fail
    refine K2.mono ?_
    rintro e w1 ⟨rfl, hb1⟩
    go_wp2
    go_ret2
    exact ⟨rfl, sv, SStep.same h (bw_tr hb0 hb1)⟩
  · rw [hm] at K2
    have K2' : Calls Tryz.prog 64 #[.pointer (some ⟨b, 0, none⟩), .agg #[.int .u8 k, .int .i64 n, .int .i64 x, .int .i64 y]] w0 fun e w1 => e = .returned (.bool true) ∧ Below w.heap.size w w1 ∧ St w1 b sv mb L ∧ w.heap.size < w1.heap.size ∧ TAt w1 w.heap.size 0 ⟨k, n, x, y⟩ := by
      refine K2.mono ?_
      rintro e w1 ⟨rfl, hb1⟩
      exact ⟨rfl, bw_tr hb0 hb1, h0.bw hb1, by have := hb1.size; omega, bx.keep (hb1.block _ (by omega))⟩
    rw [hw0] at K1 K2'
    clear K2 h0 hsz bx hb0 hw0
    by_cases hmem : (⟨k, n, x, y⟩ : Tm) ∈ L
    · have e1 : mkN L ⟨k, n, x, y⟩ = num L ⟨k, n, x, y⟩ := by simp [mkN, hm, hmem]
      have e2 : mkE L ⟨k, n, x, y⟩ = 0 := by simp [mkE, hm, hmem]
      have e3 : mkL L ⟨k, n, x, y⟩ = L := by simp [mkL, hmem]
      rw [e1, e2, e3]
      clear e1 e2 e3 hm
      go_enter Tryz.func22, Tryz.ntmps22
      go_wp2_with fail
      refine K1.mono ?_
      rintro e w1 ⟨rfl, rfl⟩
      go_wp2_with fail
      refine K2'.mono ?_
      rintro e w1 ⟨rfl, hb1, h1, hs1, t0, t1, t2, t3⟩
      obtain ⟨c0, c1, _⟩ := h1.cells
      have HL : ∀ q, (Instr.lookup 129 (.map (some mb)) (.agg #[.int .u8 k, .int .i64 n, .int .i64 x, .int .i64 y]) true).run Tryz.prog (w1.drewN q) = .ok (.tuple #[.int .i64 (num L ⟨k, n, x, y⟩ : Nat), .bool true]) (w1.drewN q) := fun q => by
        have := TMap.look (w := w1.drewN q) h1.map ht
        rw [decide_eq_true hmem] at this
        exact this
      simp only [Nat.zero_add] at t1 t2 t3
      go_wp2_with fail
      go_quiet (fail)
      go_wp2_with fail
      go_ret2
      exact ⟨rfl, sv, SStep.same h (below_drewN hb1 _)⟩
    · by_cases hlen : L.length < 1048576
      · have e1 : mkN L ⟨k, n, x, y⟩ = L.length + 1 := by simp [mkN, hm, hmem, hlen]
        have e2 : mkE L ⟨k, n, x, y⟩ = 0 := by simp [mkE, hm, hmem, hlen]
        have e3 : mkL L ⟨k, n, x, y⟩ = L ++ [⟨k, n, x, y⟩] := by simp [mkL, hm, hmem, hlen]
        have hgood := h.good.made ⟨k, n, x, y⟩
        rw [e3] at hgood
        rw [e1, e2, e3]
        have hfit : ∀ u ∈ L ++ [(⟨k, n, x, y⟩ : Tm)], u.ok := fun u hu => by
          rcases List.mem_append.1 hu with c | c
          · exact h.fit u c
          · simp at c; subst c; exact ht
        have HG := hide (And.intro hgood (And.intro hfit (And.intro ht hmem)))
        obtain ⟨i0, hi, hz0, hz1, hz2⟩ := info_parts Tryz.infoTerm
        have hlen' : (L.length : Int) < 1048576 := by omega
        obtain ⟨N, hN⟩ : ∃ N, N = L.length := ⟨_, rfl⟩
        rw [← hN] at hlen' ⊢
        have hN0 : N < 1048576 := by omega
        have HLn := hide (And.intro hN0 hN)
        have hd1 : decide ((1048576 : Int) ≤ (N : Int)) = false := decide_eq_false (by omega)
        clear e1 e2 e3 hm hgood hfit hlen hlen' hN0
        go_enter Tryz.func22, Tryz.ntmps22
        go_wp2_with fail
        refine K1.mono ?_
        rintro e w1 ⟨rfl, rfl⟩
        go_wp2_with fail
        refine K2'.mono ?_
        rintro e w1 ⟨rfl, hb1, h1, hs1, t0, t1, t2, t3⟩
        obtain ⟨sa, cap, rfl⟩ := h1.form
        have HL : ∀ q, (Instr.lookup 129 (.map (some mb)) (.agg #[.int .u8 k, .int .i64 n, .int .i64 x, .int .i64 y]) true).run Tryz.prog (w1.drewN q) = .ok (.tuple #[.int .i64 (num L ⟨k, n, x, y⟩ : Nat), .bool false]) (w1.drewN q) := fun q => by
          have := TMap.look (w := w1.drewN q) h1.map ht
          rw [decide_eq_false hmem] at this
          exact this
        simp only [Nat.zero_add] at t1 t2 t3
        rw [← hN] at h h1
        obtain ⟨c0, c1, _⟩ := h1.cells
        clear hN ht hmem
        go_wp2_with fail
        go_quiet (fail)
        go_wp2_with fail
        generalize hW : w1.drewN _ = W
        obtain ⟨h2, u0, u1, u2, u3, hb2, hs2⟩ : St W b (.slice sa N cap) mb L ∧ W.cell? ⟨w.heap.size, 0, none⟩ = some (.int .u8 k) ∧ W.cell? ⟨w.heap.size, 1, none⟩ = some (.int .i64 n) ∧ W.cell? ⟨w.heap.size, 2, none⟩ = some (.int .i64 x) ∧ W.cell? ⟨w.heap.size, 3, none⟩ = some (.int .i64 y) ∧ Below w.heap.size w W ∧ w.heap.size < W.heap.size := by
          rw [← hW]; exact ⟨h1.bw (below_drewN (Below.refl _ _) _), t0, t1, t2, t3, below_drewN hb1 _, hs1⟩
        clear hW HL h1 t0 t1 t2 t3 hb1 hs1 c0 c1 K1 K2'
        obtain ⟨c0, c1, f0⟩ := h2.cells
        have hbw := lt_of_blk h2.blk
        have c0a : (W.alloc (.cells #[.int .u8 k, .int .i64 n, .int .i64 x, .int .i64 y] 64)).cell? ⟨b, 0, none⟩ = some (.slice sa N cap) := by
          rw [World.cell?_of_block (w := W) (Below.heap_alloc _ _ _ hbw)]; exact c0
        have hrow : W.ownsRow 0 64 4 (.slice sa N cap) N (L.flatMap tmC) := by have := h2.row; unfold TmRow at this; rw [← (unhide HLn).2] at this; exact this
        have HM := hide h2
        have HR := hide hrow
        have hF : Fr [] W (W.drew.alloc (.cells #[.int .u8 k, .int .i64 n, .int .i64 x, .int .i64 y] 64)) := ((Fr.refl [] W).drew).alloc _
        have HF := hide hF
        have hmx : N + 1 ≤ maxLen := by have := (unhide HLn).1; unfold maxLen; omega
        have hby : (N + 1) * 32 ≤ 140737488355328 := by have := (unhide HLn).1; omega
        have HB := hide (And.intro hmx hby)
        clear hF hmx hby h2 hrow
        go_region_law (refine step_append_own rfl (.tmp 35) (.tmp 37) 22 rfl 0 64 i0 (.agg #[.int .u8 0, .int .i64 0, .int .i64 0, .int .i64 0]) 4 32 Tryz.underlying22 hi hz0 hz1 hz2 rfl (by decide) (.slice sa N cap) N (L.flatMap tmC) (by simp [Act.eval]) ((unhide HR).drew.alloc _) ⟨W.heap.size, 0, none⟩ 1 1 [.int .u8 k, .int .i64 n, .int .i64 x, .int .i64 y] (by simp [Act.eval]) rfl (cells_new4 W.drew _ _ _ _ _) (tmC_one ⟨k, n, x, y⟩) (unhide HB).1 (unhide HB).2 (Nat.zero_le _) ?_; intro v' w2 hown' hgrow hat; obtain ⟨k1, k2, k3, k4, k5, k6, k7, ⟨g', cap', rfl⟩, k9⟩ := (unhide HM).appendedN (t := ⟨k, n, x, y⟩) (unhide HLn).2 (unhide HF) hown' hgrow hat)
        all_goals
          go_wp2_with fail
        all_goals
          obtain ⟨x1, x2, x3, x4⟩ := (unhide HG)
          obtain ⟨m1, m2⟩ := St.ready (unhide HM) (unhide HLn).1 (unhide HLn).2 hs2 h.lt u0 u1 u2 u3 k3 k5 k6 x3 x4
          obtain ⟨y0, y1, y2, y3, y4, y5⟩ := m1
          obtain ⟨w4, z1, z2, z3, z4⟩ := m2
          have HZ := hide (St.stored h hb2 (k3) k4 k6 k7 k9 z3 z4 x1 x2)
          generalize hW3 : w2.setCell _ _ = W3 at *
          clear hgrow hown' hat k1 k2 k3 k4 k5 k6 k7 k9 x1 x2 x3 x4 HM HR HF HB hb2 hs2 u0 u1 u2 u3 c0 c1 f0 c0a z3 z4 hW3 HG
          have z5 : (Instr.mapUpdate 129 (.map (some mb)) (.agg #[.int .u8 k, .int .i64 n, .int .i64 x, .int .i64 y]) (.int .i64 ((N + 1 : Nat) : Int))).run Tryz.prog W3.drew = .ok () w4 := by
            have e : ((N + 1 : Nat) : Int) = (N : Int) + 1 := by omega
            rw [e]; exact z1
          go_region_with fail
        all_goals
          go_wp2_with fail
          go_ret2
          refine ⟨ret_pair (by omega) rfl, .slice (some ⟨g', 0, none⟩) (N + 1) cap', ?_⟩
          rw [← (unhide HLn).2]
          exact unhide HZ
      · have e1 : mkN L ⟨k, n, x, y⟩ = 0 := by simp [mkN, hm, hmem, hlen]
        have e2 : mkE L ⟨k, n, x, y⟩ = 3 := by simp [mkE, hm, hmem, hlen]
        have e3 : mkL L ⟨k, n, x, y⟩ = L := by simp [mkL, hlen]
        rw [e1, e2, e3]
        clear e1 e2 e3 hm
        have hge : (1048576 : Int) ≤ (L.length : Int) := by omega
        go_enter Tryz.func22, Tryz.ntmps22
        go_wp2_with fail
        refine K1.mono ?_
        rintro e w1 ⟨rfl, rfl⟩
        go_wp2_with fail
        refine K2'.mono ?_
        rintro e w1 ⟨rfl, hb1, h1, hs1, t0, t1, t2, t3⟩
        obtain ⟨c0, c1, _⟩ := h1.cells
        obtain ⟨sa, cap, rfl⟩ := h1.form
        have HL : ∀ q, (Instr.lookup 129 (.map (some mb)) (.agg #[.int .u8 k, .int .i64 n, .int .i64 x, .int .i64 y]) true).run Tryz.prog (w1.drewN q) = .ok (.tuple #[.int .i64 (num L ⟨k, n, x, y⟩ : Nat), .bool false]) (w1.drewN q) := fun q => by
          have := TMap.look (w := w1.drewN q) h1.map ht
          rw [decide_eq_false hmem] at this
          exact this
        simp only [Nat.zero_add] at t1 t2 t3
        go_wp2_with fail
        go_quiet (fail)
        go_wp2_with fail
        go_ret2
        exact ⟨rfl, _, SStep.same h (below_drewN hb1 _)⟩
end Go.Proofs.YtpcpcgagiapinaaGreatDoor.Tn
