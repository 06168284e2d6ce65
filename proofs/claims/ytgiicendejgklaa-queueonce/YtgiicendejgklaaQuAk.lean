/- What was acknowledged is dropped (acknowledge). -/
import Derived.Test.YtgiicendejgklaaQuDl
import Derived.Test.YtgiicendejgklaaZ27
import Derived.Test.YtgiicendejgklaaZ26
namespace Go.Proofs.Ytgiicendejgklaa
open Go.RowKit Go.Maps
theorem cellK_drop {α ξ : Type} {K : EK α ξ} {l : List α} {xs : List ξ} (hl : xs.length = l.length) {m : Nat} (hm : m ≤ l.length) : (cellK K l xs).drop (m * K.c) = cellK K (l.drop m) (xs.drop m) := by
  have e1 : cellK K l xs = cellK K (l.take m) (xs.take m) ++ cellK K (l.drop m) (xs.drop m) := by
    have h := List.zipWith_append (f := K.C) (l₁ := l.take m) (l₂ := xs.take m) (l₁' := l.drop m) (l₂' := xs.drop m) (by simp [hl])
    rw [List.take_append_drop, List.take_append_drop] at h
    unfold cellK rowsK
    rw [h]
    simp
  have e2 : (cellK K (l.take m) (xs.take m)).length = m * K.c := by
    rw [cellK_len (by simp [hl])]
    simp [Nat.min_eq_left hm]
  rw [e1, ← e2, List.drop_left]
set_option maxRecDepth 100000 in
set_option maxHeartbeats 4000000 in
theorem ack_any {w : World} {B lb lo : Nat} {l : Lk} {x : Lx} {LC : Array Value} {sq : Int} {m : Nat} (hlb : w.heap[lb]? = some (.cells LC 73 (0, 0))) (hLC : ∀ j u, (lkC l x.qv x.ev)[j]? = some u → LC[lo + j]? = some u) (ho : OL B w l x) (hsm : SmL l) (hq : l.q.length ≤ 1024) (hx : (l.q.length : Int) ≤ l.nx) (hx1 : l.nx ≤ 1099511627776) (hs0 : 0 ≤ sq) (hs1 : sq ≤ l.nx)
    (hn1 : ∀ k ∈ lxZ x, k ≠ lb) (hm : m = (sq - (l.nx - l.q.length)).toNat) :
    Calls Try.prog 28 #[.pointer (some ⟨lb, lo, none⟩), .int .i64 sq] w fun r w' => r = .returned (.tuple #[]) ∧ ∃ qv, Hid (w'.heap[lb]? = some (.cells (LC.setIfInBounds (lo + 2) qv) 73 (0, 0)) ∧ RdA kFd B w' qv (l.q.drop m) (x.qx.drop m) ∧ Fr (lb :: x.qv.ownBlock.toList) w w') := by
  have h : LkR w l x := OL.rd ho hsm
  have hlk : w.rangeAt lb lo (lkC l x.qv x.ev) := fun j u hj => blk_c hlb (hLC j u hj)
  have hmn : m ≤ l.q.length := by omega
  have hqo := ho.q
  have hxl : x.qx.length = l.q.length := hqo.xl
  have KF := hide (first_any (w := w) (l := l) (x := x) h (by omega) hx1 hq)
  have h1 : ∀ u ∈ cellK kFd l.q x.qx, u.oneCell' = true := cellK_one (K := kFd) (w := w) hxl (fun i a z ha hz => ⟨OF.rd (hqo.el i a z ha hz) (hsm.qs a (List.mem_of_getElem? ha)), hsm.qs a (List.mem_of_getElem? ha)⟩)
  have KD : Hid (∀ V, Below w.heap.size w V → Calls Try.prog 41 #[x.qv, .int .i64 0, .int .i64 (m : Int)] V fun e V' => ∃ qv, e = .returned qv ∧ Hid ((V'.ownsRow B 43 53 qv (l.q.drop m).length (cellK kFd (l.q.drop m) (x.qx.drop m)) ∧ qv.ownBlock = x.qv.ownBlock ∧ (∃ a n c, qv = .slice a n c)) ∧ Fr x.qv.ownBlock.toList V V')) := fun V hV => by
    have hro : V.ownsRow B 43 53 x.qv l.q.length (cellK kFd l.q x.qx) := (OwL.bw hqo hV).row
    have hd : (cellK kFd l.q x.qx).drop (m * 53) = cellK kFd (l.q.drop m) (x.qx.drop m) := cellK_drop (K := kFd) hxl hmn
    rcases Nat.eq_zero_or_pos m with h0 | h0
    · have e0 : l.q.drop m = l.q ∧ x.qx.drop m = x.qx := by rw [h0]; exact ⟨rfl, rfl⟩
      rw [e0.1, e0.2]
      have hsl : ∃ a c, x.qv = .slice a l.q.length c ∧ l.q.length ≤ c ∧ c ≤ maxLen := by
        rcases hro.2 with ⟨q1, q2⟩ | ⟨g, c, cur, q1, _, _, q2, q3, _⟩
        · exact ⟨none, 0, by rw [q1, q2], by omega, by unfold maxLen; omega⟩
        · exact ⟨_, c, q1, q2, q3⟩
      obtain ⟨a, c, e1, e2, e3⟩ := hsl
      have hk := del0_any (w := V) (a := a) (n := l.q.length) (c := c) (by omega) e2 e3
      rw [← e1] at hk
      have hm0 : ((m : Nat) : Int) = 0 := by omega
      rw [hm0]
      refine Calls.mono hk ?_
      rintro e V' ⟨rfl, rfl⟩
      exact ⟨_, rfl, ⟨hro, rfl, a, _, c, e1⟩, Fr.refl _ _⟩
    · obtain ⟨b, c, e1, _, _, _⟩ := own_open hro (by omega)
      have hro2 := hro
      rw [e1] at hro2
      have hk := del_any hro2 h1 (by omega) hmn h0
      rw [e1]
      refine Calls.mono hk ?_
      rintro e V' ⟨rfl, p1, p2⟩
      rw [hd] at p1
      refine ⟨_, rfl, ⟨?_, rfl, _, _, _, rfl⟩, p2⟩
      rw [List.length_drop]
      exact p1
  have HFIN : Hid (∀ V V' qv, Below w.heap.size w V → V'.ownsRow B 43 53 qv (l.q.drop m).length (cellK kFd (l.q.drop m) (x.qx.drop m)) → qv.ownBlock = x.qv.ownBlock → Fr x.qv.ownBlock.toList V V' → V'.frozen? ⟨lb, lo + 2, none⟩ = false ∧ V'.cell? ⟨lb, lo + 2, none⟩ = some x.qv ∧ Hid ((V'.setCell ⟨lb, lo + 2, none⟩ qv).heap[lb]? = some (.cells (LC.setIfInBounds (lo + 2) qv) 73 (0, 0)) ∧ RdA kFd B (V'.setCell ⟨lb, lo + 2, none⟩ qv) qv (l.q.drop m) (x.qx.drop m) ∧ Fr (lb :: x.qv.ownBlock.toList) w (V'.setCell ⟨lb, lo + 2, none⟩ qv))) := fun V V' qv hV hr hob hf => by
    have ll : lb < w.heap.size := lt_of_blk hlb
    have hnl : x.qv.ownBlock ≠ some lb := fun q => hn1 lb (List.mem_append_left _ (zK_row (K := kFd) q)) rfl
    have kp : ∀ k, k < w.heap.size → x.qv.ownBlock ≠ some k → V'.heap[k]? = w.heap[k]? := fun k hk hne => by
      rw [hf.block k (Nat.lt_of_lt_of_le hk hV.size) (fun q => hne (by simpa using q)), hV.block k hk]
    have l1 : V'.heap[lb]? = some (.cells LC 73 (0, 0)) := by rw [kp lb ll hnl]; exact hlb
    have e2 : LC[lo + 2]? = some x.qv := hLC 2 _ rfl
    have F0 : Fr (lb :: x.qv.ownBlock.toList) w V' := (Fr.refl _ w).trans (⟨hf.os.trans hV.os, hf.tape.trans hV.tape, hf.output.trans hV.output, Nat.le_trans hV.size hf.size, fun k hk hn => kp k hk (fun q => hn (by simp [q]))⟩ : Fr (lb :: x.qv.ownBlock.toList) w V') (fun _ _ q => q) (fun _ _ q => q)
    have F1 := F0.setCell (a := ⟨lb, lo + 2, none⟩) (Or.inr (by simp)) qv
    refine ⟨froz_b' l1, blk_c l1 e2, poke_b l1 _, ?_, F1⟩
    · refine rda_own (K := kFd) (by simp [hxl]) ?_ (fun V2 hV2 i a z ha hz => ?_)
      · exact own_blocks hr (fun k hk => other_c (fun c => hnl (by rw [← hob, hk, c])))
      · rw [List.getElem?_drop] at ha hz
        have o1 : OF B w a z := hqo.el _ a z ha hz
        have sm := hsm.qs a (List.mem_of_getElem? ha)
        refine ⟨OF.rd (OF.keep o1 (fun k hk => ?_)) sm, sm⟩
        have hkz : k ∈ zK kFd x.qv x.qx := zK_el (K := kFd) hz hk
        rw [hV2.block k (OF.lt o1 k hk).1 (Nat.lt_of_lt_of_le (OF.lt o1 k hk).2 F1.size), other_c (hn1 k (List.mem_append_left _ hkz)), kp k (OF.lt o1 k hk).2 (fun q => hqo.self k _ z q hz hk)]
  obtain ⟨CL, hCL⟩ : ∃ z, z = lkC l x.qv x.ev := ⟨_, rfl⟩
  rw [← hCL] at KF hlk
  have HI : Hid ((Try.prog.info? 73).map (·.size) = some CL.length) := by rw [hCL]; exact infoLkS
  have RNG := hide hlk
  have HQV : Hid (∀ V, Below w.heap.size w V → V.cell? ⟨lb, lo + 2, none⟩ = some x.qv) := fun V hV => by
    have k := (rng_bw hlk hV) 2 _ (by rw [hCL]; rfl)
    exact k
  obtain ⟨fi, hfi⟩ : ∃ z, z = l.nx - (l.q.length : Int) := ⟨_, rfl⟩
  rw [← hfi] at KF hm
  have f0 : 0 ≤ fi := by omega
  have f1 : fi ≤ 1099511627776 := by omega
  have s1 : sq ≤ 1099511627776 := by omega
  have HM := hide hm
  obtain ⟨aq, cq, hqv⟩ := own_slice hqo.row
  clear h ho hsm hq hx hx1 hs1 hn1 hmn hqo hxl hlb hLC hlk hCL hfi h1
  go_enter Try.func28, Try.ntmps28
  go_wp2_with (refine wpList_load_mid rfl 73 (.tmp 7) rfl lb lo (by simp [Act.eval]) CL _ (unhide RNG) Try.underlying73 rfl (unhide HI) ?_)
  refine (unhide KF).mono ?_
  rintro e_ zz ⟨rfl, bz⟩
  have c2 := unhide HQV zz bz
  have HBZ := hide bz
  clear KF RNG HI HQV bz
  have hmI : max 0 (sq - fi) = (m : Int) := by have := unhide HM; omega
  have KDz := hide (unhide KD zz (unhide HBZ))
  rw [hqv] at KDz c2
  clear hm KD
  go_wp2_with fail
  refine (unhide KDz).mono ?_
  rintro e_ w3 ⟨qv, rfl, HQ⟩
  obtain ⟨⟨p1, p2, a3, n3, c3, rfl⟩, p3⟩ := unhide HQ
  obtain ⟨z1, z2, z3⟩ := unhide HFIN zz w3 _ (unhide HBZ) p1 (by rw [p2, ← hqv]) (by rw [hqv]; exact p3)
  rw [hqv] at z2
  clear HQ KDz HFIN p1 p2 p3 c2
  go_wp2_with fail
  go_end0
  exact ⟨rfl, _, z3⟩
end Go.Proofs.Ytgiicendejgklaa
