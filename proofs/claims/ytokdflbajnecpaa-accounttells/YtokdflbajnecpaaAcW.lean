/- markAdd, isAdd, SameAdds, TwinAdds, LeftAdds. -/
import Derived.Test.YtokdflbajnecpaaAcV
namespace Go.Proofs.Ytokdflbajnecpaa.Tn.Ax
open Go.RowKit Go.Maps

def adV (a : Ad) : Value := .agg #[.int .i64 a.m, .int .i64 a.e, .int .i64 a.p]
theorem Try.cellsAdd : Try.prog.cellsOf 65 = 3 := by kernel_rfl
theorem Try.wideAdd : (match Try.prog.underlying 65 with | some (.array _ _) | some (.struct _) => true | _ => false) = true := by kernel_rfl
theorem keyOf_ad {t : Ad} (h : t.ok) : ∃ kl, keyOf Try.prog 65 (adV t) = some kl := by
  have hk : Try.prog.keyType 65 = true := by kernel_rfl
  have hf : (adV t).formed Try.prog 65 = true := by
    have u0 := Try.underlying65
    have c0 := Try.cellsAdd
    generalize Try.prog = P at *
    simp [Value.formed, u0, c0, adV]
  obtain ⟨m, hm⟩ : ∃ m, Try.prog.types.size = m + 1 := ⟨Try.prog.types.size - 1, by have : 0 < Try.prog.types.size := of_decide_eq_true (by kernel_rfl); omega⟩
  have c3 : Try.prog.cellsOf 3 = 1 := by kernel_rfl
  refine ⟨.string (keyBytes [.int .i64 t.m, .int .i64 t.e, .int .i64 t.p]), ?_⟩
  have w1 := wf_i64 h.1.1 h.1.2
  have w2 := wf_i64 h.2.1.1 h.2.1.2
  have w3 := wf_i64 h.2.2.1 h.2.2.2
  have u0 := Try.underlying65
  have u3 := Try.underlying3
  have c0 := Try.cellsAdd
  generalize Try.prog = P at *
  simp only [keyOf, u0, hk, hf, hm, Bool.and_self, if_true]
  simp [Program.keyLits, u0, u3, c0, c3, adV, Value.cells, w1, w2, w3]
set_option maxRecDepth 100000 in
theorem equal_ad (w : World) {t : Ad} (ht : t.ok) : (Op.equal 65 (adV t) (adV t)).run Try.prog w = .ok true w := by
  obtain ⟨x, hx⟩ := keyOf_ad ht
  obtain ⟨r, hr, hiff⟩ := run_equal_deep w (m := 3) (by omega) (by kernel_rfl) Try.wideAdd hx hx
  rw [hr, hiff.2 rfl]
theorem mkA_ok {n : Nat} (h : n ≤ 270000) : (mkA n).ok := by
  refine ⟨?_, ?_, ?_⟩ <;> simp [mkA, i64r, mk] <;> omega
set_option maxRecDepth 100000 in
theorem markA_any (n : Nat) (w : World) (h : n ≤ 270000) :
    Calls Try.prog 29 #[.int .i64 (n : Int)] w fun e w' => e = .returned (.agg #[.int .i64 (mk n), .int .i64 0, .int .i64 0]) ∧ Below w.heap.size w w' := by
  have hb : (n : Int) ≤ 270000 := by omega
  clear h
  unfold mk
  go_enter Try.func29, Try.ntmps29
  go_wp2
  exact bodyPost_ret (v := .agg #[.int .i64 (-1000 - (n : Int)), .int .i64 0, .int .i64 0]) (by simp [results, Try.results29, go_sem]) rfl ⟨rfl, bwA' _ _⟩
set_option maxRecDepth 100000 in
set_option maxHeartbeats 2000000 in
theorem isA_any (n : Nat) (w : World) (h : n ≤ 270000) :
    Calls Try.prog 52 #[.agg #[.int .i64 (mk n), .int .i64 0, .int .i64 0], .int .i64 (n : Int)] w fun e w' => e = .returned (.bool true) ∧ Below w.heap.size w w' := by
  have HK : Hid (∀ W, Calls Try.prog 29 #[.int .i64 (n : Int)] W fun e w' => e = .returned (.agg #[.int .i64 (mk n), .int .i64 0, .int .i64 0]) ∧ Below W.heap.size W w') := fun W => markA_any n W h
  have he := fun W => equal_ad W (mkA_ok h)
  simp only [adV, mkA] at he
  obtain ⟨w0, hw0⟩ : ∃ w0, w0 = w.alloc (.cells #[.int .i64 (mk n), .int .i64 0, .int .i64 0] 65) := ⟨_, rfl⟩
  have b0 : Below w.heap.size w w0 := by rw [hw0]; exact bwA' _ _
  have k0 : w0.heap[w.heap.size]? = some (.cells #[.int .i64 (mk n), .int .i64 0, .int .i64 0] 65 (0, 0)) := by rw [hw0]; exact heap_alloc_new _ _
  have HS : Hid (∀ W, Below w0.heap.size w0 W → (W.cell? ⟨w.heap.size, 0, none⟩ = some (.int .i64 (mk n)) ∧ W.cell? ⟨w.heap.size, 1, none⟩ = some (.int .i64 0) ∧ W.cell? ⟨w.heap.size, 2, none⟩ = some (.int .i64 0)) ∧ Below w.heap.size w W) := fun W hW => ⟨⟨blk_cell (kept_blk k0 hW) rfl, blk_cell (kept_blk k0 hW) rfl, blk_cell (kept_blk k0 hW) rfl⟩, bw_tr b0 hW⟩
  have S0 := (unhide HS w0 (Below.refl _ _)).1
  have S00 : w0.drew.cell? ⟨w.heap.size, 0, none⟩ = some (.int .i64 (mk n)) ∧ w0.drew.cell? ⟨w.heap.size, 1, none⟩ = some (.int .i64 0) ∧ w0.drew.cell? ⟨w.heap.size, 2, none⟩ = some (.int .i64 0) := S0
  have BD : Hid (Below w0.heap.size w0 w0.drew) := (Below.refl _ _).drew
  have HW := hide hw0
  clear h hw0 b0 k0
  generalize mk n = m at *
  go_enter Try.func52, Try.ntmps52
  go_upto_region 1 with fail
  rw [← unhide HW]
  clear HW
  go_region_held3 (fun w' : World => w'.cell? ⟨w.heap.size, 0, none⟩ = some (.int .i64 m) ∧ w'.cell? ⟨w.heap.size, 1, none⟩ = some (.int .i64 0) ∧ w'.cell? ⟨w.heap.size, 2, none⟩ = some (.int .i64 0)) (first | with_reducible exact S0 | with_reducible exact S00 | with_reducible exact S1) (first
    | (go_at_call 29; refine (unhide HK _).mono ?_; rintro e z1 ⟨rfl, b1⟩; obtain ⟨S1, B1⟩ := unhide HS z1 (bw_tr (unhide BD) b1))
    | fail)
  all_goals
    go_wp2_with fail
    go_ret
    exact ⟨rfl, B1⟩
set_option maxRecDepth 100000 in
set_option maxHeartbeats 4000000 in
theorem sameA_any (va vb : Value) (l : List Ad) (w : World) (ha : Ads w va l) (hb : Ads w vb l) :
    Calls Try.prog 53 #[va, vb] w fun e w' => e = .returned (.bool true) ∧ Below w.heap.size w w' := by
  obtain ⟨a, ca, rfl⟩ := ha.shape
  obtain ⟨b, cb, rfl⟩ := hb.shape
  have hlA : l.length ≤ 140737488355328 := by obtain ⟨_, _, _, h, _⟩ := ha; exact h
  have hok : ∀ x ∈ l, x.ok := by obtain ⟨_, _, _, _, h, _⟩ := ha; exact h
  obtain ⟨N, hN⟩ : ∃ N, N = l.length := ⟨_, rfl⟩
  rw [← hN] at ha hb hlA ⊢
  have hNb : (N : Int) ≤ 140737488355328 := by omega
  have HH := hide (And.intro ha (And.intro hb (And.intro hok hN)))
  clear ha hb hok hN hlA
  go_enter Try.func53, Try.ntmps53
  go_wp2_with fail
  go_loopw [13] (fun iv wr => ∃ i : Nat, iv = .int .i64 i ∧ i ≤ N ∧ Hid (Below w.heap.size w wr)) (fun iv _ => (N - (intOf iv)).toNat)
  case atStart => exact ⟨0, rfl, by omega, Below.refl _ _⟩
  case round =>
    obtain ⟨i, rfl, hi, hbel⟩ := hrel
    by_cases hin : i < N
    · obtain ⟨ha, hb, hok, hN⟩ := unhide HH
      obtain ⟨z, hz⟩ : ∃ z, l[i]? = some z := ⟨_, List.getElem?_eq_getElem (by omega)⟩
      obtain ⟨g, o, rfl, c0, c1, c2⟩ := (ha.bw (unhide hbel)).get hz
      obtain ⟨g', o', rfl, d0, d1, d2⟩ := (hb.bw (unhide hbel)).get hz
      have he : ∀ W, (Op.equal 65 (adV z) (adV z)).run Try.prog W = .ok true W := fun W => equal_ad W (hok z (List.mem_of_getElem? hz))
      obtain ⟨m, e, p⟩ := z
      simp only [adV] at c0 c1 c2 d0 d1 d2 he
      have hi1 : (i : Int) < (N : Int) := by omega
      clear ha hb hok hN hz HH
      go_wp2_with fail
      go_quiet (fail)
      go_wp2_with fail
      go_roundw
      case rel => exact ⟨i + 1, by go_num, by omega, below_drewN (unhide hbel) _⟩
      case measure => simp [intOf]; omega
    · have hie : i = N := by omega
      subst hie
      clear HH
      go_wp2_with fail
      go_ret
      exact ⟨rfl, unhide hbel⟩
end Go.Proofs.Ytokdflbajnecpaa.Tn.Ax
