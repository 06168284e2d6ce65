/- WireReads: for every text and every list of kinds, the law answers true: whatever is asked for of any bytes, in whatever order, each answer is just what the chapter says; what goes wrong takes nothing. No condition. -/
import Derived.Test.YtjoiecphjapbaaaRows
import Derived.Test.YtjoiecphjapbaaaReads
namespace Go.Proofs.Ytjoiecphjapbaaa
open Go.ChangeShapes Go.WideShapes Go.ChangeAt Go.RowKit
open Go.ChangeMaps (open_string shut_string)

/-- The slice at the address a holds the numbers zs. -/
structure KindsAt (w : World) (a : Option Addr) (zs : List Int) : Prop where
  len : zs.length ≤ 140737488355328
  cells : zs = [] ∨ ∃ b off, a = some ⟨b, off, none⟩ ∧ b < w.heap.size ∧ ∀ i z, zs[i]? = some z → w.cell? ⟨b, off + i, none⟩ = some (.int .i64 z)

set_option maxRecDepth 100000 in
set_option maxHeartbeats 2000000 in
theorem WireReads_walk (s : ByteArray) (a1 : Option Addr) (c1 : Nat) (zs : List Int) (w : World) (hs : s.size ≤ 140737488355328) (h1 : KindsAt w a1 zs) :
    Calls Try.prog 4 #[.string s, .slice a1 zs.length c1] w fun e w' => e = .returned (.bool true) ∧ Below w.heap.size w w' := by
  have hl1 := h1.len
  obtain ⟨n, hn⟩ : ∃ n, n = zs.length := ⟨_, rfl⟩
  rw [← hn] at hl1 ⊢
  have HN := hide hn
  clear hn
  have q0 : (w.alloc (.cells #[.int .i64 n] 3)).cell? ⟨w.heap.size, 0, none⟩ = some (.int .i64 n) := by simp [go_sem]
  have KB := beyond_one w.heap.size n 1 _ (by omega) q0
  have hbel : Below w.heap.size w (w.alloc (.cells #[.int .i64 n] 3)) := (Below.refl _ _).alloc (Nat.le_refl _) _
  go_enter Try.func4, Try.ntmps4
  go_wp2_with fail
  refine KB.mono ?_
  rintro e w1 ⟨rfl, rfl⟩
  clear KB q0
  by_cases hb : 262144 < n
  · have hb' : decide (262144 < n) = true := decide_eq_true hb
    go_wp2
    go_ret
    exact ⟨rfl, hbel⟩
  · have hb' : decide (262144 < n) = false := decide_eq_false hb
    have R0 : RD ((w.alloc (.cells #[.int .i64 n] 3)).alloc (.cells #[.bool true, .string s, .int .i64 0] 56)) (w.heap.size + 1) s 0 := by
      have := RD.fresh (w.alloc (.cells #[.int .i64 n] 3)) s
      have e1 : (w.alloc (.cells #[.int .i64 n] 3)).heap.size = w.heap.size + 1 := by simp
      rw [e1] at this; exact this
    have hbel2 : Below w.heap.size w ((w.alloc (.cells #[.int .i64 n] 3)).alloc (.cells #[.bool true, .string s, .int .i64 0] 56)) := hbel.alloc (by simp) _
    go_wp2_with (go_at_call 16; refine (newReader_any _ _).mono ?_; rintro e w9 ⟨rfl, rfl⟩)
    go_loopw [6, 7] (fun av iv wr => ∃ (i k : Nat), i ≤ n ∧ iv = .int .i64 i ∧ av = .int .i64 k ∧ k ≤ s.size ∧ RD wr (w.heap.size + 1) s k ∧ Below w.heap.size w wr) (fun _ iv _ => n - (intOf iv).toNat)
    case atStart => exact ⟨0, 0, Nat.zero_le _, rfl, rfl, Nat.zero_le _, R0, hbel2⟩
    case round =>
      clear R0 hbel2 hbel
      obtain ⟨i, k, hi, rfl, rfl, hk, hR, hbel⟩ := hrel
      by_cases hlt : i < n
      · obtain ⟨z, hz⟩ : ∃ z, zs[i]? = some z := ⟨_, List.getElem?_eq_getElem (by rw [← unhide HN]; exact hlt)⟩
        rcases h1.cells with h0 | ⟨b, off, rfl, hB, hc⟩
        · exfalso; rw [h0] at hz; simp at hz
        · have d0 := (hbel.cell (p := ⟨b, off + i, none⟩) hB).trans (hc i z hz)
          clear hz hc
          have hnx := next_le s.data.toList z k (by simpa using hk)
          have K1 := reads_any _ k s z wr hR hs hk
          obtain ⟨j, hj⟩ : ∃ j, j = nextP k (kindO s.data.toList z k) := ⟨_, rfl⟩
          rw [← hj] at K1 hnx
          clear hj
          have hjs : j ≤ s.size := by simpa using hnx
          clear hnx
          go_wp2_with fail
          refine K1.mono ?_
          rintro e w2 ⟨rfl, hR2, hf2⟩
          have hbel3 : Below w.heap.size w w2 := hbel.trans ⟨hf2.os, hf2.tape, hf2.output, hf2.size, fun x hx => hf2.block x (by have := hbel.size; omega) (by simp; omega)⟩
          clear K1 d0 hbel
          go_wp2_with fail
          refine (at_any _ _ _ _ hR2).mono ?_
          rintro e w3 ⟨rfl, rfl⟩
          by_cases hjl : j < s.size
          · have hne : ((j : Int) == (s.size : Int)) = false := by simp; omega
            go_wp2_with fail
            refine (end_more _ _ _ _ hR2 hjl).mono ?_
            rintro e w4 ⟨rfl, n4, rfl⟩
            go_wp2_with fail
            exact ⟨⟨i + 1, j, by omega, by go_num, rfl, hjs, hR2.new ((Fr.refl _ _).drewN _), below_drewN hbel3 _⟩, by simp [intOf]; omega⟩
          · have hne : ((j : Int) == (s.size : Int)) = true := by simp; omega
            go_wp2_with fail
            refine (end_done _ _ _ _ hR2 (by omega)).mono ?_
            rintro e w4 ⟨rfl, n4, rfl⟩
            go_wp2_with fail
            exact ⟨⟨i + 1, j, by omega, by go_num, rfl, hjs, hR2.new ((Fr.refl _ _).drewN _), below_drewN hbel3 _⟩, by simp [intOf]; omega⟩
      · go_wp2_with fail
        refine (at_any _ _ _ _ hR).mono ?_
        rintro e w3 ⟨rfl, rfl⟩
        go_wp2_with fail
        refine (alive_any _).mono ?_
        rintro e w4 ⟨rfl, hb4⟩
        go_wp2
        go_ret
        exact ⟨rfl, hbel.trans (hb4.mono hbel.size)⟩

theorem bytesInt : Try.prog.bytesOf 3 = 8 := by kernel_rfl
theorem open_kinds {H : Type} {enc : TypeId × Value → H} {W : World} {spare : Nat → Bool} {held : Bool} {a : Option Addr} {len cap : Nat} {d : DataW H} {p : List MemPlace}
    (h : DataW.Trod enc Try.prog W 0 spare held 37 (.slice a len cap) d p) (hsz : ∀ n ∈ d.weights Try.prog 37, n ≤ reachBytes) : ∃ zs, zs.length = len ∧ KindsAt W a zs := by
  obtain ⟨fuel, hf⟩ := h
  rcases Go.Deep.open_slice Try.underlying37 hf with ⟨hcs, _⟩ | ⟨x, l, c, m, n, D, Pl, hcs, _, hl, hm, hmm, hx, hel⟩
  · simp [Value.cells] at hcs
    obtain ⟨rfl, rfl, rfl⟩ := hcs
    exact ⟨[], rfl, by simp, Or.inl rfl⟩
  · simp [Value.cells] at hcs
    obtain ⟨rfl, rfl, rfl⟩ := hcs
    simp only [Prod.mk.injEq] at hx
    obtain ⟨hd, _⟩ := hx
    have hlm : len ≤ m := by rw [hmm]; split <;> omega
    have ci : Try.prog.cellsOf 3 = 1 := by kernel_rfl
    have each : ∀ i, i < len → ∃ z : Int, W.cell? (x.add i) = some (.int .i64 z) := by
      intro i hi
      obtain ⟨cs, h1, h2⟩ := hel i (by omega)
      rw [ci, Nat.mul_one] at h1
      obtain ⟨_, hlen, hcell⟩ := World.cells?_some h1
      obtain ⟨q, e0, _, _⟩ := DataW.trod_int Try.underlying3 h2
      subst e0
      have c0 := hcell 0 (by omega)
      rw [Go.Deep.add_add] at c0
      exact ⟨q, by simpa using c0⟩
    have hlen : len ≤ 140737488355328 := by
      have := hsz ((len + (m - len)) * 8) (by
        rw [hd]; simp [DataW.weights, Try.underlying37, bytesInt])
      have hr := reachBytes_lt
      simp at hr; omega
    obtain ⟨f, hfx⟩ := @Go.Deep.choose_lt Int ⟨0⟩ len _ each
    refine ⟨(List.range len).map f, by simp, by simpa using hlen, ?_⟩
    rcases Nat.eq_zero_or_pos len with h0 | h0
    · subst h0; exact Or.inl rfl
    · obtain ⟨b, off, spot⟩ := x
      have k0 := hfx 0 h0
      have hspot : spot = none := by simpa [Addr.add] using World.cell?_spot k0
      subst hspot
      refine Or.inr ⟨b, off, rfl, World.block_lt_of_cell? W _ (by simpa [Addr.add] using k0), fun i y hy => ?_⟩
      have hi : i < len := by
        rcases Nat.lt_or_ge i len with q | q
        · exact q
        · simp [q] at hy
      simp [hi] at hy
      subst hy
      have k1 := hfx i hi
      have ea : ∀ j, (⟨b, off, none⟩ : Addr).add j = ⟨b, off + j, none⟩ := fun j => by
        unfold Addr.add; by_cases hj : j = 0 <;> simp [hj]
      rw [ea] at k1
      exact k1

set_option maxRecDepth 100000 in
theorem WireReads_lifted (os : Os) (started : os.Started) (H : Type) (enc : TypeId × Value → H) :
    ReturnsInHanded {} Try.checked os 4 .any (Rows.wireReadsSpec.pre6 enc Try.prog Try.f4 Rows.wireReadsRow.domain false) (Rows.wireReadsSpec.post enc Try.prog Try.f4 false true false false) := by
  refine returnsInHanded_of_change_sized (C := Try.checked) own started (by kernel_rfl) Try.func4
    (ChangeSpec.witness6 (enc := enc) (C := Try.checked) false ⟨#[], #[.string ByteArray.empty, .slice none 0 0], []⟩ 8 (by kernel_rfl) (by kernel_rfl) (by kernel_rfl) (by kernel_rfl)) ?_
  intro W base args ds gs before hval0 hW hcnd hsz0 _
  have hval : ∀ (j : Nat) t v, Try.f4.params[j]? = some t → args[j]? = some v → Value.okWide Try.prog W .any base t v := hval0
  have hsz : (DataW.weightsEach Try.prog (Try.f4.params.toList ++ Rows.wireReadsSpec.plain.varTypes Try.prog) (ds ++ gs)).all (· ≤ reachBytes) = true := hsz0
  have hW' := hW
  obtain ⟨p, q, hA0, hV, rfl, hfz, hnd⟩ := hW
  have hA : DataW.TrodAll enc Try.prog W 0 (fun _ => true) true Try.f4.params.toList args.toList ds p := hA0
  rw [Try.params4] at hA hval hsz
  obtain ⟨v0, vs0, d0, ds0, p0, q0, hargs, rfl, rfl, h0, r0⟩ := trodAll_cons hA
  obtain ⟨v1, vs1, d1, ds1, p1, q1, rfl, rfl, rfl, h1, r1⟩ := trodAll_cons r0
  obtain ⟨rfl, rfl, rfl⟩ := trodAll_nil r1
  obtain rfl : args = #[v0, v1] := by cases args; simp_all
  obtain ⟨rfl, rfl⟩ := trodVars_none hV
  have k1 := h1
  have lt1 : ∀ x ∈ p1, x.block < W.heap.size := by obtain ⟨m, hm⟩ := k1; exact DataW.trod_lt m _ _ _ hm
  obtain ⟨s, rfl, rfl, rfl, w0⟩ := open_string Try.underlying9 (hval 0 9 v0 rfl rfl) h0
  have hs : s.size ≤ 140737488355328 := by
    have := sized_string hsz (j := 0) (t := 9) rfl rfl
    have hr := reachBytes_lt
    simp at this hr; omega
  obtain ⟨a1, len1, cap1, rfl⟩ := okWide_slice Try.underlying37 (hval 1 37 v1 rfl rfl)
  obtain ⟨zs, rfl, i1⟩ := open_kinds h1 (fun n hn => by simpa using List.all_eq_true.1 hsz n (DataW.weights_mem_each (j := 1) (t := 37) rfl rfl n hn))
  clear hA0 hval0
  refine (WireReads_walk s a1 cap1 zs W hs i1).mono fun e W' ⟨he, bel⟩ => ?_
  subst he
  exact ⟨_, rfl, _, _, _, [], _, [], hW', trodAll_mk1 (shut_bool Try.underlying4 _), (trodAll_cons_mk (shut_string Try.underlying9 w0) (trodAll_cons_mk (Below.trod laidOut (by kernel_rfl) (of_decide_eq_true (by kernel_rfl)) k1 bel lt1) trodAll_mk0)), rfl, bel.frame _, fun h => by cases h⟩

theorem WireReads_over : Rows.wireReadsRow.holds Try.pinned (OpenSpec.ofChange Rows.wireReadsSpec) :=
  OpenClaim.holds_of_wide 4 Try.f4 rfl rfl rfl rfl rfl rfl rfl ⟨rfl, rfl, rfl, rfl, rfl⟩ rfl rfl rfl rfl rfl (by kernel_rfl) Try.func4 (by kernel_rfl)
    (of_decide_eq_true (by kernel_rfl)) (by unfold Func.isWrapper; first | (rw [if_pos (by decide +kernel)]; kernel_rfl) | (rw [if_neg (by decide +kernel)]; exact ⟨rfl, rfl⟩))
    (fun os started H enc _ => WireReads_lifted os started H enc)

theorem WireReads_holds : Rows.WireReadsSaid := WireReads_over
#print axioms WireReads_holds

end Go.Proofs.Ytjoiecphjapbaaa
