/- Contracts of Sync and Write of package disk, in the plain disk's words. -/
import Derived.Test.YtfnpeiikjiffeaaGreatDkE
namespace Go.Proofs.YtfnpeiikjiffeaaGreat
open Go.RowKit Go.Maps

/-- What comes to a write or a sync: the method value, and what it does. -/
theorem come_settle {d nb sb cb : Nat} {fv cv : Value} {S : DS} {w : World} (h : Dk w d nb sb cb fv cv S) (hu : S.up = true) (hn : S.cnt < 4611686018427387904) :
    (cv = comeF d ∧ Calls Tryz.prog 39 #[ptr d, .func (.func 72) #[ptr d] #[]] w fun e w' => e = .returned (.int .i64 (S.come DS.settle).2) ∧ ∃ Z', DkS w' d (S.come DS.settle).1 Z' ∧ Mv w w' (dfoot d nb sb cb fv S) Z') ∨ (cv = cutF cb ∧ Calls Tryz.prog 46 #[ptr cb, .func (.func 72) #[ptr d] #[]] w fun e w' => e = .returned (.int .i64 (S.come DS.settle).2) ∧ ∃ Z', DkS w' d (S.come DS.settle).1 Z' ∧ Mv w w' (dfoot d nb sb cb fv S) Z') := by
  have hc := h.come.2 hu
  unfold DS.come
  cases e : S.cut with
  | none =>
    rw [e] at hc
    exact Or.inl ⟨hc, do_settle ⟨nb, sb, cb, fv, cv, rfl, h⟩ hn⟩
  | some p =>
    obtain ⟨m, bits⟩ := p
    rw [e] at hc
    cases m with
    | zero => exact Or.inr ⟨hc.1, cut_falls h hu e _⟩
    | succ m => exact Or.inr ⟨hc.1, cut_settle h hu e hn⟩
theorem come_put {d nb sb cb : Nat} {fv cv : Value} {S : DS} {w : World} (h : Dk w d nb sb cb fv cv S) (hu : S.up = true) (hn : S.cnt < 4611686018427387904) {b1 b2 k : Nat} {s : ByteArray} (hc : CloAt w d b1 b2 k s) (hk : k < S.N) (hs : s.size = 64) (hq : S.since.length < 4611686018427387904) :
    (cv = comeF d ∧ Calls Tryz.prog 39 #[ptr d, .func (.func 134) #[] #[ptr b1, ptr b2]] w fun e w' => e = .returned (.int .i64 (S.come (fun S => S.put k s)).2) ∧ ∃ Z', DkS w' d (S.come (fun S => S.put k s)).1 Z' ∧ Mv w w' (dfoot d nb sb cb fv S) Z') ∨ (cv = cutF cb ∧ Calls Tryz.prog 46 #[ptr cb, .func (.func 134) #[] #[ptr b1, ptr b2]] w fun e w' => e = .returned (.int .i64 (S.come (fun S => S.put k s)).2) ∧ ∃ Z', DkS w' d (S.come (fun S => S.put k s)).1 Z' ∧ Mv w w' (dfoot d nb sb cb fv S) Z') := by
  have hcm := h.come.2 hu
  unfold DS.come
  cases e : S.cut with
  | none =>
    rw [e] at hcm
    exact Or.inl ⟨hcm, do_put ⟨nb, sb, cb, fv, cv, rfl, h⟩ hc hk hs hq hn⟩
  | some p =>
    obtain ⟨m, bits⟩ := p
    rw [e] at hcm
    cases m with
    | zero => exact Or.inr ⟨hcm.1, cut_falls h hu e _⟩
    | succ m =>
      have hb := hcm.2.2
      refine Or.inr ⟨hcm.1, cut_put h hu e hc hk hs hq hn ?_ ?_⟩
      · rintro rfl; have := hc.1; rw [hb] at this; simp at this
      · rintro rfl; have := hc.2; rw [hb] at this; simp at this
theorem sync_any {d : Nat} {S : DS} {Z : List Nat} {w : World} (h : DkS w d S Z) (hn : S.cnt < 4611686018427387904) :
    Calls Tryz.prog 122 #[ptr d] w fun e w' => e = .returned (.int .i64 S.sync.2) ∧ ∃ Z', DkS w' d S.sync.1 Z' ∧ Mv w w' Z Z' := by
  have K := ready_any h
  have H := hide h
  unfold DS.sync
  unfold rdy at K
  obtain ⟨nb, sb, cb, fv, cv, rfl, h1⟩ := h
  cases hu : S.up
  · rw [hu] at K
    simp only [if_true] at K ⊢
    clear h1
    unfold ptr at *
    go_enter Tryz.func122, Tryz.ntmps122
    go_wp2_with fail
    refine K.mono ?_
    rintro e w ⟨rfl, rfl⟩
    go_wp2_with fail
    go_ret
    exact ⟨rfl, _, unhide H, Mv.refl _ _⟩
  · rw [hu] at K
    simp only [Bool.true_eq_false, if_false] at K ⊢
    have hcs := come_settle h1 hu hn
    generalize S.come DS.settle = R at *
    rcases hcs with ⟨rfl, KC⟩ | ⟨rfl, KC⟩
    · have c7 := dcell h1.blk 7 rfl
      clear h1
      unfold comeF ptr at *
      go_enter Tryz.func122, Tryz.ntmps122
      go_wp2_with fail
      refine K.mono ?_
      rintro e w ⟨rfl, rfl⟩
      go_wp2_with fail
      refine KC.mono ?_
      rintro e w1 ⟨rfl, hz⟩
      have HZ := hide hz
      clear hz KC
      go_wp2_with fail
      go_ret
      exact ⟨rfl, unhide HZ⟩
    · have c7 := dcell h1.blk 7 rfl
      clear h1
      unfold cutF ptr at *
      go_enter Tryz.func122, Tryz.ntmps122
      go_wp2_with fail
      refine K.mono ?_
      rintro e w ⟨rfl, rfl⟩
      go_wp2_with fail
      refine KC.mono ?_
      rintro e w1 ⟨rfl, hz⟩
      have HZ := hide hz
      clear hz KC
      go_wp2_with fail
      go_ret
      exact ⟨rfl, unhide HZ⟩
theorem run_copy_str (w : World) (b : Nat) (A : Array Value) (s : ByteArray) (hs : s.size = 64) (hA : A.size = 65) (h : w.heap[b]? = some (.cells A 125 (0, 0))) : (Builtin.copy_ #[59, 9] 3 #[.slice (some ⟨b, 1, none⟩) 64 64, .string s]).run Tryz.prog w = .ok (.int .i64 64) (w.setRow b (A.toList.take 1 ++ blkC s).toArray) := by
  have hst := run_storeCells_at Tryz.prog b 1 125 (blkC s) 0 A w h (by rw [blkC_len]; omega) (blkC_one s)
  have e2 : A.toList.drop (1 + 0 + (blkC s).length) = [] := List.drop_eq_nil_of_le (by rw [blkC_len]; simp; omega)
  have hd := Tryz.infoU8
  cases hq : Tryz.prog.info? 5 with
  | none => rw [hq] at hd; cases hd
  | some i =>
    have hi : i.size = 1 := by rw [hq] at hd; simpa using hd
    have hu := Tryz.underlying59
    generalize Tryz.prog = P at *
    rw [e2, List.append_nil] at hst
    have e3 : List.take 64 (List.map (fun b => Value.int IntKind.u8 (b.toNat : Int)) s.data.toList) = blkC s := List.take_of_length_le (by simp only [List.length_map, Array.length_toList]; exact Nat.le_of_eq hs)
    simp [Builtin.copy_, run_underlying hu, Builtin.lenOf, Builtin.firstCells, sizeOf, typeInfo, hq, hs, goInt]
    rw [e3, hst]
    rfl
def bw (v : Int) : Array Value := #[.int .i64 v, .int .u8 0, .int .u8 0, .int .u8 0, .int .u8 0, .int .u8 0, .int .u8 0, .int .u8 0, .int .u8 0, .int .u8 0, .int .u8 0, .int .u8 0, .int .u8 0, .int .u8 0, .int .u8 0, .int .u8 0, .int .u8 0, .int .u8 0, .int .u8 0, .int .u8 0, .int .u8 0, .int .u8 0, .int .u8 0, .int .u8 0, .int .u8 0, .int .u8 0, .int .u8 0, .int .u8 0, .int .u8 0, .int .u8 0, .int .u8 0, .int .u8 0, .int .u8 0, .int .u8 0, .int .u8 0, .int .u8 0, .int .u8 0, .int .u8 0, .int .u8 0, .int .u8 0, .int .u8 0, .int .u8 0, .int .u8 0, .int .u8 0, .int .u8 0, .int .u8 0, .int .u8 0, .int .u8 0, .int .u8 0, .int .u8 0, .int .u8 0, .int .u8 0, .int .u8 0, .int .u8 0, .int .u8 0, .int .u8 0, .int .u8 0, .int .u8 0, .int .u8 0, .int .u8 0, .int .u8 0, .int .u8 0, .int .u8 0, .int .u8 0, .int .u8 0]
set_option maxRecDepth 100000 in
theorem build_write (v : Int) (w : World) : (Instr.build 125 #[(0, .int .i64 v)]).run Tryz.prog w = .ok (.agg (bw v)) w := by kernel_rfl
theorem bw_size (v : Int) : (bw v).size = 65 := rfl
set_option maxRecDepth 100000 in
theorem bw_one (v : Int) : (bw v).all (·.oneCell') = true := by
  refine Array.all_eq_true_iff_forall_mem.2 (fun x hx => ?_)
  simp [bw] at hx
  rcases hx with rfl | rfl <;> rfl
theorem wpList_build_write {ops : Array Oper} {rest : List Oper} {o : Oper} {a : Act} {w : World} {Q : Exit → Act → World → Prop} (hgd : o.guard = none) (x : Operand) (ho : o.op = .build 125 #[(0, x)]) (v : Int) (hx : a.eval x = .int .i64 v)
    (h : wpList Tryz.prog ops Q rest (a.put o.dst (.agg (bw v))) w) : wpList Tryz.prog ops Q (o :: rest) a w :=
  wpList_plain hgd fun _ hK => by
    have hb := build_write v w
    unfold Oper.wp execOp
    generalize Tryz.prog = P at *
    simp [ho, hx, hb, Result.andThen]
    exact hK _ _ h
theorem bw_infoW : (Tryz.prog.info? 125).map (·.size) = some 65 := Tryz.infoWrite
set_option maxRecDepth 100000 in
set_option maxHeartbeats 8000000 in
theorem write_in {d : Nat} {S : DS} {Z : List Nat} {w : World} (h : DkS w d S Z) (hu : S.up = true) (hn : S.cnt < 4611686018427387904) (hq : S.since.length < 4611686018427387904) {k : Nat} {s : ByteArray} (hk : k < S.N) (hs : s.size = 64) :
    Calls Tryz.prog 121 #[ptr d, .int .i64 (k : Int), .string s] w fun e w' => e = .returned (.int .i64 (S.come (fun S => S.put k s)).2) ∧ ∃ Z', DkS w' d (S.come (fun S => S.put k s)).1 Z' ∧ Mv w w' Z Z' := by
  have h0 := h.bw ((Below.refl _ _).alloc (Nat.le_refl _) (.cells #[ptr d] 33))
  have K := ready_any h0
  have KH := has_any h0 (k : Int)
  rw [hu] at K
  have e1 : decide (0 ≤ (k : Int) ∧ (k : Int) < (S.N : Int)) = true := by simp; omega
  rw [e1] at KH
  unfold rdy at K
  simp only [Bool.true_eq_false, if_false] at K
  have B0 := heap_alloc_new w (.cells #[ptr d] 33)
  have F0 : Below w.heap.size w (w.alloc (.cells #[ptr d] 33)) := (Below.refl _ _).alloc (Nat.le_refl _) _
  obtain ⟨b1, hb1⟩ : ∃ b1, b1 = w.heap.size := ⟨_, rfl⟩
  obtain ⟨Zw, hZw, hzv⟩ := zeroWrite
  unfold ptr at *
  have hs64 : (s.size : Int) = 64 := by omega
  obtain ⟨R, hR⟩ : ∃ R, R = S.come (fun S => S.put k s) := ⟨_, rfl⟩
  rw [← hR]
  have HRR := hide hR
  clear hR
  go_enter Tryz.func121, Tryz.ntmps121
  go_upto_region 1 with fail
  generalize hW0 : w.alloc (Obj.cells #[.pointer (some ⟨d, 0, none⟩)] 33) = W0 at *
  rw [← hb1] at B0 ⊢
  have HH := hide (And.intro h0 (And.intro B0 (And.intro F0 (And.intro hu (And.intro hn (And.intro hq (And.intro hk hs)))))))
  have c0 := dcell B0 0 rfl
  clear h h0 B0 F0 hu hn hq hk e1 hb1 hW0
  go_wp2_with fail
  refine K.mono ?_
  rintro e W0 ⟨rfl, rfl⟩
  go_wp2_with fail
  refine KH.mono ?_
  rintro e W0 ⟨rfl, rfl⟩
  clear K KH
  go_upto_region 7 with (first | refine wpList_build_write rfl (.tmp 23) rfl (k : Int) rfl ?_ | refine wpList_store_row rfl 125 (.tmp 8) (.tmp 24) rfl W0.heap.size (bw (k : Int)) rfl rfl 125 Zw (heap_alloc_new _ _) Tryz.infoWrite (by rw [hZw]; rfl) (bw_one _) ?_)
  generalize hW1 : (W0.alloc (Obj.cells Zw 125)).setRow W0.heap.size (bw (k : Int)) = W1
  have g0 : W1.heap[W0.heap.size]? = some (.cells (bw (k : Int)) 125 (0, 0)) := by rw [← hW1]; exact setRow_heap _ _ _ _ _ _ (heap_alloc_new _ _)
  have g1 : Below W0.heap.size W0 W1 := by rw [← hW1]; exact below_setRow ((Below.refl _ _).alloc (Nat.le_refl _) _) (Nat.le_refl _) _
  clear hW1 hzv hZw
  have hcp := run_copy_str W1 W0.heap.size (bw (k : Int)) s (unhide HH).2.2.2.2.2.2.2 (bw_size _) g0
  have ew : ((bw (k : Int)).toList.take 1 ++ blkC s).toArray = (wrC (k, s)).toArray := rfl
  rw [ew] at hcp
  have g2 : (W1.setRow W0.heap.size (wrC (k, s)).toArray).heap[W0.heap.size]? = some (.cells (wrC (k, s)).toArray 125 (0, 0)) := setRow_heap _ _ _ _ _ _ g0
  have g3 : Below W0.heap.size W0 (W1.setRow W0.heap.size (wrC (k, s)).toArray) := below_setRow g1 (Nat.le_refl _) _
  clear ew g0 g1
  generalize W1.setRow W0.heap.size (wrC (k, s)).toArray = W2 at *
  have h2 := (unhide HH).1.bw g3
  have B2 : W2.heap[b1]? = _ := (g3.block b1 (lt_of_blk (unhide HH).2.1)).trans (unhide HH).2.1
  have c0' := dcell B2 0 rfl
  have HB : Hid (Below w.heap.size w W2) := bw_tr (unhide HH).2.2.1 g3
  have hclo : CloAt W2 d b1 W0.heap.size k s := ⟨B2, g2⟩
  obtain ⟨nb, sb, cb, fv, cv, rfl, h3⟩ := h2
  have hcc := come_put h3 (unhide HH).2.2.2.1 (unhide HH).2.2.2.2.1 hclo (unhide HH).2.2.2.2.2.2.1 (unhide HH).2.2.2.2.2.2.2 (unhide HH).2.2.2.2.2.1
  have C7 := h3.blk
  rw [← unhide HRR] at hcc
  clear g2 g3 B2 hclo h3 HH c0
  go_frame
  unfold ptr at hcc
  rcases hcc with ⟨rfl, KC⟩ | ⟨rfl, KC⟩
  · have c7 := dcell (X := W2) C7 7 rfl
    have HC7 := hide C7
    clear C7
    unfold comeF ptr at *
    go_wp2_with fail
    refine KC.mono ?_
    rintro e w1 ⟨rfl, Z1, hz, mz⟩
    have HZ := hide (And.intro hz mz)
    clear hz mz KC
    go_wp2_with fail
    go_ret
    exact ⟨rfl, Z1, (unhide HZ).1, (Mv.same _ (unhide HB)).trans (unhide HZ).2⟩
  · have c7 := dcell (X := W2) C7 7 rfl
    have HC7 := hide C7
    clear C7
    unfold cutF ptr at *
    go_wp2_with fail
    refine KC.mono ?_
    rintro e w1 ⟨rfl, Z1, hz, mz⟩
    have HZ := hide (And.intro hz mz)
    clear hz mz KC
    go_wp2_with fail
    go_ret
    exact ⟨rfl, Z1, (unhide HZ).1, (Mv.same _ (unhide HB)).trans (unhide HZ).2⟩
theorem write_down {d : Nat} {S : DS} {Z : List Nat} {w : World} (h : DkS w d S Z) (hu : S.up = false) (x : Int) (s : ByteArray) :
    Calls Tryz.prog 121 #[ptr d, .int .i64 x, .string s] w fun e w' => e = .returned (.int .i64 6) ∧ Below w.heap.size w w' := by
  have h0 := h.bw ((Below.refl _ _).alloc (Nat.le_refl _) (.cells #[ptr d] 33))
  have K := ready_any h0
  rw [hu] at K
  unfold rdy at K
  simp only [if_true] at K
  have F0 : Below w.heap.size w (w.alloc (.cells #[ptr d] 33)) := (Below.refl _ _).alloc (Nat.le_refl _) _
  have HF := hide F0
  clear h h0 F0
  unfold ptr at *
  go_enter Tryz.func121, Tryz.ntmps121
  go_wp2_with fail
  refine K.mono ?_
  rintro e w1 ⟨rfl, rfl⟩
  go_wp2_with fail
  go_ret
  exact ⟨rfl, unhide HF⟩
theorem write_out {d : Nat} {S : DS} {Z : List Nat} {w : World} (h : DkS w d S Z) (hu : S.up = true) (x : Int) (s : ByteArray) (hx : x < 0 ∨ (S.N : Int) ≤ x ∨ s.size ≠ 64) (_hsl : s.size ≤ 140737488355328) :
    Calls Tryz.prog 121 #[ptr d, .int .i64 x, .string s] w fun e w' => e = .returned (.int .i64 1) ∧ Below w.heap.size w w' := by
  have h0 := h.bw ((Below.refl _ _).alloc (Nat.le_refl _) (.cells #[ptr d] 33))
  have K := ready_any h0
  have KH := has_any h0 x
  rw [hu] at K
  unfold rdy at K
  simp only [Bool.true_eq_false, if_false] at K
  have F0 : Below w.heap.size w (w.alloc (.cells #[ptr d] 33)) := (Below.refl _ _).alloc (Nat.le_refl _) _
  have HF := hide F0
  clear h h0 F0
  unfold ptr at *
  obtain ⟨q, hq⟩ : ∃ q, q = decide (0 ≤ x ∧ x < (S.N : Int)) := ⟨_, rfl⟩
  rw [← hq] at KH
  cases q
  · clear hq hx
    go_enter Tryz.func121, Tryz.ntmps121
    go_wp2_with fail
    refine K.mono ?_
    rintro e w1 ⟨rfl, rfl⟩
    go_wp2_with fail
    refine KH.mono ?_
    rintro e w1 ⟨rfl, rfl⟩
    go_wp2_with fail
    go_ret
    exact ⟨rfl, unhide HF⟩
  · have hne : s.size ≠ 64 := by
      have := of_decide_eq_true hq.symm
      omega
    obtain ⟨n, hn⟩ : ∃ n, n = s.size := ⟨_, rfl⟩
    have hz1 : ((n : Int) != 64) = true := by simp; omega
    have hz2 : decide ((n : Int) = 64) = false := by simp; omega
    have hln : ∀ W, (Builtin.len_ #[9] 3 #[.string s]).run Tryz.prog W = .ok (.int .i64 (n : Int)) W := fun W => by
      have hu := Tryz.underlying9
      generalize Tryz.prog = P at *
      simp [Builtin.len_, run_underlying hu, hn, goInt]
    clear hq hx hne
    go_enter Tryz.func121, Tryz.ntmps121
    go_wp2_with fail
    refine K.mono ?_
    rintro e w1 ⟨rfl, rfl⟩
    go_wp2_with fail
    refine KH.mono ?_
    rintro e w1 ⟨rfl, rfl⟩
    have hz3 : ((s.size : Int) != 64) = true := by rw [← hn]; exact hz1
    have hz4 : decide ((s.size : Int) = 64) = false := by rw [← hn]; exact hz2
    clear hn hln hz1 hz2
    go_wp2_with fail
    go_ret
    exact ⟨rfl, unhide HF⟩
theorem write_any {d : Nat} {S : DS} {Z : List Nat} {w : World} (h : DkS w d S Z) (hn : S.cnt < 4611686018427387904) (hq : S.since.length < 4611686018427387904) (x : Int) (s : ByteArray) (hsl : s.size ≤ 140737488355328) :
    Calls Tryz.prog 121 #[ptr d, .int .i64 x, .string s] w fun e w' => e = .returned (.int .i64 (S.write x s).2) ∧ ∃ Z', DkS w' d (S.write x s).1 Z' ∧ Mv w w' Z Z' := by
  unfold DS.write
  cases hu : S.up
  · simp only [if_true]
    refine (write_down h hu x s).mono ?_
    rintro e w' ⟨e1, hb⟩
    exact ⟨e1, Z, h.bw hb, Mv.same _ hb⟩
  · simp only [Bool.true_eq_false, if_false]
    by_cases hx : x < 0 ∨ (S.N : Int) ≤ x ∨ s.size ≠ 64
    · simp only [hx, if_true]
      refine (write_out h hu x s hx hsl).mono ?_
      rintro e w' ⟨e1, hb⟩
      exact ⟨e1, Z, h.bw hb, Mv.same _ hb⟩
    · simp only [hx, if_false]
      have K := write_in h hu hn hq (k := x.toNat) (s := s) (by omega) (by omega)
      have e : ((x.toNat : Nat) : Int) = x := by omega
      rw [e] at K
      exact K

end Go.Proofs.YtfnpeiikjiffeaaGreat
