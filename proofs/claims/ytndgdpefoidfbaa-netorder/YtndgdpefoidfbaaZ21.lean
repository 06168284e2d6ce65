/- Texts joined: QuE QuF QuG NeC. -/
import Derived.Test.YtndgdpefoidfbaaZ20
/- A link's copy (fresh.Link). mkQuC.py writes it. -/
namespace Go.Proofs.Ytndgdpefoidfbaa
open Go.RowKit Go.Maps
end Go.Proofs.Ytndgdpefoidfbaa

/- Lists of links: copies (fresh.List). mkQuC.py writes it. -/
namespace Go.Proofs.Ytndgdpefoidfbaa
open Go.RowKit Go.Maps
end Go.Proofs.Ytndgdpefoidfbaa

/- May a link send (isServer, mayBeTold, maySend). mkQuG.py writes it. -/
namespace Go.Proofs.Ytndgdpefoidfbaa
open Go.RowKit Go.Maps
set_option maxHeartbeats 1000000 in
theorem isSrv_any {w : World} (n : Int) : Calls Try.prog 32 #[.int .i64 n] w fun e w' => e = .returned (.bool (decide (0 ≤ n ∧ n < 4))) ∧ Below w.heap.size w w' := by
  by_cases h1 : 0 ≤ n
  · by_cases h2 : n < 4
    · have hd : decide (0 ≤ n ∧ n < 4) = true := decide_eq_true ⟨h1, h2⟩
      rw [hd]
      go_enter Try.func32, Try.ntmps32
      go_wp2_with fail
      go_ret
      exact ⟨by simp, Below.refl _ _⟩
    · have hd : decide (0 ≤ n ∧ n < 4) = false := decide_eq_false (fun c => h2 c.2)
      rw [hd]
      go_enter Try.func32, Try.ntmps32
      go_wp2_with fail
      go_ret
      exact ⟨by simp, Below.refl _ _⟩
  · have hd : decide (0 ≤ n ∧ n < 4) = false := decide_eq_false (fun c => h1 c.1)
    rw [hd]
    go_enter Try.func32, Try.ntmps32
    go_wp2_with fail
    go_ret
    exact ⟨rfl, Below.refl _ _⟩
def tellP (f : Fd) : Prop := 1 ≤ f.kd ∧ f.kd ≤ 6
set_option maxRecDepth 100000 in
set_option maxHeartbeats 2000000 in
theorem told_any {w : World} (f : Fd) (x : Fx) : Calls Try.prog 33 #[.agg (fdC f x).toArray] w fun e w' => e = .returned (.bool (decide (1 ≤ f.kd ∧ f.kd ≤ 6))) ∧ Below w.heap.size w w' := by
  obtain ⟨w0, hw0⟩ : ∃ w0, w0 = w.alloc (.cells (fdC f x).toArray 42) := ⟨_, rfl⟩
  have kk : w0.heap[w.heap.size]? = some (.cells (fdC f x).toArray 42 (0, 0)) := by rw [hw0]; exact heap_alloc_new _ _
  have HB : Hid (Below w.heap.size w w0) := by rw [hw0]; exact bwA _ _
  have c0 : w0.cell? ⟨w.heap.size, 0, none⟩ = some (.int .u8 f.kd) := blk_c kk rfl
  have HW := hide hw0
  clear hw0 kk
  generalize fdC f x = cs at *
  generalize f.kd = k at *
  by_cases h1 : 1 ≤ k
  · by_cases h2 : k ≤ 6
    · rw [show decide (1 ≤ k ∧ k ≤ 6) = true from decide_eq_true ⟨h1, h2⟩]
      go_enter Try.func33, Try.ntmps33
      go_upto_region 1 with fail
      rw [← unhide HW]
      go_wp2_with fail
      go_ret
      exact ⟨by first | rfl | simp, unhide HB⟩
    · rw [show decide (1 ≤ k ∧ k ≤ 6) = false from decide_eq_false (fun c => h2 c.2)]
      go_enter Try.func33, Try.ntmps33
      go_upto_region 1 with fail
      rw [← unhide HW]
      go_wp2_with fail
      go_ret
      exact ⟨by first | rfl | simp, unhide HB⟩
  · rw [show decide (1 ≤ k ∧ k ≤ 6) = false from decide_eq_false (fun c => h1 c.1)]
    go_enter Try.func33, Try.ntmps33
    go_upto_region 1 with fail
    rw [← unhide HW]
    go_wp2_with fail
    go_ret
    exact ⟨by first | rfl | simp, unhide HB⟩
theorem false_iff {p : Prop} {b : Bool} (hb : b = true ↔ p) (h : ¬ p) : b = false := by cases b with | false => rfl | true => exact absurd (hb.1 rfl) h
theorem infoFdS2 : (Try.prog.info? 42).map (·.size) = some 53 := by kernel_rfl
end Go.Proofs.Ytndgdpefoidfbaa

/- A packet's copy (fresh.Packet). -/
namespace Go.Proofs.Ytndgdpefoidfbaa
open Go.RowKit Go.Maps
theorem infoPkS2 : (Try.prog.info? 44).map (·.size) = some 57 := by kernel_rfl
theorem ptC_feed (p : Pt) (x : Fx) : ∀ j u, (fdC p.fd x)[j]? = some u → (ptC p x)[4 + j]? = some u := fun j u hj => by
  unfold ptC
  rw [show 4 + j = j + 1 + 1 + 1 + 1 by omega, List.getElem?_cons_succ, List.getElem?_cons_succ, List.getElem?_cons_succ, List.getElem?_cons_succ]; exact hj
theorem ptC_pk (p : Pt) (x y : Fx) : pk (ptC p x).toArray 4 (fdC p.fd y) = (ptC p y).toArray := by
  have := pk_mid (fdC p.fd y) [Value.int .i64 p.fr, .int .i64 p.tu, .bool p.ack, .int .i64 p.sq] (fdC p.fd x) [] rfl
  rw [List.append_nil, List.append_nil] at this
  exact this
set_option maxRecDepth 100000 in
set_option maxHeartbeats 8000000 in
theorem frPacket_any {w : World} {f : Pt} {x : Fx} (h : FdR w f.fd x) (hs : SmF f.fd) :
    Calls Try.prog 27 #[.agg (ptC f x).toArray] w fun e w' => ∃ x', e = .returned (.agg (ptC f x').toArray) ∧ OF w.heap.size w' f.fd x' ∧ Below w.heap.size w w' := by
  obtain ⟨w0, hw0⟩ : ∃ w0, w0 = (w.alloc (.cells (ptC f x).toArray 44)).alloc (.cells pt0 44) := ⟨_, rfl⟩
  have s0 : TwoB w w0 44 (ptC f x).toArray pt0 := by rw [hw0]; exact TwoB.start _ _ _ _
  obtain ⟨CC, hCC⟩ : ∃ z, z = fdC f.fd x := ⟨_, rfl⟩
  have hCl : CC.length = 53 := by rw [hCC]; rfl
  have KA : Hid (∀ W, Below w.heap.size w W → Calls Try.prog 34 #[.agg CC.toArray] W fun e w' => ∃ (y : Fx) (cs' : List Value), e = .returned (.agg cs'.toArray) ∧ Hid (cs'.length = 53 ∧ (∀ u ∈ cs', u.oneCell' = true) ∧ OF W.heap.size w' f.fd y ∧ fdC f.fd y = cs') ∧ Below W.heap.size W w') := fun W hW => by
    rw [hCC]
    refine Calls.mono (frFeed_any (h.bw hW) hs) ?_
    rintro e w' ⟨y, rfl, h1, h2⟩
    exact ⟨y, _, rfl, ⟨rfl, fd_one (h1.rd hs), h1, rfl⟩, h2⟩
  have RG : Hid (w0.rangeAt w.heap.size 4 CC) := by rw [hCC]; exact blk_rngQ s0.k1 (ptC_feed f x)
  have HI : Hid ((Try.prog.info? 42).map (·.size) = some CC.length) := by rw [hCl]; exact infoFdS
  have HD : Hid (∀ (z1 : World) (y : Fx) (cs1 : List Value), Below w0.heap.size w0 z1 → OF w0.heap.size z1 f.fd y → fdC f.fd y = cs1 →
      z1.there w.heap.size 4 cs1.toArray.size ∧ ∃ V : World, V = z1.setCells w.heap.size 4 cs1.toArray.toList ∧ Hid (TwoB w V 44 (ptC f y).toArray pt0 ∧ OF (w.heap.size + 2) V f.fd y)) := fun z1 y cs1 b1 o1 e1 => by
    subst e1
    have q2 := s0.bw b1
    have p1 := q2.pokes1 4 (fdC f.fd y)
    rw [← setCells_pokesQ, ptC_pk f x y] at p1
    refine ⟨blk_there q2.k1 (by rw [List.size_toArray, List.size_toArray, fdC_len, ptC_len]; decide), _, rfl, p1.1, ?_⟩
    have o1' := o1.mono s0.two
    exact o1'.keep (fun k hk => p1.2 k (o1'.lt k hk).1)
  have HW : Hid (w0 = (w.alloc (.cells (ptC f x).toArray 44)).alloc (.cells #[.int .i64 0, .int .i64 0, .bool false, .int .i64 0, .int .u8 0, .int .i64 0, .int .i64 0, .int .i64 0, .int .i64 0, .int .i64 0, .int .i64 0, .int .i64 0, .bool false, .slice none 0 0, .slice none 0 0, .slice none 0 0, .slice none 0 0, .int .i64 0, .int .i64 0, .slice none 0 0, .int .i64 0, .int .i64 0, .int .u8 0, .int .i64 0, .int .i64 0, .int .i64 0, .int .i64 0, .int .i64 0, .bool false, .slice none 0 0, .slice none 0 0, .slice none 0 0, .slice none 0 0, .int .i64 0, .int .i64 0, .slice none 0 0, .int .i64 0, .int .i64 0, .int .i64 0, .int .i64 0, .int .i64 0, .int .i64 0, .int .i64 0, .int .i64 0, .int .i64 0, .slice none 0 0, .int .i64 0, .int .i64 0, .int .i64 0, .int .i64 0, .int .i64 0, .int .i64 0, .int .i64 0, .int .i64 0, .int .i64 0, .int .i64 0, .int .i64 0] 44)) := hw0
  have HS := hide hs
  have HB0 := hide s0.bel
  clear h hs s0 hCC hCl hw0
  go_enter Try.func27, Try.ntmps27
  go_upto_region 1 with fail
  rw [← unhide HW]
  clear HW
  go_wp2_with (refine wpList_load_mid rfl 42 (.tmp 3) rfl w.heap.size 4 (by simp [Act.eval]) CC _ (unhide RG) Try.underlying42 rfl (unhide HI) ?_)
  refine (unhide KA w0 (unhide HB0)).mono ?_
  rintro e_ z1 ⟨y1, cs1, rfl, hO1, b1⟩
  obtain ⟨ht, V, hV, HV⟩ := unhide HD z1 y1 cs1 b1 (unhide hO1).2.2.1 (unhide hO1).2.2.2
  have HY : Hid ((Try.prog.info? 42).map (·.size) = some cs1.toArray.size ∧ cs1.toArray.all (·.oneCell') = true ∧ z1.there w.heap.size 4 cs1.toArray.size) := ⟨by rw [List.size_toArray, (unhide hO1).1]; exact infoFdS, all_oneCell_toArray (unhide hO1).2.1, ht⟩
  have HV2 := hide hV
  clear hO1 b1 ht hV HD KA RG HI
  go_upto_region 2 with (refine wpList_store_mid rfl 42 (.tmp 6) (.tmp 5) rfl w.heap.size 4 cs1.toArray (by simp [Act.eval]) rfl (unhide HY).2.2 (unhide HY).1 (unhide HY).2.1 ?_)
  rw [← unhide HV2]
  clear HV2 HY
  have om := (unhide HV).2
  have s2 := (unhide HV).1
  have z1_ := all_oneCell_toArray (pt_one (p := f) (om.rd (unhide HS)))
  obtain ⟨C1, hC1⟩ : ∃ C : Array Value, C = (ptC f y1).toArray := ⟨_, rfl⟩
  rw [← hC1] at s2 z1_
  have z0 : C1.size = 57 := by rw [hC1, List.size_toArray]; rfl
  have z2_ : (Try.prog.info? 44).map (·.size) = some C1.size := by rw [z0]; exact infoPkS2
  have HO : Hid (OF w.heap.size (V.setRow (w.heap.size + 1) C1) f.fd y1 ∧ Below w.heap.size w (V.setRow (w.heap.size + 1) C1)) :=
    ⟨(om.keep (fun k hk => setRow_other _ _ _ _ (by have := (om.lt k hk).1; omega))).mono (by omega), below_setRow' s2.bel (by omega) _⟩
  have HC := hide hC1
  have HZ := hide (And.intro s2.k1 (And.intro s2.k2 (And.intro z0 (And.intro z1_ z2_))))
  clear om s2 hC1 z0 z1_ z2_ HV HS HB0
  go_wp2_with (first | refine wpList_load_row rfl 44 (.tmp 1) rfl w.heap.size rfl 44 C1 (0, 0) _ (unhide HZ).1 Try.underlying44 rfl (unhide HZ).2.2.2.2 ?_ | refine wpList_store_row rfl 44 (.tmp 2) (.tmp 7) rfl (w.heap.size + 1) C1 rfl rfl 44 pt0 (unhide HZ).2.1 (unhide HZ).2.2.2.2 (by rw [(unhide HZ).2.2.1]; rfl) (unhide HZ).2.2.2.1 ?_)
  refine bodyPost_ret (v := .agg C1) (results_cell_row Try.results27 _ _ (w.heap.size + 1) 44 C1 (0, 0) _ rfl (setRow_heap _ _ _ _ _ _ (unhide HZ).2.1) Try.underlying44 rfl (unhide HZ).2.2.2.2) rfl ⟨y1, by rw [unhide HC], (unhide HO).1, (unhide HO).2⟩
end Go.Proofs.Ytndgdpefoidfbaa
