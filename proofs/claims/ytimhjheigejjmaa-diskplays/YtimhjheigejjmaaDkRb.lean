/- Contracts of the document's disk: falls, does. -/
import Derived.Test.YtimhjheigejjmaaDkRa
namespace Go.Proofs.Ytimhjheigejjmaa
open Go.RowKit Go.Maps

theorem fl_take {bits : Int} {f : Nat → ByteArray} {l : List (Nat × ByteArray)} {i : Nat} {p : Nat × ByteArray} (h : l[i]? = some p) : fl bits 0 f (l.take (i + 1)) = upd (fl bits 0 f (l.take i)) p.1 (torn (fl bits 0 f (l.take i) p.1) p.2 (fate bits i)) := by
  have hl : (l.take i).length = i := by have := (List.getElem?_eq_some_iff.1 h).1; simp; omega
  rw [take_one h, fl_snoc, hl, Nat.zero_add]
theorem range_set5 {f : Nat → ByteArray} {N k : Nat} (hk : k < N) (s : ByteArray) : ((List.range N).map f).set k s = (List.range N).map (upd f k s) := by
  apply List.ext_getElem?
  intro j
  rw [List.getElem?_set]
  simp only [List.length_map, List.length_range, List.getElem?_map]
  by_cases c : k = j
  · subst c; simp [hk, upd]
  · by_cases d : j < N
    · simp [c, d, upd, Ne.symm c]
    · simp [c, d]
theorem SRow.set {w : World} {v : Value} {l : List ByteArray} (h : SRow w v l) {g : Nat} (hg : v.ownBlock = some g) (k : Nat) (s : ByteArray) : SRow (w.setCell ⟨g, k, none⟩ (.string s)) v (l.set k s) := by
  have := own_set h hg (j := k) (.string s)
  unfold SRow
  rw [List.length_set, List.map_set]
  exact this
set_option maxRecDepth 100000 in
set_option maxHeartbeats 8000000 in
theorem rfalls_core {w : World} {p : Nat} {dv sv : Value} {bt : Int} {S : DS} (h : Rk w p dv sv bt S) (bits : Int) (hq : S.since.length ≤ 140737488355328) :
    Calls Try.prog 42 #[.pointer (some ⟨p, 0, none⟩), .int .i64 bits] w fun e w' => e = .returned (.tuple #[]) ∧ Stp w w' p (S.fall bits) (rfoot p dv sv) := by
  have hN1 := h.ok.n1
  obtain ⟨g, dc, hdv, _, _, _⟩ := h.done.cell (i := 0) (s := S.base 0) (by rw [List.getElem?_map, List.getElem?_range (by omega)]; rfl)
  rw [List.length_map, List.length_range] at hdv
  have hob : dv.ownBlock = some g := by rw [hdv]; rfl
  obtain ⟨sa, sc, hsv⟩ := own_slice h.row
  have hgp : g ≠ p := fun c => h.apart.1 (by rw [hob, c])
  have HP : Hid (∀ wr, Fr [g] w wr → wr.heap[p]? = w.heap[p]?) := fun wr hf => hf.block p (lt_of_blk h.blk) (by simp; exact fun c => hgp c.symm)
  have HV : Hid (∀ wr, Fr [g] w wr → WRow wr sv S.since) := fun wr hf => own_keep h.row (fun k hk => hf.block k (World.ownsRow.lt h.row k hk).2 (by simp; rintro rfl; exact h.apart.2.2 k hob hk))
  obtain ⟨n, hn⟩ : ∃ n, n = S.since.length := ⟨_, rfl⟩
  rw [← hn] at hq hsv
  obtain ⟨m, hm⟩ : ∃ m, m = (S.since.take 31).length := ⟨_, rfl⟩
  have hmn : m ≤ n ∧ m ≤ 31 ∧ (m = n ∨ m = 31) := by rw [hm, hn, List.length_take]; omega
  have HM := hide (And.intro hn (And.intro hm hmn))
  have hm31 : (m : Int) ≤ 31 := by omega
  have hmn1 : (m : Int) ≤ (n : Int) := by omega
  have H := hide h
  have HL0 : Hid (SRow w dv ((List.range S.N).map (fl bits 0 S.base ((S.since.take 31).take 0))) ∧ Fr [g] w w) := ⟨h.done, Fr.refl _ _⟩
  have HG := hide (And.intro hgp hob)
  clear h hN1 hgp hob hn hm hmn
  have blk0 := (unhide H).blk
  rw [hdv, hsv] at blk0
  have HB0 := hide blk0
  clear blk0
  obtain ⟨N, hNe⟩ : ∃ N, N = S.N := ⟨_, rfl⟩
  rw [← hNe] at HB0 HL0 hdv
  have HNe := hide (And.intro hNe (unhide H).ok.n2)
  clear hNe
  have HD := hide (And.intro hdv hsv)
  clear hdv hsv
  go_enter Try.func42, Try.ntmps42
  go_wp2_with fail
  go_loopw [4] (fun iv wr => ∃ i : Nat, i ≤ m ∧ iv = .int .i64 (i : Int) ∧ Hid (SRow wr dv ((List.range N).map (fl bits 0 S.base ((S.since.take 31).take i))) ∧ Fr [g] w wr)) (fun iv _ => (m - intOf iv).toNat)
  case atStart => exact ⟨0, by omega, rfl, HL0⟩
  case round =>
    clear HL0
    obtain ⟨i, hi, rfl, HR⟩ := hrel
    have hb := unhide HP wr (unhide HR).2
    rw [unhide HB0] at hb
    have c0 : wr.cell? ⟨p, 0, none⟩ = some (.slice (some ⟨g, 0, none⟩) N dc) := by simp [World.cell?, hb]
    have c1 : wr.cell? ⟨p, 1, none⟩ = some (.slice sa n sc) := by simp [World.cell?, hb]
    by_cases hlt : i < m
    · obtain ⟨q, hq2⟩ : ∃ q, (S.since.take 31)[i]? = some q := ⟨_, List.getElem?_eq_getElem (by have := (unhide HM).2.1; omega)⟩
      have hq3 : S.since[i]? = some q := by rw [List.getElem?_take, if_pos (by omega)] at hq2; exact hq2
      obtain ⟨gs, sc', hs, hsb, z1, z2, _⟩ := (unhide HV wr (unhide HR).2).cell hq3
      rw [(unhide HD).2, ← (unhide HM).1] at hs
      simp only [Value.slice.injEq, true_and] at hs
      obtain ⟨rfl, rfl⟩ := hs
      obtain ⟨hqk, hqs⟩ := (unhide H).ok.ats q (List.mem_of_getElem? hq3)
      obtain ⟨k, s⟩ := q
      simp only at z1 z2 hqk hqs
      have hi1 : (i : Int) < (n : Int) := by omega
      have hi2 : (i : Int) < 31 := by omega
      obtain ⟨old, hold⟩ : ∃ x, x = fl bits 0 S.base ((S.since.take 31).take i) k := ⟨_, rfl⟩
      have hsz : old.size = 64 := by rw [hold]; exact fl_size (unhide H).ok.sz (fun p hp => ((unhide H).ok.ats p (List.mem_of_mem_take (List.mem_of_mem_take hp))).2) k
      have hkN : k < N := by rw [(unhide HNe).1]; exact hqk
      have hpr : p < wr.heap.size := lt_of_blk hb
      obtain ⟨X, hX⟩ : ∃ X, X = wr.alloc (.cells #[.int .i64 (k : Int), .string s] 43) := ⟨_, rfl⟩
      have hXb : Below wr.heap.size wr X := by rw [hX]; exact bw_alloc _ _
      have hXn : X.heap[wr.heap.size]? = some (.cells #[.int .i64 (k : Int), .string s] 43 (0, 0)) := by rw [hX]; exact heap_alloc_new _ _
      have hXr : SRow X dv ((List.range N).map (fl bits 0 S.base ((S.since.take 31).take i))) := own_keep (unhide HR).1 (fun x hx => hXb.block x (World.ownsRow.lt (unhide HR).1 x hx).2)
      have HC : Hid (∀ W, Below X.heap.size X W → (W.cell? ⟨p, 0, none⟩ = some (.slice (some ⟨g, 0, none⟩) N dc) ∧ W.cell? ⟨wr.heap.size, 0, none⟩ = some (.int .i64 (k : Int)) ∧ W.cell? ⟨wr.heap.size, 1, none⟩ = some (.string s)) ∧ W.cell? ⟨g, k, none⟩ = some (.string old) ∧ W.frozen? ⟨g, k, none⟩ = false ∧ (W.setCell ⟨g, k, none⟩ (.string (torn old s (fate bits i)))).cell? ⟨p, 0, none⟩ = some (.slice (some ⟨g, 0, none⟩) N dc) ∧ (W.setCell ⟨g, k, none⟩ (.string (torn old s (fate bits i)))).cell? ⟨wr.heap.size, 0, none⟩ = some (.int .i64 (k : Int)) ∧ (W.setCell ⟨g, k, none⟩ (.string (torn old s (fate bits i)))).cell? ⟨wr.heap.size, 1, none⟩ = some (.string s) ∧ (SRow (W.setCell ⟨g, k, none⟩ (.string (torn old s (fate bits i)))) dv ((List.range N).map (fl bits 0 S.base ((S.since.take 31).take (i + 1)))) ∧ Fr [g] w (W.setCell ⟨g, k, none⟩ (.string (torn old s (fate bits i)))))) := fun W hW => by
        have h1 : W.heap[p]? = _ := ((hW.block p (Nat.lt_of_lt_of_le hpr hXb.size)).trans (hXb.block p hpr)).trans hb
        have h2 : W.heap[wr.heap.size]? = _ := (hW.block _ (lt_of_blk hXn)).trans hXn
        have h3 : SRow W dv _ := own_keep hXr (fun x hx => hW.block x (World.ownsRow.lt hXr x hx).2)
        obtain ⟨g', c', e1, e2, _, e3⟩ := h3.cell (i := k) (s := old) (by rw [List.getElem?_map, List.getElem?_range hkN, hold]; rfl)
        have eg : g' = g := by rw [(unhide HD).1] at e1; simp only [Value.slice.injEq, Option.some.injEq, Addr.mk.injEq] at e1; exact e1.1.1.symm
        subst eg
        have hgw : g' < wr.heap.size := (World.ownsRow.lt (unhide HR).1 g' (unhide HG).2).2
        have h4 := SRow.set h3 (unhide HG).2 k (torn old s (fate bits i))
        rw [range_set5 hkN, hold, ← fl_take hq2, ← hold] at h4
        have h5 : (W.setCell ⟨g', k, none⟩ (.string (torn old s (fate bits i)))).heap[p]? = _ := (set_other (fun c => (unhide HG).1 c.symm)).trans h1
        have h6 : (W.setCell ⟨g', k, none⟩ (.string (torn old s (fate bits i)))).heap[wr.heap.size]? = _ := (set_other (by omega)).trans h2
        refine ⟨⟨by simp [World.cell?, h1], by simp [World.cell?, h2], by simp [World.cell?, h2]⟩, e2, e3, by simp [World.cell?, h5], by simp [World.cell?, h6], by simp [World.cell?, h6], h4, ?_⟩
        exact ((unhide HR).2.below (bw_tr hXb hW)).tr (Fr.set1 (by simp) _ _)
      have KT : Hid (∀ W, Calls Try.prog 44 #[.string old, .string s, .int .i64 (Go.bits BinOp.and IntKind.i64 (bits / 2 ^ (2 * (i : Int)).toNat) 3)] W fun e w' => e = .returned (.string (torn old s (fate bits i))) ∧ Below W.heap.size W w') := fun W => rtorn_any old s (fate bits i) hsz hqs W
      have hXs : wr.heap.size < X.heap.size := lt_of_blk hXn
      obtain ⟨⟨y0, y1, y2⟩, y3, y4, _⟩ := unhide HC X (Below.refl _ _)
      obtain ⟨⟨x0, x1, x2⟩, x3, x4, _⟩ := unhide HC X.drew (bw_drew _)
      have hk0 : (k : Int) < (N : Int) := by omega
      have hNb := (unhide HNe).2
      rw [← (unhide HNe).1] at hNb
      have HI := hide (And.intro hlt hi)
      clear hb hq2 hq3 hsb hold hsz hpr hXb hXn hXr hXs hqk hqs hkN HR hlt hi
      generalize torn old s (fate bits i) = tn at *
      go_upto_region 4 with fail
      rw [← hX]
      clear hX
      have m1 : IntKind.i64.wrap (2 * (i : Int)) = ((2 * i : Nat) : Int) := by rw [wrap_i64 (by omega) (by omega)]; omega
      have m2 : ¬ (((2 * i : Nat) : Int) < 0) := by omega
      have m3 : min (((2 * i : Nat) : Int)).toNat 64 = 2 * i := by omega
      refine wp_region_noPanic ?_
      refine wp_region_held_drew (S := fun w' : World => w'.cell? ⟨p, 0, none⟩ = some (.slice (some ⟨g, 0, none⟩) N dc) ∧ w'.cell? ⟨wr.heap.size, 0, none⟩ = some (.int .i64 (k : Int)) ∧ w'.cell? ⟨wr.heap.size, 1, none⟩ = some (.string s)) (by kernel_rfl) ?_ (fun hHeld => ?_)
      · exact ⟨x0, x1, x2⟩
      refine wpAnyH_take (i := 0) (oi := { dst := some 26, op := Op.move (Operand.tmp 0), type := 28, pos := "ref.go:52", after := #[], guard := none }) (v := ?v0) rfl (by kernel_rfl) (by kernel_rfl) (by kernel_rfl) (fun _ _ _ h => h) (Or.inl ⟨by rfl, ?hy0⟩) (by assumption) ?_
      case hy0 => (intro w hSw; (try dsimp only at hSw); go_simp; try (with_reducible rfl))
      try simp only [Act.put, List.setIfInBounds_toArray, List.set_cons_zero, List.set_cons_succ]
      refine wpAnyH_take (i := 1) (oi := { dst := some 27, op := Op.nilCheck (Operand.tmp 26), type := 0, pos := "ref.go:52", after := #[{ on := 0, ground := Ground.data }], guard := none }) (v := ?v1) rfl (by kernel_rfl) (by kernel_rfl) (by kernel_rfl) (fun _ _ _ h => h) (Or.inl ⟨by rfl, ?hy1⟩) (by assumption) ?_
      case hy1 => (intro w hSw; (try dsimp only at hSw); go_simp; try (with_reducible rfl))
      try simp only [Act.put, List.setIfInBounds_toArray, List.set_cons_zero, List.set_cons_succ]
      refine wpAnyH_take (i := 2) (oi := { dst := some 28, op := Op.fieldAddr 38 (Operand.tmp 27) 0, type := 0, pos := "ref.go:52", after := #[{ on := 1, ground := Ground.data }], guard := none }) (v := ?v2) rfl (by kernel_rfl) (by kernel_rfl) (by kernel_rfl) (fun _ _ _ h => h) (Or.inl ⟨by rfl, ?hy2⟩) (by assumption) ?_
      case hy2 => (intro w hSw; (try dsimp only at hSw); go_simp; try (with_reducible rfl))
      try simp only [Act.put, List.setIfInBounds_toArray, List.set_cons_zero, List.set_cons_succ]
      refine wpAnyH_take (i := 3) (oi := { dst := some 29, op := Op.load 35 (Operand.tmp 28), type := 35, pos := "ref.go:52", after := #[{ on := 2, ground := Ground.data }], guard := none }) (v := ?v3) rfl (by kernel_rfl) (by kernel_rfl) (by kernel_rfl) (fun _ _ _ h => h) (Or.inl ⟨by rfl, ?hy3⟩) (by assumption) ?_
      case hy3 => (intro w hSw; (try dsimp only at hSw); go_simp; try (with_reducible rfl))
      try simp only [Act.put, List.setIfInBounds_toArray, List.set_cons_zero, List.set_cons_succ]
      refine wpAnyH_take (i := 4) (oi := { dst := some 30, op := Op.fieldAddr 43 (Operand.tmp 5) 0, type := 0, pos := "ref.go:52", after := #[], guard := none }) (v := ?v4) rfl (by kernel_rfl) (by kernel_rfl) (by kernel_rfl) (fun _ _ _ h => h) (Or.inl ⟨by rfl, ?hy4⟩) (by assumption) ?_
      case hy4 => (intro w hSw; (try dsimp only at hSw); go_simp; try (with_reducible rfl))
      try simp only [Act.put, List.setIfInBounds_toArray, List.set_cons_zero, List.set_cons_succ]
      refine wpAnyH_take (i := 5) (oi := { dst := some 31, op := Op.load 3 (Operand.tmp 30), type := 3, pos := "ref.go:52", after := #[{ on := 4, ground := Ground.data }], guard := none }) (v := ?v5) rfl (by kernel_rfl) (by kernel_rfl) (by kernel_rfl) (fun _ _ _ h => h) (Or.inl ⟨by rfl, ?hy5⟩) (by assumption) ?_
      case hy5 => (intro w hSw; (try dsimp only at hSw); go_simp; try (with_reducible rfl))
      try simp only [Act.put, List.setIfInBounds_toArray, List.set_cons_zero, List.set_cons_succ]
      refine wpAnyH_take (i := 6) (oi := { dst := some 32, op := Op.move (Operand.tmp 0), type := 28, pos := "ref.go:52", after := #[], guard := none }) (v := ?v6) rfl (by kernel_rfl) (by kernel_rfl) (by kernel_rfl) (fun _ _ _ h => h) (Or.inl ⟨by rfl, ?hy6⟩) (by assumption) ?_
      case hy6 => (intro w hSw; (try dsimp only at hSw); go_simp; try (with_reducible rfl))
      try simp only [Act.put, List.setIfInBounds_toArray, List.set_cons_zero, List.set_cons_succ]
      refine wpAnyH_take (i := 7) (oi := { dst := some 33, op := Op.nilCheck (Operand.tmp 32), type := 0, pos := "ref.go:52", after := #[{ on := 6, ground := Ground.data }], guard := none }) (v := ?v7) rfl (by kernel_rfl) (by kernel_rfl) (by kernel_rfl) (fun _ _ _ h => h) (Or.inl ⟨by rfl, ?hy7⟩) (by assumption) ?_
      case hy7 => (intro w hSw; (try dsimp only at hSw); go_simp; try (with_reducible rfl))
      try simp only [Act.put, List.setIfInBounds_toArray, List.set_cons_zero, List.set_cons_succ]
      refine wpAnyH_take (i := 8) (oi := { dst := some 34, op := Op.fieldAddr 38 (Operand.tmp 33) 0, type := 0, pos := "ref.go:52", after := #[{ on := 7, ground := Ground.data }], guard := none }) (v := ?v8) rfl (by kernel_rfl) (by kernel_rfl) (by kernel_rfl) (fun _ _ _ h => h) (Or.inl ⟨by rfl, ?hy8⟩) (by assumption) ?_
      case hy8 => (intro w hSw; (try dsimp only at hSw); go_simp; try (with_reducible rfl))
      try simp only [Act.put, List.setIfInBounds_toArray, List.set_cons_zero, List.set_cons_succ]
      refine wpAnyH_take (i := 9) (oi := { dst := some 35, op := Op.load 35 (Operand.tmp 34), type := 35, pos := "ref.go:52", after := #[{ on := 8, ground := Ground.data }], guard := none }) (v := ?v9) rfl (by kernel_rfl) (by kernel_rfl) (by kernel_rfl) (fun _ _ _ h => h) (Or.inl ⟨by rfl, ?hy9⟩) (by assumption) ?_
      case hy9 => (intro w hSw; (try dsimp only at hSw); go_simp; try (with_reducible rfl))
      try simp only [Act.put, List.setIfInBounds_toArray, List.set_cons_zero, List.set_cons_succ]
      refine wpAnyH_take (i := 10) (oi := { dst := some 36, op := Op.fieldAddr 43 (Operand.tmp 5) 0, type := 0, pos := "ref.go:52", after := #[], guard := none }) (v := ?v10) rfl (by kernel_rfl) (by kernel_rfl) (by kernel_rfl) (fun _ _ _ h => h) (Or.inl ⟨by rfl, ?hy10⟩) (by assumption) ?_
      case hy10 => (intro w hSw; (try dsimp only at hSw); go_simp; try (with_reducible rfl))
      try simp only [Act.put, List.setIfInBounds_toArray, List.set_cons_zero, List.set_cons_succ]
      refine wpAnyH_take (i := 11) (oi := { dst := some 37, op := Op.load 3 (Operand.tmp 36), type := 3, pos := "ref.go:52", after := #[{ on := 10, ground := Ground.data }], guard := none }) (v := ?v11) rfl (by kernel_rfl) (by kernel_rfl) (by kernel_rfl) (fun _ _ _ h => h) (Or.inl ⟨by rfl, ?hy11⟩) (by assumption) ?_
      case hy11 => (intro w hSw; (try dsimp only at hSw); go_simp; try (with_reducible rfl))
      try simp only [Act.put, List.setIfInBounds_toArray, List.set_cons_zero, List.set_cons_succ]
      refine wpAnyH_take (i := 12) (oi := { dst := some 38, op := Op.indexAddr 35 (Operand.tmp 35) (Operand.tmp 37), type := 0, pos := "ref.go:52", after := #[{ on := 9, ground := Ground.data }, { on := 11, ground := Ground.data }], guard := none }) (v := ?v12) rfl (by kernel_rfl) (by kernel_rfl) (by kernel_rfl) (fun _ _ _ h => h) (Or.inl ⟨by rfl, ?hy12⟩) (by assumption) ?_
      case hy12 => (intro w hSw; (try dsimp only at hSw); go_simp; try (with_reducible rfl))
      try simp only [Act.put, List.setIfInBounds_toArray, List.set_cons_zero, List.set_cons_succ]
      refine wpAnyH_take (i := 14) (oi := { dst := some 40, op := Op.fieldAddr 43 (Operand.tmp 5) 1, type := 0, pos := "ref.go:52", after := #[], guard := none }) (v := ?v14) rfl (by kernel_rfl) (by kernel_rfl) (by kernel_rfl) (fun _ _ _ h => h) (Or.inl ⟨by rfl, ?hy14⟩) (by assumption) ?_
      case hy14 => (intro w hSw; (try dsimp only at hSw); go_simp; try (with_reducible rfl))
      try simp only [Act.put, List.setIfInBounds_toArray, List.set_cons_zero, List.set_cons_succ]
      refine wpAnyH_take (i := 15) (oi := { dst := some 41, op := Op.load 9 (Operand.tmp 40), type := 9, pos := "ref.go:52", after := #[{ on := 14, ground := Ground.data }], guard := none }) (v := ?v15) rfl (by kernel_rfl) (by kernel_rfl) (by kernel_rfl) (fun _ _ _ h => h) (Or.inl ⟨by rfl, ?hy15⟩) (by assumption) ?_
      case hy15 => (intro w hSw; (try dsimp only at hSw); go_simp; try (with_reducible rfl))
      try simp only [Act.put, List.setIfInBounds_toArray, List.set_cons_zero, List.set_cons_succ]
      refine wpAnyH_take (i := 16) (oi := { dst := some 42, op := Op.move (Operand.tmp 1), type := 2, pos := "ref.go:52", after := #[], guard := none }) (v := ?v16) rfl (by kernel_rfl) (by kernel_rfl) (by kernel_rfl) (fun _ _ _ h => h) (Or.inl ⟨by rfl, ?hy16⟩) (by assumption) ?_
      case hy16 => (intro w hSw; (try dsimp only at hSw); go_simp; try (with_reducible rfl))
      try simp only [Act.put, List.setIfInBounds_toArray, List.set_cons_zero, List.set_cons_succ]
      refine wpAnyH_take (i := 17) (oi := { dst := some 43, op := Op.move (Operand.tmp 4), type := 3, pos := "ref.go:52", after := #[], guard := none }) (v := ?v17) rfl (by kernel_rfl) (by kernel_rfl) (by kernel_rfl) (fun _ _ _ h => h) (Or.inl ⟨by rfl, ?hy17⟩) (by assumption) ?_
      case hy17 => (intro w hSw; (try dsimp only at hSw); go_simp; try (with_reducible rfl))
      try simp only [Act.put, List.setIfInBounds_toArray, List.set_cons_zero, List.set_cons_succ]
      refine wpAnyH_take (i := 18) (oi := { dst := some 44, op := Op.binOp BinOp.mul 3 (Operand.const (Value.int IntKind.i64 2)) (Operand.tmp 43) 3, type := 3, pos := "ref.go:52", after := #[{ on := 17, ground := Ground.data }], guard := none }) (v := ?v18) rfl (by kernel_rfl) (by kernel_rfl) (by kernel_rfl) (fun _ _ _ h => h) (Or.inl ⟨by rfl, ?hy18⟩) (by assumption) ?_
      case hy18 => (intro w hSw; (try dsimp only at hSw); go_simp; try (with_reducible rfl))
      try simp only [Act.put, List.setIfInBounds_toArray, List.set_cons_zero, List.set_cons_succ]
      refine wpAnyH_take (i := 19) (oi := { dst := some 45, op := Op.binOp BinOp.shr 2 (Operand.tmp 42) (Operand.tmp 44) 3, type := 2, pos := "ref.go:52", after := #[{ on := 16, ground := Ground.data }, { on := 18, ground := Ground.data }], guard := none }) (v := ?v19) rfl (by kernel_rfl) (by kernel_rfl) (by kernel_rfl) (fun _ _ _ h => h) (Or.inl ⟨by rfl, ?hy19⟩) (by assumption) ?_
      case hy19 => (intro w hSw; (try dsimp only at hSw); go_simp; try (with_reducible rfl))
      try simp only [Act.put, List.setIfInBounds_toArray, List.set_cons_zero, List.set_cons_succ]
      refine wpAnyH_take (i := 20) (oi := { dst := some 46, op := Op.binOp BinOp.and 2 (Operand.tmp 45) (Operand.const (Value.int IntKind.i64 3)) 2, type := 2, pos := "ref.go:52", after := #[{ on := 19, ground := Ground.data }], guard := none }) (v := ?v20) rfl (by kernel_rfl) (by kernel_rfl) (by kernel_rfl) (fun _ _ _ h => h) (Or.inl ⟨by rfl, ?hy20⟩) (by assumption) ?_
      case hy20 => (intro w hSw; (try dsimp only at hSw); go_simp; try (with_reducible rfl))
      try simp only [Act.put, List.setIfInBounds_toArray, List.set_cons_zero, List.set_cons_succ]
      refine wpAnyH_ready (rs := [13]) (by kernel_rfl) (by simp) ?_
      refine AllReadyH.cons (o := { dst := some 39, op := Op.load 9 (Operand.tmp 38), type := 9, pos := "ref.go:52", after := #[{ on := 12, ground := Ground.data }], guard := none }) rfl (fun K hK => ?_) AllReadyH.nil
      go_simp
      refine hK.out _ _ ?_ (fun hHeld1 => ?_)
      · exact ⟨x0, x1, x2⟩
      clear hK K
      try simp only [Act.put, List.setIfInBounds_toArray, List.set_cons_zero, List.set_cons_succ]
      refine wpAnyH_ready (rs := [21]) (by kernel_rfl) (by simp) ?_
      refine AllReadyH.cons (o := { dst := some 47, op := Op.call { callee := Callee.value (Operand.func 44), args := #[Operand.tmp 39, Operand.tmp 41, Operand.tmp 46], argTypes := #[9, 9, 2] }, type := 9, pos := "ref.go:52", after := #[{ on := 13, ground := Ground.data }, { on := 15, ground := Ground.data }, { on := 20, ground := Ground.data }], guard := none }) rfl (fun K hK => ?_) AllReadyH.nil
      go_simp
      refine (unhide KT _).mono ?_
      rintro e z1 ⟨rfl, b1⟩
      obtain ⟨⟨v0, v1, v2⟩, v3, v4, v5, v6, v7, v8⟩ := unhide HC z1 (bw_tr (bw_drew _) b1)
      go_wp2_with fail
      refine hK.out _ _ ?_ (fun hHeld2 => ?_)
      · exact ⟨v0, v1, v2⟩
      clear hK K
      try simp only [Act.put, List.setIfInBounds_toArray, List.set_cons_zero, List.set_cons_succ]
      refine wpAnyH_take (i := 22) (oi := { dst := some 48, op := Op.indexAddr 35 (Operand.tmp 29) (Operand.tmp 31), type := 0, pos := "ref.go:52", after := #[{ on := 3, ground := Ground.data }, { on := 5, ground := Ground.data }, { on := 0, ground := Ground.phase }, { on := 1, ground := Ground.phase }, { on := 2, ground := Ground.phase }, { on := 3, ground := Ground.phase }, { on := 4, ground := Ground.phase }, { on := 5, ground := Ground.phase }, { on := 6, ground := Ground.phase }, { on := 7, ground := Ground.phase }, { on := 8, ground := Ground.phase }, { on := 9, ground := Ground.phase }, { on := 10, ground := Ground.phase }, { on := 11, ground := Ground.phase }, { on := 12, ground := Ground.phase }, { on := 13, ground := Ground.phase }, { on := 14, ground := Ground.phase }, { on := 15, ground := Ground.phase }, { on := 16, ground := Ground.phase }, { on := 17, ground := Ground.phase }, { on := 18, ground := Ground.phase }, { on := 19, ground := Ground.phase }, { on := 20, ground := Ground.phase }, { on := 21, ground := Ground.phase }], guard := none }) (v := ?v22) rfl (by kernel_rfl) (by kernel_rfl) (by kernel_rfl) (fun _ _ _ h => h) (Or.inl ⟨by rfl, ?hy22⟩) (by assumption) ?_
      case hy22 => (intro w hSw; (try dsimp only at hSw); go_simp; try (with_reducible rfl))
      try simp only [Act.put, List.setIfInBounds_toArray, List.set_cons_zero, List.set_cons_succ]
      refine wpAnyH_ready (rs := [23]) (by kernel_rfl) (by simp) ?_
      refine AllReadyH.cons (o := { dst := none, op := Op.store 9 (Operand.tmp 48) (Operand.tmp 47), type := 0, pos := "ref.go:52", after := #[{ on := 22, ground := Ground.data }, { on := 21, ground := Ground.data }, { on := 21, ground := Ground.chain }, { on := 0, ground := Ground.phase }, { on := 1, ground := Ground.phase }, { on := 2, ground := Ground.phase }, { on := 3, ground := Ground.phase }, { on := 4, ground := Ground.phase }, { on := 5, ground := Ground.phase }, { on := 6, ground := Ground.phase }, { on := 7, ground := Ground.phase }, { on := 8, ground := Ground.phase }, { on := 9, ground := Ground.phase }, { on := 10, ground := Ground.phase }, { on := 11, ground := Ground.phase }, { on := 12, ground := Ground.phase }, { on := 13, ground := Ground.phase }, { on := 14, ground := Ground.phase }, { on := 15, ground := Ground.phase }, { on := 16, ground := Ground.phase }, { on := 17, ground := Ground.phase }, { on := 18, ground := Ground.phase }, { on := 19, ground := Ground.phase }, { on := 20, ground := Ground.phase }, { on := 21, ground := Ground.phase }], guard := none }) rfl (fun K hK => ?_) AllReadyH.nil
      go_simp
      refine hK.out _ _ ?_ (fun hHeld3 => ?_)
      · exact ⟨v5, v6, v7⟩
      clear hK K
      try simp only [Act.put, List.setIfInBounds_toArray, List.set_cons_zero, List.set_cons_succ]
      refine wpAnyH_done (by kernel_rfl) ?_ _
      refine NoPanic.normal ?_
      all_goals
        have HE := hide v8
        clear v8 v0 v1 v2 v3 v4 v5 v6 v7 KT HC
        go_wp2_with fail
        go_roundw
        case rel => exact ⟨i + 1, by have := unhide HI; omega, by go_num, HE⟩
        case measure => have := unhide HI; simp only [intOf]; omega
    · obtain rfl : m = i := by omega
      have e1 : ((S.since.take 31).take m) = S.since.take 31 := List.take_of_length_le (by have := (unhide HM).2.1; omega)
      have HE := HR
      rw [e1] at HE
      have f1 : wr.frozen? ⟨p, 1, none⟩ = false := by simp [World.frozen?, hb]
      obtain ⟨cv2, c2⟩ : ∃ v, wr.cell? ⟨p, 2, none⟩ = some v := ⟨_, by simp only [World.cell?, hb]; rfl⟩
      obtain ⟨cv3, c3⟩ : ∃ v, wr.cell? ⟨p, 3, none⟩ = some v := ⟨_, by simp only [World.cell?, hb]; rfl⟩
      have f2 : wr.frozen? ⟨p, 2, none⟩ = false := by simp [World.frozen?, hb]
      have f3 : wr.frozen? ⟨p, 3, none⟩ = false := by simp [World.frozen?, hb]
      have HS : Hid (Stp w (((wr.setCell ⟨p, 1, none⟩ (.slice none 0 0)).setCell ⟨p, 2, none⟩ (.bool true)).setCell ⟨p, 3, none⟩ (.int .i64 (-1))) p (S.fall bits) (rfoot p dv sv)) := by
        have hb3 := set_blk (j := 3) (v := .int .i64 (-1)) (set_blk (j := 2) (v := .bool true) (set_blk (j := 1) (v := .slice none 0 0) hb))
        have ho : ∀ k, k ≠ p → (((wr.setCell ⟨p, 1, none⟩ (.slice none 0 0)).setCell ⟨p, 2, none⟩ (.bool true)).setCell ⟨p, 3, none⟩ (.int .i64 (-1))).heap[k]? = wr.heap[k]? := fun k hk => ((set_other hk).trans (set_other hk)).trans (set_other hk)
        have hgm : g ∈ rfoot p dv sv := mem_rfoot.2 (Or.inr (Or.inl (unhide HG).2))
        have hpm : p ∈ rfoot p dv sv := mem_rfoot.2 (Or.inl rfl)
        refine ⟨rfoot p dv (.slice none 0 0), ⟨dv, .slice none 0 0, bt, rfl, ⟨?_, ?_, ?_, (fun n b c => by cases c), (unhide H).ok.fall bits, (fun _ => rfl)⟩⟩, ?_, ?_⟩
        · rw [hb3, (unhide HD).1]; rfl
        · have := (unhide HE).1
          refine own_keep (w := wr) ?_ (fun k hk => ho k (fun c => (unhide HG).1 (by have := (unhide HG).2; rw [hk] at this; cases this; exact c)))
          show SRow wr dv _
          rw [(unhide HNe).1] at this
          exact this
        · exact World.ownsRow_nil _ _ _ _
        · refine ((unhide HE).2.mono (fun x _ hx => by simp at hx; subst hx; exact hgm)).tr ?_
          exact ((Fr.set1 hpm _ _).tr (Fr.set1 hpm _ _)).tr (Fr.set1 hpm _ _)
        · intro x hx
          rcases mem_rfoot.1 hx with rfl | hx | hx
          · exact Or.inl hpm
          · exact Or.inl (mem_rfoot.2 (Or.inr (Or.inl hx)))
          · simp [Value.ownBlock] at hx
      have hcase : (¬ ((m : Int) < (n : Int))) ∨ ((m : Int) < (n : Int) ∧ ¬ ((m : Int) < 31)) := by have := (unhide HM).2.2; omega
      clear hb HR HE e1
      rcases hcase with g1 | ⟨g1, g2⟩
      · go_wp2_with fail
        go_end0
        exact ⟨rfl, unhide HS⟩
      · go_wp2_with fail
        go_end0
        exact ⟨rfl, unhide HS⟩

end Go.Proofs.Ytimhjheigejjmaa
