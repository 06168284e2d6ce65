/- Texts joined: BgCommit BgLog. -/
import Derived.Test.YtnfhbmlmemifjaaGreatDoorZ13
import Derived.Test.YtnfhbmlmemifjaaGreatDoorZ17
import Derived.Deep.RegionLaw
/- Commits as a kind of a Book: fill, grow, look, keep. mkBg.py writes it. -/
namespace Go.Proofs.YtnfhbmlmemifjaaGreatDoor
open Go.RowKit Go.Maps
def kgCommit : Kg where
  k := ⟨34, 264, 15⟩
  m := fun n => [.int .i64 0, .int .i64 (mkI n), .int .i64 0, .int .i64 0, .int .i64 0, .bool false, .slice none 0 0, .slice none 0 0, .slice none 0 0, .slice none 0 0, .int .i64 0, .int .i64 0, .slice none 0 0, .int .i64 0, .int .i64 0]
  len := fun _ => rfl
  one := fun n u hu => by
    simp only [List.mem_cons, List.not_mem_nil, or_false] at hu
    rcases hu with rfl | rfl | rfl | rfl | rfl | rfl | rfl | rfl | rfl | rfl | rfl | rfl | rfl | rfl | rfl <;> rfl
  ne := by decide
  pos := by decide
theorem bginfoCommit : (Tryz.prog.info? 34).map (fun i => (i.zero, i.size, i.bytes)) = some (some (.agg #[.int .i64 0, .int .i64 0, .int .i64 0, .int .i64 0, .int .i64 0, .bool false, .slice none 0 0, .slice none 0 0, .slice none 0 0, .slice none 0 0, .int .i64 0, .int .i64 0, .slice none 0 0, .int .i64 0, .int .i64 0]), 15, 200) := by kernel_rfl
theorem bgsizeCommit : (Tryz.prog.info? 34).map (·.size) = some 15 := by kernel_rfl
theorem markCommit_b (n : Nat) (w : World) (h : n ≤ 1150000) : Calls Tryz.prog 215 #[.int .i64 (n : Int)] w fun e w' => e = .returned (.agg (kgCommit.m n).toArray) ∧ Below w.heap.size w w' := markCommit_any n w (by omega)
theorem isCommit_b (n : Nat) (w : World) (h : n ≤ 1150000) : Calls Tryz.prog 247 #[.agg (kgCommit.m n).toArray, .int .i64 (n : Int)] w fun e w' => e = .returned (.bool true) ∧ Below w.heap.size w w' := isCommit_any n w (by omega)
set_option maxRecDepth 100000 in
set_option maxHeartbeats 4000000 in
theorem fillCommit_b (B b : Nat) (cnt : Int) (F : Nat → Value) (es : List Ent) (X : Nat → List Value) (w : World) (hb : w.heap[b]? = some (.cells (bookF cnt F) 81 (0, 0))) (h : Ke kgCommit.k B w (F 21) es X) (hB : B ≤ w.heap.size) (hN : es.length ≤ 1150000) (hes : ∀ x ∈ es, x.n ≤ 1150000 ∧ x.m ≤ 1150000) :
    Calls Tryz.prog 77 #[.pointer (some ⟨b, 0, none⟩)] w fun e w' => e = .returned (.tuple #[]) ∧ (∃ X', Ke kgCommit.k B w' (F 21) es X' ∧ kgCommit.Mkd es X') ∧ Tf [34] B w w' := by
  have c2 := book_cell hb (k := 21) (by decide) (by decide)
  obtain ⟨a, cap, hF⟩ := h.form
  rw [hF] at c2 h ⊢
  have HC : Hid (∀ w', Tf [34] B w w' → w'.cell? ⟨b, 21, none⟩ = some (.slice a es.length cap)) := fun w' ht => by
    have := book_cell (ht.blk hb (by decide)) (k := 21) (by decide) (by decide)
    rw [hF] at this; exact this
  have S0 : Hid (FSt kgCommit B w a es.length cap es 0 w) := FSt.start h
  have HE : Hid (B ≤ w.heap.size ∧ ∀ x ∈ es, x.n ≤ 1150000 ∧ x.m ≤ 1150000) := ⟨hB, hes⟩
  have HD : Hid (∀ wr, FSt kgCommit B w a es.length cap es es.length wr → (∃ X', Ke kgCommit.k B wr (.slice a es.length cap) es X' ∧ kgCommit.Mkd es X') ∧ Tf [34] B w wr) := fun wr h => h.done
  have hNI : ((es.length : Nat) : Int) ≤ 1150000 := by omega
  clear hF h hes hb hN hB
  obtain ⟨N, hN⟩ : ∃ N, N = es.length := ⟨_, rfl⟩
  rw [← hN] at c2 HC S0 HD hNI ⊢
  have HN := hide hN
  clear hN
  go_enter Tryz.func77, Tryz.ntmps77
  go_wp2_with fail
  go_loopw [10] (fun iv wr => ∃ i : Nat, iv = .int .i64 (i : Int) ∧ i ≤ N ∧ Hid (FSt kgCommit B w a N cap es i wr)) (fun iv _ => (N - intOf iv).toNat)
  case atStart => exact ⟨0, rfl, by omega, S0⟩
  case round =>
    clear S0
    obtain ⟨i, rfl, hi, hst⟩ := hrel
    by_cases hin : i < N
    · obtain ⟨g, p, M, cp, n, rfl, hx, d1, d2, hs⟩ := (unhide hst).in (by rw [← unhide HN]; exact hin)
      obtain ⟨hn, hM⟩ := (unhide HE).2 _ (List.mem_of_getElem? hx)
      dsimp only at hn hM
      have e2 := unhide HC wr (unhide hst).tf
      have hiN : (i : Int) < (N : Int) := by omega
      have hi0 : (0 : Int) ≤ (i : Int) := by omega
      have hMI : ((M : Nat) : Int) ≤ 1150000 := by omega
      have HX := hide hx
      have HS : Hid (FSr kgCommit B w g N cap es i n 0 wr) := hs
      have HK := hide (fun w' => markCommit_b n w' hn)
      clear hx hs hst hn hM
      go_wp2_with fail
      go_loopw [24] (fun kv wq => ∃ k : Nat, kv = .int .i64 (k : Int) ∧ k ≤ M ∧ Hid (FSr kgCommit B w g N cap es i n k wq)) (fun kv _ => (M - intOf kv).toNat)
      case atStart => exact ⟨0, rfl, by omega, HS⟩
      case round =>
        clear HS d1 d2 e2
        obtain ⟨k, rfl, hk, hsq⟩ := hrel
        by_cases hkM : k < M
        · obtain ⟨gv, rfl, HA0⟩ := (unhide hsq).at (unhide HE).1 (unhide HX) hkM
          obtain ⟨CS, hCS⟩ : ∃ C, C = (kgCommit.m n).toArray := ⟨_, rfl⟩
          have HCS : Hid (CS.all (·.oneCell') = true ∧ CS.size = 15) := by rw [hCS]; exact ⟨kgCommit.all n, rfl⟩
          have HA : Hid (∀ z1, Below wr.heap.size wr z1 → z1.cell? ⟨g, i * 2, none⟩ = some (.slice (some ⟨gv, 0, none⟩) M cp) ∧ z1.cell? ⟨g, i * 2 + 1, none⟩ = some (.int .i64 (n : Int)) ∧ z1.there gv (k * 15) CS.size ∧ FSr kgCommit B w g N cap es i n (k + 1) (z1.setCells gv (k * 15) CS.toList) ∧ (z1.setCells gv (k * 15) CS.toList).cell? ⟨g, i * 2, none⟩ = some (.slice (some ⟨gv, 0, none⟩) M cp) ∧ (z1.setCells gv (k * 15) CS.toList).cell? ⟨g, i * 2 + 1, none⟩ = some (.int .i64 (n : Int))) := by rw [hCS]; exact HA0
          have HK2 : Hid (∀ w', Calls Tryz.prog 215 #[.int .i64 (n : Int)] w' fun e w'' => e = .returned (.agg CS) ∧ Below w'.heap.size w' w'') := by rw [hCS]; exact unhide HK
          have bA : Below wr.heap.size wr wr.drew := (Below.refl _ _).drew
          have S0 : Hid (wr.drew.cell? ⟨g, i * 2, none⟩ = some (.slice (some ⟨gv, 0, none⟩) M cp) ∧ wr.drew.cell? ⟨g, i * 2 + 1, none⟩ = some (.int .i64 (n : Int))) := ⟨(unhide HA _ bA).1, (unhide HA _ bA).2.1⟩
          have e2 := unhide HC wr (unhide hsq).tf
          have hkM' : (k : Int) < (M : Int) := by omega
          have hk0 : (0 : Int) ≤ (k : Int) := by omega
          have HBA := hide bA
          clear HA0 hCS hsq bA
          go_wp2_with fail
          refine wp_region_held_drew (S := fun w' : World => w'.cell? ⟨g, i * 2, none⟩ = some (.slice (some ⟨gv, 0, none⟩) M cp) ∧ w'.cell? ⟨g, i * 2 + 1, none⟩ = some (.int .i64 (n : Int))) (by kernel_rfl) (unhide S0) (fun hHeld => ?_)
          refine wpAnyH_take (i := 0) (oi := { dst := some 27, op := Op.move (Operand.tmp 3), type := 262, pos := "book.go:891", after := #[], guard := none }) (v := .pointer (some ⟨g, i * 2, none⟩)) rfl (by kernel_rfl) (by kernel_rfl) (by kernel_rfl) (fun _ _ _ h => h) (Or.inl ⟨by rfl, fun w hSw => by (try dsimp only at hSw); go_simp⟩) (by exact hHeld) ?_
          try simp only [Act.put, List.setIfInBounds_toArray, List.set_cons_zero, List.set_cons_succ]
          refine wpAnyH_take (i := 4) (oi := { dst := some 31, op := Op.move (Operand.tmp 4), type := 3, pos := "book.go:891", after := #[], guard := none }) (v := .int .i64 (k : Int)) rfl (by kernel_rfl) (by kernel_rfl) (by kernel_rfl) (fun _ _ _ h => h) (Or.inl ⟨by rfl, fun w hSw => by (try dsimp only at hSw); go_simp⟩) (by exact hHeld) ?_
          try simp only [Act.put, List.setIfInBounds_toArray, List.set_cons_zero, List.set_cons_succ]
          refine wpAnyH_take (i := 5) (oi := { dst := some 32, op := Op.move (Operand.tmp 3), type := 262, pos := "book.go:891", after := #[], guard := none }) (v := .pointer (some ⟨g, i * 2, none⟩)) rfl (by kernel_rfl) (by kernel_rfl) (by kernel_rfl) (fun _ _ _ h => h) (Or.inl ⟨by rfl, fun w hSw => by (try dsimp only at hSw); go_simp⟩) (by exact hHeld) ?_
          try simp only [Act.put, List.setIfInBounds_toArray, List.set_cons_zero, List.set_cons_succ]
          refine wpAnyH_take (i := 1) (oi := { dst := some 28, op := Op.nilCheck (Operand.tmp 27), type := 0, pos := "book.go:891", after := #[{ on := 0, ground := Ground.data }], guard := none }) (v := .pointer (some ⟨g, i * 2, none⟩)) rfl (by kernel_rfl) (by kernel_rfl) (by kernel_rfl) (fun _ _ _ h => h) (Or.inl ⟨by rfl, fun w hSw => by (try dsimp only at hSw); go_simp⟩) (by exact hHeld) ?_
          try simp only [Act.put, List.setIfInBounds_toArray, List.set_cons_zero, List.set_cons_succ]
          refine wpAnyH_take (i := 6) (oi := { dst := some 33, op := Op.nilCheck (Operand.tmp 32), type := 0, pos := "book.go:891", after := #[{ on := 5, ground := Ground.data }], guard := none }) (v := .pointer (some ⟨g, i * 2, none⟩)) rfl (by kernel_rfl) (by kernel_rfl) (by kernel_rfl) (fun _ _ _ h => h) (Or.inl ⟨by rfl, fun w hSw => by (try dsimp only at hSw); go_simp⟩) (by exact hHeld) ?_
          try simp only [Act.put, List.setIfInBounds_toArray, List.set_cons_zero, List.set_cons_succ]
          refine wpAnyH_take (i := 2) (oi := { dst := some 29, op := Op.fieldAddr 264 (Operand.tmp 28) 0, type := 0, pos := "book.go:891", after := #[{ on := 1, ground := Ground.data }], guard := none }) (v := .pointer (some ⟨g, i * 2, none⟩)) rfl (by kernel_rfl) (by kernel_rfl) (by kernel_rfl) (fun _ _ _ h => h) (Or.inl ⟨by rfl, fun w hSw => by (try dsimp only at hSw); go_simp⟩) (by exact hHeld) ?_
          try simp only [Act.put, List.setIfInBounds_toArray, List.set_cons_zero, List.set_cons_succ]
          refine wpAnyH_take (i := 7) (oi := { dst := some 34, op := Op.fieldAddr 264 (Operand.tmp 33) 1, type := 0, pos := "book.go:891", after := #[{ on := 6, ground := Ground.data }], guard := none }) (v := .pointer (some ⟨g, i * 2 + 1, none⟩)) rfl (by kernel_rfl) (by kernel_rfl) (by kernel_rfl) (fun _ _ _ h => h) (Or.inl ⟨by rfl, fun w hSw => by (try dsimp only at hSw); go_simp⟩) (by exact hHeld) ?_
          try simp only [Act.put, List.setIfInBounds_toArray, List.set_cons_zero, List.set_cons_succ]
          refine wpAnyH_take (i := 3) (oi := { dst := some 30, op := Op.load 93 (Operand.tmp 29), type := 93, pos := "book.go:891", after := #[{ on := 2, ground := Ground.data }], guard := none }) (v := .slice (some ⟨gv, 0, none⟩) M cp) rfl (by kernel_rfl) (by kernel_rfl) (by kernel_rfl) (fun _ _ _ h => h) (Or.inl ⟨by rfl, fun w hSw => by (try dsimp only at hSw); go_simp⟩) (by exact hHeld) ?_
          try simp only [Act.put, List.setIfInBounds_toArray, List.set_cons_zero, List.set_cons_succ]
          refine wpAnyH_take (i := 8) (oi := { dst := some 35, op := Op.load 3 (Operand.tmp 34), type := 3, pos := "book.go:891", after := #[{ on := 7, ground := Ground.data }], guard := none }) (v := .int .i64 (n : Int)) rfl (by kernel_rfl) (by kernel_rfl) (by kernel_rfl) (fun _ _ _ h => h) (Or.inl ⟨by rfl, fun w hSw => by (try dsimp only at hSw); go_simp⟩) (by exact hHeld) ?_
          try simp only [Act.put, List.setIfInBounds_toArray, List.set_cons_zero, List.set_cons_succ]
          refine wpAnyH_ready (rs := [9]) (by kernel_rfl) (by simp) ?_
          refine (AllReadyH.cons (o := { dst := some 36, op := Op.call { callee := Callee.value (Operand.func 215), args := #[Operand.tmp 35], argTypes := #[3] }, type := 34, pos := "book.go:891", after := #[{ on := 8, ground := Ground.data }], guard := none }) rfl (fun K hK => ?_) AllReadyH.nil)
          go_simp
          go_at_call 215
          refine (unhide HK2 _).mono ?_
          rintro e z1 ⟨rfl, b1⟩
          have X1 := hide (unhide HA _ (bw_tr (unhide HBA) b1))
          have S1 := And.intro (unhide X1).1 (unhide X1).2.1
          go_wp2_with fail
          refine hK.out _ _ S1 (fun _ => ?_)
          clear hK K
          try simp only [Act.put, List.setIfInBounds_toArray, List.set_cons_zero, List.set_cons_succ]
          refine wpAnyH_take (i := 10) (oi := { dst := some 37, op := Op.indexAddr 93 (Operand.tmp 30) (Operand.tmp 31), type := 0, pos := "book.go:891", after := #[{ on := 3, ground := Ground.data }, { on := 4, ground := Ground.data }, { on := 0, ground := Ground.phase }, { on := 1, ground := Ground.phase }, { on := 2, ground := Ground.phase }, { on := 3, ground := Ground.phase }, { on := 4, ground := Ground.phase }, { on := 5, ground := Ground.phase }, { on := 6, ground := Ground.phase }, { on := 7, ground := Ground.phase }, { on := 8, ground := Ground.phase }, { on := 9, ground := Ground.phase }], guard := none }) (v := .pointer (some ⟨gv, k * 15, none⟩)) rfl (by kernel_rfl) (by kernel_rfl) (by kernel_rfl) (fun _ _ _ h => h) (Or.inl ⟨by rfl, fun w hSw => by (try dsimp only at hSw); go_simp⟩) (by exact S1) ?_
          try simp only [Act.put, List.setIfInBounds_toArray, List.set_cons_zero, List.set_cons_succ]
          refine wpAnyH_ready (rs := [11]) (by kernel_rfl) (by simp) ?_
          refine (AllReadyH.cons (o := { dst := none, op := Op.store 34 (Operand.tmp 37) (Operand.tmp 36), type := 0, pos := "book.go:891", after := #[{ on := 10, ground := Ground.data }, { on := 9, ground := Ground.data }, { on := 9, ground := Ground.chain }, { on := 0, ground := Ground.phase }, { on := 1, ground := Ground.phase }, { on := 2, ground := Ground.phase }, { on := 3, ground := Ground.phase }, { on := 4, ground := Ground.phase }, { on := 5, ground := Ground.phase }, { on := 6, ground := Ground.phase }, { on := 7, ground := Ground.phase }, { on := 8, ground := Ground.phase }, { on := 9, ground := Ground.phase }], guard := none }) rfl (fun K hK => ?_) AllReadyH.nil)
          refine bg_store rfl 34 (.tmp 37) (.tmp 36) rfl gv (k * 15) CS (by first | rfl | simp [Act.eval, Act.put]) (by first | rfl | simp [Act.eval, Act.put]) (unhide X1).2.2.1 (by rw [(unhide HCS).2]; exact bgsizeCommit) (unhide HCS).1 ?_
          refine hK.out _ _ (unhide X1).2.2.2.2 (fun _ => ?_)
          clear hK K
          try simp only [Act.put]
          refine wpAnyH_done (by kernel_rfl) ?_ _
          have HZ := hide (unhide X1).2.2.2.1
          go_wp2_with fail
          go_roundw
          case rel => exact ⟨k + 1, by go_num, by omega, HZ⟩
          case measure => simp only [intOf]; omega
        · obtain rfl : k = M := by omega
          have HX3 : Hid (FSt kgCommit B w (some ⟨g, 0, none⟩) N cap es (i + 1) wr) := (unhide hsq).out (unhide HX)
          clear hsq
          go_wp2_with fail
          go_roundw
          case rel => exact ⟨i + 1, by go_num, by omega, HX3⟩
          case measure => simp only [intOf]; omega
    · obtain rfl : i = N := by omega
      go_wp2_with fail
      go_end0
      exact ⟨rfl, unhide HD wr (unhide hst)⟩
set_option maxRecDepth 100000 in
set_option maxHeartbeats 4000000 in
theorem growCommit_b (B b : Nat) (cnt : Int) (F : Nat → Value) (es : List Ent) (X : Nat → List Value) (w : World) (hb : w.heap[b]? = some (.cells (bookF cnt F) 81 (0, 0))) (h : Ke kgCommit.k B w (F 21) es X) (hB : B ≤ w.heap.size) (hN : es.length ≤ 1150000) (hes : ∀ x ∈ es, x.n ≤ 1150000 ∧ x.m ≤ 1150000) (hmk : kgCommit.Mkd es X) :
    Calls Tryz.prog 110 #[.pointer (some ⟨b, 0, none⟩)] w fun e w' => e = .returned (.tuple #[]) ∧ (∃ es' X', Ke kgCommit.k B w' (F 21) es' X' ∧ es'.length = es.length ∧ (∀ x ∈ es', x.n ≤ 1150000 ∧ x.m ≤ 1150003) ∧ kgCommit.Mkd es' X') ∧ Tf [34, 264] B w w' := by
  obtain ⟨i0, hi0, hz0, hz1, hz2⟩ := info_parts bginfoCommit
  have c2 := book_cell hb (k := 21) (by decide) (by decide)
  obtain ⟨a, cap, hF⟩ := h.form
  rw [hF] at c2 h ⊢
  have HC : Hid (∀ w', Tf [34, 264] B w w' → w'.cell? ⟨b, 21, none⟩ = some (.slice a es.length cap)) := fun w' ht => by
    have := book_cell (ht.blk hb (by decide)) (k := 21) (by decide) (by decide)
    rw [hF] at this; exact this
  have S0 : Hid (GSt kgCommit B w a es.length cap 0 0 w) := GSt.start h hmk hes
  have HBw := hide hB
  have hNI : ((es.length : Nat) : Int) ≤ 1150000 := by omega
  clear hF h hes hb hN hmk hB
  generalize es.length = N at *
  go_enter Tryz.func110, Tryz.ntmps110
  go_wp2_with fail
  go_loopw [10] (fun iv wr => ∃ i : Nat, iv = .int .i64 (i : Int) ∧ i ≤ N ∧ Hid (GSt kgCommit B w a N cap i 0 wr)) (fun iv _ => (N - intOf iv).toNat)
  case atStart => exact ⟨0, rfl, by omega, S0⟩
  case round =>
    clear S0
    obtain ⟨i, rfl, hi, hst⟩ := hrel
    by_cases hin : i < N
    · have e2 := unhide HC wr (unhide hst).tf
      obtain ⟨g, rfl⟩ := (unhide hst).ptr hin
      have hiN : (i : Int) < (N : Int) := by omega
      have hi0' : (0 : Int) ≤ (i : Int) := by omega
      go_wp2_with fail
      go_loopw [4] (fun kv wq => ∃ k : Nat, kv = .int .i64 (k : Int) ∧ k ≤ 3 ∧ Hid (GSt kgCommit B w (some ⟨g, 0, none⟩) N cap i k wq)) (fun kv _ => (3 - intOf kv).toNat)
      case atStart => exact ⟨0, rfl, by omega, hst⟩
      case round =>
        clear hst e2
        obtain ⟨k, rfl, hk, hsq⟩ := hrel
        by_cases hk3 : k < 3
        · obtain ⟨p, xm, cp, n, xs, hn, hm, -, HA0, HG0⟩ := (unhide hsq).at (unhide HBw) hin hk3
          have HCS : Hid ((∀ u ∈ ([.int .i64 0, .int .i64 (mkI n), .int .i64 0, .int .i64 0, .int .i64 0, .bool false, .slice none 0 0, .slice none 0 0, .slice none 0 0, .slice none 0 0, .int .i64 0, .int .i64 0, .slice none 0 0, .int .i64 0, .int .i64 0] : List Value), u.oneCell' = true) ∧ xm + 1 ≤ maxLen ∧ (xm + 1) * 200 ≤ 140737488355328) := ⟨kgCommit.one n, by unfold maxLen; omega, by omega⟩
          have HA : Hid (∀ W, Below wr.heap.size wr W → W.cell? ⟨g, i * 2, none⟩ = some (.slice p xm cp) ∧ W.cell? ⟨g, i * 2 + 1, none⟩ = some (.int .i64 (n : Int)) ∧ W.ownsRow B 34 15 (.slice p xm cp) xm xs ∧ B ≤ W.heap.size) := HA0
          have HG : Hid (∀ z1 W0 v' w1, Below wr.heap.size wr z1 → Fr [] z1 W0 → w1.ownsRow B 34 15 v' (xm + 1) (xs ++ [.int .i64 0, .int .i64 (mkI n), .int .i64 0, .int .i64 0, .int .i64 0, .bool false, .slice none 0 0, .slice none 0 0, .slice none 0 0, .slice none 0 0, .int .i64 0, .int .i64 0, .slice none 0 0, .int .i64 0, .int .i64 0]) → W0.grownBy w1 (Value.slice p xm cp).ownBlock → (v'.ownBlock = (Value.slice p xm cp).ownBlock ∨ v'.ownBlock = some W0.heap.size) → GSt kgCommit B w (some ⟨g, 0, none⟩) N cap i (k + 1) (w1.setCell ⟨g, i * 2, none⟩ v') ∧ w1.cell? ⟨g, i * 2, none⟩ = some (.slice p xm cp) ∧ w1.frozen? ⟨g, i * 2, none⟩ = false) := HG0
          have HK : Hid (∀ w', Calls Tryz.prog 215 #[.int .i64 (n : Int)] w' fun e w'' => e = .returned (.agg #[.int .i64 0, .int .i64 (mkI n), .int .i64 0, .int .i64 0, .int .i64 0, .bool false, .slice none 0 0, .slice none 0 0, .slice none 0 0, .slice none 0 0, .int .i64 0, .int .i64 0, .slice none 0 0, .int .i64 0, .int .i64 0]) ∧ Below w'.heap.size w' w'') := fun w' => markCommit_b n w' hn
          have bA : Below wr.heap.size wr wr.drew := (Below.refl _ _).drew
          obtain ⟨d1, d2, -, -⟩ := unhide HA _ bA
          have e2 := unhide HC wr (unhide hsq).tf
          have hkI : (k : Int) < 3 := by omega
          have HBA := hide bA
          clear HA0 HG0 hsq bA hn hm
          go_wp2_with fail
          go_region_law (first | (refine step_app rfl (.tmp 27) (.tmp 33) 93 rfl B 34 i0 (.agg #[.int .i64 0, .int .i64 0, .int .i64 0, .int .i64 0, .int .i64 0, .bool false, .slice none 0 0, .slice none 0 0, .slice none 0 0, .slice none 0 0, .int .i64 0, .int .i64 0, .slice none 0 0, .int .i64 0, .int .i64 0]) 15 200 Tryz.underlying93 hi0 hz0 hz1 hz2 rfl (by decide) (.slice p xm cp) xm xs (by simp [Act.eval]) (World.ownsRow.alloc X1.2.2.1 _) ⟨z1.heap.size, 0, none⟩ 1 1 [.int .i64 0, .int .i64 (mkI n), .int .i64 0, .int .i64 0, .int .i64 0, .bool false, .slice none 0 0, .slice none 0 0, .slice none 0 0, .slice none 0 0, .int .i64 0, .int .i64 0, .slice none 0 0, .int .i64 0, .int .i64 0] (by simp [Act.eval]) rfl (bg_cells z1 [.int .i64 0, .int .i64 (mkI n), .int .i64 0, .int .i64 0, .int .i64 0, .bool false, .slice none 0 0, .slice none 0 0, .slice none 0 0, .slice none 0 0, .int .i64 0, .int .i64 0, .slice none 0 0, .int .i64 0, .int .i64 0] _) (unhide HCS).1 (unhide HCS).2.1 (unhide HCS).2.2 (Nat.le_trans X1.2.2.2 (by simp)) ?_; intro v' w1 hown' hgrow hat; have X3 := unhide HG z1 _ v' w1 b2 ((Fr.refl [] z1).alloc _) hown' hgrow hat; obtain ⟨k1, k2, k3⟩ := X3; obtain ⟨gv, cpv, rfl⟩ := row_formB hown') | (go_simp; go_wp2_with (first | (go_at_call 215; refine (unhide HK _).mono ?_; rintro e z1 ⟨rfl, b1⟩; have b2 := bw_tr (unhide HBA) b1; have X1 := unhide HA _ b2; have x1 := X1.1; have X2 := unhide HA _ (bw_tr b2 (bwA z1 (.cells #[.int .i64 0, .int .i64 (mkI n), .int .i64 0, .int .i64 0, .int .i64 0, .bool false, .slice none 0 0, .slice none 0 0, .slice none 0 0, .slice none 0 0, .int .i64 0, .int .i64 0, .slice none 0 0, .int .i64 0, .int .i64 0] 34))); have x2 := X2.1; have x3 := X1.2.1; have x4 := X2.2.1))))
          all_goals
            have HZ := hide k1
            clear k1 X1 X2 hown' hgrow hat
            go_wp2_with fail
            go_roundw
            case rel => exact ⟨k + 1, by go_num, by omega, HZ⟩
            case measure => simp only [intOf]; omega
        · obtain rfl : k = 3 := by omega
          have HX3 : Hid (GSt kgCommit B w (some ⟨g, 0, none⟩) N cap (i + 1) 0 wr) := (unhide hsq).out
          clear hsq
          go_wp2_with fail
          go_roundw
          case rel => exact ⟨i + 1, by go_num, by omega, HX3⟩
          case measure => simp only [intOf]; omega
    · obtain rfl : i = N := by omega
      go_wp2_with fail
      go_end0
      exact ⟨rfl, (unhide hst).done⟩
set_option maxRecDepth 100000 in
set_option maxHeartbeats 4000000 in
theorem lookCommit_b (B b : Nat) (cnt : Int) (F : Nat → Value) (es : List Ent) (X : Nat → List Value) (w : World) (hb : w.heap[b]? = some (.cells (bookF cnt F) 81 (0, 0))) (h : Ke kgCommit.k B w (F 21) es X) (hN : es.length ≤ 1150000) (hes : ∀ x ∈ es, x.n ≤ 1150000 ∧ x.m ≤ 1150003) (hmk : kgCommit.Mkd es X) :
    Calls Tryz.prog 144 #[.pointer (some ⟨b, 0, none⟩)] w fun e w' => e = .returned (.bool true) ∧ Below w.heap.size w w' := by
  have c2 := book_cell hb (k := 21) (by decide) (by decide)
  obtain ⟨a, cap, hF⟩ := h.form
  rw [hF] at c2 h
  have HL := hide (fun i (hi : i < es.length) => Kg.look h hmk hes hi)
  have hNI : ((es.length : Nat) : Int) ≤ 1150000 := by omega
  clear hF h hes hb hN hmk
  generalize es.length = N at *
  go_enter Tryz.func144, Tryz.ntmps144
  go_wp2_with fail
  go_loopw [12] (fun iv wr => ∃ i : Nat, iv = .int .i64 (i : Int) ∧ i ≤ N ∧ Below w.heap.size w wr) (fun iv _ => (N - intOf iv).toNat)
  case atStart => exact ⟨0, rfl, by omega, Below.refl _ _⟩
  case round =>
    obtain ⟨i, rfl, hi, hbel⟩ := hrel
    by_cases hin : i < N
    · obtain ⟨g, p, M, cp, n, rfl, hn, hM, hc, hr⟩ := unhide HL i hin
      obtain ⟨d1, d2⟩ := hc wr hbel
      have hiN : (i : Int) < (N : Int) := by omega
      have hi0 : (0 : Int) ≤ (i : Int) := by omega
      have hMI : ((M : Nat) : Int) ≤ 1150003 := by omega
      obtain ⟨CL, hCL⟩ : ∃ C, C = kgCommit.m n := ⟨_, rfl⟩
      have HR : Hid (∀ k, k < M → ∃ gv, p = some ⟨gv, 0, none⟩ ∧ ∀ W, Below w.heap.size w W → W.rangeAt gv (k * 15) CL) := by rw [hCL]; exact hr
      have HCS : Hid (CL.length = 15 ∧ CL.toArray.all (·.oneCell') = true) := by rw [hCL]; exact ⟨rfl, kgCommit.all n⟩
      have HK : Hid (∀ w', Calls Tryz.prog 247 #[.agg CL.toArray, .int .i64 (n : Int)] w' fun e w'' => e = .returned (.bool true) ∧ Below w'.heap.size w' w'') := fun w' => by rw [hCL]; exact isCommit_b n w' hn
      have start : Hid (Below wr.heap.size wr (wr.alloc (.cells #[.slice p M cp, .int .i64 (n : Int)] 264)) ∧ (wr.alloc (.cells #[.slice p M cp, .int .i64 (n : Int)] 264)).cell? ⟨wr.heap.size, 1, none⟩ = some (.int .i64 (n : Int))) := ⟨bwA _ _, cell_of_blk (heap_alloc_new _ _) rfl⟩
      have HB := hide hbel
      clear hc hr hn hM hbel hCL HL
      go_wp2_with fail
      rename World => wo
      go_loopw [19] (fun kv wq => ∃ k : Nat, kv = .int .i64 (k : Int) ∧ k ≤ M ∧ Hid (Below wo.heap.size wo wq ∧ wq.cell? ⟨wo.heap.size, 1, none⟩ = some (.int .i64 (n : Int)))) (fun kv _ => (M - intOf kv).toNat)
      case atStart => exact ⟨0, rfl, by omega, start⟩
      case round =>
        clear start d1 d2
        obtain ⟨k, rfl, hk, HQ⟩ := hrel
        by_cases hkM : k < M
        · have hkM' : (k : Int) < (M : Int) := by omega
          have hk0 : (0 : Int) ≤ (k : Int) := by omega
          obtain ⟨gv, rfl, hrg⟩ := unhide HR k hkM
          have HRG := hide (hrg wr (bw_tr (unhide HB) (unhide HQ).1))
          obtain ⟨W2, hW2⟩ : ∃ W, W = (wr.alloc (.cells #[.int .i64 0, .int .i64 0, .int .i64 0, .int .i64 0, .int .i64 0, .bool false, .slice none 0 0, .slice none 0 0, .slice none 0 0, .slice none 0 0, .int .i64 0, .int .i64 0, .slice none 0 0, .int .i64 0, .int .i64 0] 34)).setCells wr.heap.size 0 CL.toArray.toList := ⟨_, rfl⟩
          have hbW : Below wr.heap.size wr W2 := by rw [hW2]; exact bw_new _ _ _ _
          have HRW : Hid (W2.rangeAt wr.heap.size 0 CL) := by rw [hW2]; exact rng_new _ _ _ _ (by rw [(unhide HCS).1]; rfl)
          have c1 : W2.cell? ⟨wo.heap.size, 1, none⟩ = some (.int .i64 (n : Int)) := by
            have q := (unhide HQ).2
            rw [World.cell?_of_block (w := wr) (hbW.block _ (lt_of_cell q))]; exact q
          have XX : Hid (∀ W, Below W2.heap.size W2 W → Below wo.heap.size wo W ∧ W.cell? ⟨wo.heap.size, 1, none⟩ = some (.int .i64 (n : Int))) := fun W hb => ⟨bw_tr (unhide HQ).1 (bw_tr hbW hb), by rw [World.cell?_of_block (w := W2) (hb.block _ (lt_of_cell c1))]; exact c1⟩
          have HW2 := hide hW2
          clear hrg hbW hW2 HQ
          go_upto_region 7 with (first | (refine wpList_load_mid rfl 34 (.tmp 21) rfl gv (k * 15) (by simp [Act.eval]) CL _ (unhide HRG) Tryz.underlying34 rfl (by rw [(unhide HCS).1]; exact bgsizeCommit) ?_) | (refine wpList_store_mid rfl 34 (.tmp 6) (.tmp 22) rfl wr.heap.size 0 CL.toArray (by simp [Act.eval]) (by simp [Act.eval]) (there_new _ _ _ (by rw [List.size_toArray, (unhide HCS).1]; rfl)) (by rw [List.size_toArray, (unhide HCS).1]; exact bgsizeCommit) (unhide HCS).2 ?_))
          rw [← unhide HW2]
          go_wp2_with (refine wpList_load_mid rfl 34 (.tmp 6) rfl wr.heap.size 0 (by first | rfl | simp [Act.eval]) CL _ (unhide HRW) Tryz.underlying34 rfl (by rw [(unhide HCS).1]; exact bgsizeCommit) ?_)
          refine (unhide HK _).mono ?_
          rintro e w5 ⟨rfl, b5⟩
          have X5 := hide (unhide XX _ b5)
          clear b5 XX c1 HW2 HRG HRW
          go_wp2_with fail
          go_roundw
          case rel => exact ⟨k + 1, by go_num, by omega, X5⟩
          case measure => simp only [intOf]; omega
        · obtain rfl : k = M := by omega
          have hb9 := bw_tr (unhide HB) (unhide HQ).1
          clear HQ
          go_wp2_with fail
          go_roundw
          case rel => exact ⟨i + 1, by go_num, by omega, hb9⟩
          case measure => simp only [intOf]; omega
    · obtain rfl : i = N := by omega
      go_wp2_with fail
      go_ret
      exact ⟨rfl, hbel⟩
end Go.Proofs.YtnfhbmlmemifjaaGreatDoor

/- Logs as a kind of a Book: fill, grow, look, keep. mkBg.py writes it. -/
namespace Go.Proofs.YtnfhbmlmemifjaaGreatDoor
open Go.RowKit Go.Maps
def kgLog : Kg where
  k := ⟨95, 145, 2⟩
  m := fun n => [.int .i64 (mkI n), .slice none 0 0]
  len := fun _ => rfl
  one := fun n u hu => by
    simp only [List.mem_cons, List.not_mem_nil, or_false] at hu
    rcases hu with rfl | rfl <;> rfl
  ne := by decide
  pos := by decide
theorem bginfoLog : (Tryz.prog.info? 95).map (fun i => (i.zero, i.size, i.bytes)) = some (some (.agg #[.int .i64 0, .slice none 0 0]), 2, 32) := by kernel_rfl
theorem bgsizeLog : (Tryz.prog.info? 95).map (·.size) = some 2 := by kernel_rfl
theorem markLog_b (n : Nat) (w : World) (h : n ≤ 1150000) : Calls Tryz.prog 34 #[.int .i64 (n : Int)] w fun e w' => e = .returned (.agg (kgLog.m n).toArray) ∧ Below w.heap.size w w' := markLog_any n w (by omega)
theorem isLog_b (n : Nat) (w : World) (h : n ≤ 1150000) : Calls Tryz.prog 50 #[.agg (kgLog.m n).toArray, .int .i64 (n : Int)] w fun e w' => e = .returned (.bool true) ∧ Below w.heap.size w w' := isLog_any n w (by omega)
set_option maxRecDepth 100000 in
set_option maxHeartbeats 4000000 in
theorem fillLog_b (B b : Nat) (cnt : Int) (F : Nat → Value) (es : List Ent) (X : Nat → List Value) (w : World) (hb : w.heap[b]? = some (.cells (bookF cnt F) 81 (0, 0))) (h : Ke kgLog.k B w (F 28) es X) (hB : B ≤ w.heap.size) (hN : es.length ≤ 1150000) (hes : ∀ x ∈ es, x.n ≤ 1150000 ∧ x.m ≤ 1150000) :
    Calls Tryz.prog 84 #[.pointer (some ⟨b, 0, none⟩)] w fun e w' => e = .returned (.tuple #[]) ∧ (∃ X', Ke kgLog.k B w' (F 28) es X' ∧ kgLog.Mkd es X') ∧ Tf [95] B w w' := by
  have c2 := book_cell hb (k := 28) (by decide) (by decide)
  obtain ⟨a, cap, hF⟩ := h.form
  rw [hF] at c2 h ⊢
  have HC : Hid (∀ w', Tf [95] B w w' → w'.cell? ⟨b, 28, none⟩ = some (.slice a es.length cap)) := fun w' ht => by
    have := book_cell (ht.blk hb (by decide)) (k := 28) (by decide) (by decide)
    rw [hF] at this; exact this
  have S0 : Hid (FSt kgLog B w a es.length cap es 0 w) := FSt.start h
  have HE : Hid (B ≤ w.heap.size ∧ ∀ x ∈ es, x.n ≤ 1150000 ∧ x.m ≤ 1150000) := ⟨hB, hes⟩
  have HD : Hid (∀ wr, FSt kgLog B w a es.length cap es es.length wr → (∃ X', Ke kgLog.k B wr (.slice a es.length cap) es X' ∧ kgLog.Mkd es X') ∧ Tf [95] B w wr) := fun wr h => h.done
  have hNI : ((es.length : Nat) : Int) ≤ 1150000 := by omega
  clear hF h hes hb hN hB
  obtain ⟨N, hN⟩ : ∃ N, N = es.length := ⟨_, rfl⟩
  rw [← hN] at c2 HC S0 HD hNI ⊢
  have HN := hide hN
  clear hN
  go_enter Tryz.func84, Tryz.ntmps84
  go_wp2_with fail
  go_loopw [10] (fun iv wr => ∃ i : Nat, iv = .int .i64 (i : Int) ∧ i ≤ N ∧ Hid (FSt kgLog B w a N cap es i wr)) (fun iv _ => (N - intOf iv).toNat)
  case atStart => exact ⟨0, rfl, by omega, S0⟩
  case round =>
    clear S0
    obtain ⟨i, rfl, hi, hst⟩ := hrel
    by_cases hin : i < N
    · obtain ⟨g, p, M, cp, n, rfl, hx, d1, d2, hs⟩ := (unhide hst).in (by rw [← unhide HN]; exact hin)
      obtain ⟨hn, hM⟩ := (unhide HE).2 _ (List.mem_of_getElem? hx)
      dsimp only at hn hM
      have e2 := unhide HC wr (unhide hst).tf
      have hiN : (i : Int) < (N : Int) := by omega
      have hi0 : (0 : Int) ≤ (i : Int) := by omega
      have hMI : ((M : Nat) : Int) ≤ 1150000 := by omega
      have HX := hide hx
      have HS : Hid (FSr kgLog B w g N cap es i n 0 wr) := hs
      have HK := hide (fun w' => markLog_b n w' hn)
      clear hx hs hst hn hM
      go_wp2_with fail
      go_loopw [24] (fun kv wq => ∃ k : Nat, kv = .int .i64 (k : Int) ∧ k ≤ M ∧ Hid (FSr kgLog B w g N cap es i n k wq)) (fun kv _ => (M - intOf kv).toNat)
      case atStart => exact ⟨0, rfl, by omega, HS⟩
      case round =>
        clear HS d1 d2 e2
        obtain ⟨k, rfl, hk, hsq⟩ := hrel
        by_cases hkM : k < M
        · obtain ⟨gv, rfl, HA0⟩ := (unhide hsq).at (unhide HE).1 (unhide HX) hkM
          obtain ⟨CS, hCS⟩ : ∃ C, C = (kgLog.m n).toArray := ⟨_, rfl⟩
          have HCS : Hid (CS.all (·.oneCell') = true ∧ CS.size = 2) := by rw [hCS]; exact ⟨kgLog.all n, rfl⟩
          have HA : Hid (∀ z1, Below wr.heap.size wr z1 → z1.cell? ⟨g, i * 2, none⟩ = some (.slice (some ⟨gv, 0, none⟩) M cp) ∧ z1.cell? ⟨g, i * 2 + 1, none⟩ = some (.int .i64 (n : Int)) ∧ z1.there gv (k * 2) CS.size ∧ FSr kgLog B w g N cap es i n (k + 1) (z1.setCells gv (k * 2) CS.toList) ∧ (z1.setCells gv (k * 2) CS.toList).cell? ⟨g, i * 2, none⟩ = some (.slice (some ⟨gv, 0, none⟩) M cp) ∧ (z1.setCells gv (k * 2) CS.toList).cell? ⟨g, i * 2 + 1, none⟩ = some (.int .i64 (n : Int))) := by rw [hCS]; exact HA0
          have HK2 : Hid (∀ w', Calls Tryz.prog 34 #[.int .i64 (n : Int)] w' fun e w'' => e = .returned (.agg CS) ∧ Below w'.heap.size w' w'') := by rw [hCS]; exact unhide HK
          have bA : Below wr.heap.size wr wr.drew := (Below.refl _ _).drew
          have S0 : Hid (wr.drew.cell? ⟨g, i * 2, none⟩ = some (.slice (some ⟨gv, 0, none⟩) M cp) ∧ wr.drew.cell? ⟨g, i * 2 + 1, none⟩ = some (.int .i64 (n : Int))) := ⟨(unhide HA _ bA).1, (unhide HA _ bA).2.1⟩
          have e2 := unhide HC wr (unhide hsq).tf
          have hkM' : (k : Int) < (M : Int) := by omega
          have hk0 : (0 : Int) ≤ (k : Int) := by omega
          have HBA := hide bA
          clear HA0 hCS hsq bA
          go_wp2_with fail
          refine wp_region_held_drew (S := fun w' : World => w'.cell? ⟨g, i * 2, none⟩ = some (.slice (some ⟨gv, 0, none⟩) M cp) ∧ w'.cell? ⟨g, i * 2 + 1, none⟩ = some (.int .i64 (n : Int))) (by kernel_rfl) (unhide S0) (fun hHeld => ?_)
          refine wpAnyH_take (i := 0) (oi := { dst := some 27, op := Op.move (Operand.tmp 3), type := 313, pos := "book.go:1192", after := #[], guard := none }) (v := .pointer (some ⟨g, i * 2, none⟩)) rfl (by kernel_rfl) (by kernel_rfl) (by kernel_rfl) (fun _ _ _ h => h) (Or.inl ⟨by rfl, fun w hSw => by (try dsimp only at hSw); go_simp⟩) (by exact hHeld) ?_
          try simp only [Act.put, List.setIfInBounds_toArray, List.set_cons_zero, List.set_cons_succ]
          refine wpAnyH_take (i := 4) (oi := { dst := some 31, op := Op.move (Operand.tmp 4), type := 3, pos := "book.go:1192", after := #[], guard := none }) (v := .int .i64 (k : Int)) rfl (by kernel_rfl) (by kernel_rfl) (by kernel_rfl) (fun _ _ _ h => h) (Or.inl ⟨by rfl, fun w hSw => by (try dsimp only at hSw); go_simp⟩) (by exact hHeld) ?_
          try simp only [Act.put, List.setIfInBounds_toArray, List.set_cons_zero, List.set_cons_succ]
          refine wpAnyH_take (i := 5) (oi := { dst := some 32, op := Op.move (Operand.tmp 3), type := 313, pos := "book.go:1192", after := #[], guard := none }) (v := .pointer (some ⟨g, i * 2, none⟩)) rfl (by kernel_rfl) (by kernel_rfl) (by kernel_rfl) (fun _ _ _ h => h) (Or.inl ⟨by rfl, fun w hSw => by (try dsimp only at hSw); go_simp⟩) (by exact hHeld) ?_
          try simp only [Act.put, List.setIfInBounds_toArray, List.set_cons_zero, List.set_cons_succ]
          refine wpAnyH_take (i := 1) (oi := { dst := some 28, op := Op.nilCheck (Operand.tmp 27), type := 0, pos := "book.go:1192", after := #[{ on := 0, ground := Ground.data }], guard := none }) (v := .pointer (some ⟨g, i * 2, none⟩)) rfl (by kernel_rfl) (by kernel_rfl) (by kernel_rfl) (fun _ _ _ h => h) (Or.inl ⟨by rfl, fun w hSw => by (try dsimp only at hSw); go_simp⟩) (by exact hHeld) ?_
          try simp only [Act.put, List.setIfInBounds_toArray, List.set_cons_zero, List.set_cons_succ]
          refine wpAnyH_take (i := 6) (oi := { dst := some 33, op := Op.nilCheck (Operand.tmp 32), type := 0, pos := "book.go:1192", after := #[{ on := 5, ground := Ground.data }], guard := none }) (v := .pointer (some ⟨g, i * 2, none⟩)) rfl (by kernel_rfl) (by kernel_rfl) (by kernel_rfl) (fun _ _ _ h => h) (Or.inl ⟨by rfl, fun w hSw => by (try dsimp only at hSw); go_simp⟩) (by exact hHeld) ?_
          try simp only [Act.put, List.setIfInBounds_toArray, List.set_cons_zero, List.set_cons_succ]
          refine wpAnyH_take (i := 2) (oi := { dst := some 29, op := Op.fieldAddr 145 (Operand.tmp 28) 0, type := 0, pos := "book.go:1192", after := #[{ on := 1, ground := Ground.data }], guard := none }) (v := .pointer (some ⟨g, i * 2, none⟩)) rfl (by kernel_rfl) (by kernel_rfl) (by kernel_rfl) (fun _ _ _ h => h) (Or.inl ⟨by rfl, fun w hSw => by (try dsimp only at hSw); go_simp⟩) (by exact hHeld) ?_
          try simp only [Act.put, List.setIfInBounds_toArray, List.set_cons_zero, List.set_cons_succ]
          refine wpAnyH_take (i := 7) (oi := { dst := some 34, op := Op.fieldAddr 145 (Operand.tmp 33) 1, type := 0, pos := "book.go:1192", after := #[{ on := 6, ground := Ground.data }], guard := none }) (v := .pointer (some ⟨g, i * 2 + 1, none⟩)) rfl (by kernel_rfl) (by kernel_rfl) (by kernel_rfl) (fun _ _ _ h => h) (Or.inl ⟨by rfl, fun w hSw => by (try dsimp only at hSw); go_simp⟩) (by exact hHeld) ?_
          try simp only [Act.put, List.setIfInBounds_toArray, List.set_cons_zero, List.set_cons_succ]
          refine wpAnyH_take (i := 3) (oi := { dst := some 30, op := Op.load 22 (Operand.tmp 29), type := 22, pos := "book.go:1192", after := #[{ on := 2, ground := Ground.data }], guard := none }) (v := .slice (some ⟨gv, 0, none⟩) M cp) rfl (by kernel_rfl) (by kernel_rfl) (by kernel_rfl) (fun _ _ _ h => h) (Or.inl ⟨by rfl, fun w hSw => by (try dsimp only at hSw); go_simp⟩) (by exact hHeld) ?_
          try simp only [Act.put, List.setIfInBounds_toArray, List.set_cons_zero, List.set_cons_succ]
          refine wpAnyH_take (i := 8) (oi := { dst := some 35, op := Op.load 3 (Operand.tmp 34), type := 3, pos := "book.go:1192", after := #[{ on := 7, ground := Ground.data }], guard := none }) (v := .int .i64 (n : Int)) rfl (by kernel_rfl) (by kernel_rfl) (by kernel_rfl) (fun _ _ _ h => h) (Or.inl ⟨by rfl, fun w hSw => by (try dsimp only at hSw); go_simp⟩) (by exact hHeld) ?_
          try simp only [Act.put, List.setIfInBounds_toArray, List.set_cons_zero, List.set_cons_succ]
          refine wpAnyH_ready (rs := [9]) (by kernel_rfl) (by simp) ?_
          refine (AllReadyH.cons (o := { dst := some 36, op := Op.call { callee := Callee.value (Operand.func 34), args := #[Operand.tmp 35], argTypes := #[3] }, type := 95, pos := "book.go:1192", after := #[{ on := 8, ground := Ground.data }], guard := none }) rfl (fun K hK => ?_) AllReadyH.nil)
          go_simp
          go_at_call 34
          refine (unhide HK2 _).mono ?_
          rintro e z1 ⟨rfl, b1⟩
          have X1 := hide (unhide HA _ (bw_tr (unhide HBA) b1))
          have S1 := And.intro (unhide X1).1 (unhide X1).2.1
          go_wp2_with fail
          refine hK.out _ _ S1 (fun _ => ?_)
          clear hK K
          try simp only [Act.put, List.setIfInBounds_toArray, List.set_cons_zero, List.set_cons_succ]
          refine wpAnyH_take (i := 10) (oi := { dst := some 37, op := Op.indexAddr 22 (Operand.tmp 30) (Operand.tmp 31), type := 0, pos := "book.go:1192", after := #[{ on := 3, ground := Ground.data }, { on := 4, ground := Ground.data }, { on := 0, ground := Ground.phase }, { on := 1, ground := Ground.phase }, { on := 2, ground := Ground.phase }, { on := 3, ground := Ground.phase }, { on := 4, ground := Ground.phase }, { on := 5, ground := Ground.phase }, { on := 6, ground := Ground.phase }, { on := 7, ground := Ground.phase }, { on := 8, ground := Ground.phase }, { on := 9, ground := Ground.phase }], guard := none }) (v := .pointer (some ⟨gv, k * 2, none⟩)) rfl (by kernel_rfl) (by kernel_rfl) (by kernel_rfl) (fun _ _ _ h => h) (Or.inl ⟨by rfl, fun w hSw => by (try dsimp only at hSw); go_simp⟩) (by exact S1) ?_
          try simp only [Act.put, List.setIfInBounds_toArray, List.set_cons_zero, List.set_cons_succ]
          refine wpAnyH_ready (rs := [11]) (by kernel_rfl) (by simp) ?_
          refine (AllReadyH.cons (o := { dst := none, op := Op.store 95 (Operand.tmp 37) (Operand.tmp 36), type := 0, pos := "book.go:1192", after := #[{ on := 10, ground := Ground.data }, { on := 9, ground := Ground.data }, { on := 9, ground := Ground.chain }, { on := 0, ground := Ground.phase }, { on := 1, ground := Ground.phase }, { on := 2, ground := Ground.phase }, { on := 3, ground := Ground.phase }, { on := 4, ground := Ground.phase }, { on := 5, ground := Ground.phase }, { on := 6, ground := Ground.phase }, { on := 7, ground := Ground.phase }, { on := 8, ground := Ground.phase }, { on := 9, ground := Ground.phase }], guard := none }) rfl (fun K hK => ?_) AllReadyH.nil)
          refine bg_store rfl 95 (.tmp 37) (.tmp 36) rfl gv (k * 2) CS (by first | rfl | simp [Act.eval, Act.put]) (by first | rfl | simp [Act.eval, Act.put]) (unhide X1).2.2.1 (by rw [(unhide HCS).2]; exact bgsizeLog) (unhide HCS).1 ?_
          refine hK.out _ _ (unhide X1).2.2.2.2 (fun _ => ?_)
          clear hK K
          try simp only [Act.put]
          refine wpAnyH_done (by kernel_rfl) ?_ _
          have HZ := hide (unhide X1).2.2.2.1
          go_wp2_with fail
          go_roundw
          case rel => exact ⟨k + 1, by go_num, by omega, HZ⟩
          case measure => simp only [intOf]; omega
        · obtain rfl : k = M := by omega
          have HX3 : Hid (FSt kgLog B w (some ⟨g, 0, none⟩) N cap es (i + 1) wr) := (unhide hsq).out (unhide HX)
          clear hsq
          go_wp2_with fail
          go_roundw
          case rel => exact ⟨i + 1, by go_num, by omega, HX3⟩
          case measure => simp only [intOf]; omega
    · obtain rfl : i = N := by omega
      go_wp2_with fail
      go_end0
      exact ⟨rfl, unhide HD wr (unhide hst)⟩
set_option maxRecDepth 100000 in
set_option maxHeartbeats 4000000 in
theorem growLog_b (B b : Nat) (cnt : Int) (F : Nat → Value) (es : List Ent) (X : Nat → List Value) (w : World) (hb : w.heap[b]? = some (.cells (bookF cnt F) 81 (0, 0))) (h : Ke kgLog.k B w (F 28) es X) (hB : B ≤ w.heap.size) (hN : es.length ≤ 1150000) (hes : ∀ x ∈ es, x.n ≤ 1150000 ∧ x.m ≤ 1150000) (hmk : kgLog.Mkd es X) :
    Calls Tryz.prog 117 #[.pointer (some ⟨b, 0, none⟩)] w fun e w' => e = .returned (.tuple #[]) ∧ (∃ es' X', Ke kgLog.k B w' (F 28) es' X' ∧ es'.length = es.length ∧ (∀ x ∈ es', x.n ≤ 1150000 ∧ x.m ≤ 1150003) ∧ kgLog.Mkd es' X') ∧ Tf [95, 145] B w w' := by
  obtain ⟨i0, hi0, hz0, hz1, hz2⟩ := info_parts bginfoLog
  have c2 := book_cell hb (k := 28) (by decide) (by decide)
  obtain ⟨a, cap, hF⟩ := h.form
  rw [hF] at c2 h ⊢
  have HC : Hid (∀ w', Tf [95, 145] B w w' → w'.cell? ⟨b, 28, none⟩ = some (.slice a es.length cap)) := fun w' ht => by
    have := book_cell (ht.blk hb (by decide)) (k := 28) (by decide) (by decide)
    rw [hF] at this; exact this
  have S0 : Hid (GSt kgLog B w a es.length cap 0 0 w) := GSt.start h hmk hes
  have HBw := hide hB
  have hNI : ((es.length : Nat) : Int) ≤ 1150000 := by omega
  clear hF h hes hb hN hmk hB
  generalize es.length = N at *
  go_enter Tryz.func117, Tryz.ntmps117
  go_wp2_with fail
  go_loopw [10] (fun iv wr => ∃ i : Nat, iv = .int .i64 (i : Int) ∧ i ≤ N ∧ Hid (GSt kgLog B w a N cap i 0 wr)) (fun iv _ => (N - intOf iv).toNat)
  case atStart => exact ⟨0, rfl, by omega, S0⟩
  case round =>
    clear S0
    obtain ⟨i, rfl, hi, hst⟩ := hrel
    by_cases hin : i < N
    · have e2 := unhide HC wr (unhide hst).tf
      obtain ⟨g, rfl⟩ := (unhide hst).ptr hin
      have hiN : (i : Int) < (N : Int) := by omega
      have hi0' : (0 : Int) ≤ (i : Int) := by omega
      go_wp2_with fail
      go_loopw [4] (fun kv wq => ∃ k : Nat, kv = .int .i64 (k : Int) ∧ k ≤ 3 ∧ Hid (GSt kgLog B w (some ⟨g, 0, none⟩) N cap i k wq)) (fun kv _ => (3 - intOf kv).toNat)
      case atStart => exact ⟨0, rfl, by omega, hst⟩
      case round =>
        clear hst e2
        obtain ⟨k, rfl, hk, hsq⟩ := hrel
        by_cases hk3 : k < 3
        · obtain ⟨p, xm, cp, n, xs, hn, hm, -, HA0, HG0⟩ := (unhide hsq).at (unhide HBw) hin hk3
          have HCS : Hid ((∀ u ∈ ([.int .i64 (mkI n), .slice none 0 0] : List Value), u.oneCell' = true) ∧ xm + 1 ≤ maxLen ∧ (xm + 1) * 32 ≤ 140737488355328) := ⟨kgLog.one n, by unfold maxLen; omega, by omega⟩
          have HA : Hid (∀ W, Below wr.heap.size wr W → W.cell? ⟨g, i * 2, none⟩ = some (.slice p xm cp) ∧ W.cell? ⟨g, i * 2 + 1, none⟩ = some (.int .i64 (n : Int)) ∧ W.ownsRow B 95 2 (.slice p xm cp) xm xs ∧ B ≤ W.heap.size) := HA0
          have HG : Hid (∀ z1 W0 v' w1, Below wr.heap.size wr z1 → Fr [] z1 W0 → w1.ownsRow B 95 2 v' (xm + 1) (xs ++ [.int .i64 (mkI n), .slice none 0 0]) → W0.grownBy w1 (Value.slice p xm cp).ownBlock → (v'.ownBlock = (Value.slice p xm cp).ownBlock ∨ v'.ownBlock = some W0.heap.size) → GSt kgLog B w (some ⟨g, 0, none⟩) N cap i (k + 1) (w1.setCell ⟨g, i * 2, none⟩ v') ∧ w1.cell? ⟨g, i * 2, none⟩ = some (.slice p xm cp) ∧ w1.frozen? ⟨g, i * 2, none⟩ = false) := HG0
          have HK : Hid (∀ w', Calls Tryz.prog 34 #[.int .i64 (n : Int)] w' fun e w'' => e = .returned (.agg #[.int .i64 (mkI n), .slice none 0 0]) ∧ Below w'.heap.size w' w'') := fun w' => markLog_b n w' hn
          have bA : Below wr.heap.size wr wr.drew := (Below.refl _ _).drew
          obtain ⟨d1, d2, -, -⟩ := unhide HA _ bA
          have e2 := unhide HC wr (unhide hsq).tf
          have hkI : (k : Int) < 3 := by omega
          have HBA := hide bA
          clear HA0 HG0 hsq bA hn hm
          go_wp2_with fail
          go_region_law (first | (refine step_app rfl (.tmp 27) (.tmp 33) 22 rfl B 95 i0 (.agg #[.int .i64 0, .slice none 0 0]) 2 32 Tryz.underlying22 hi0 hz0 hz1 hz2 rfl (by decide) (.slice p xm cp) xm xs (by simp [Act.eval]) (World.ownsRow.alloc X1.2.2.1 _) ⟨z1.heap.size, 0, none⟩ 1 1 [.int .i64 (mkI n), .slice none 0 0] (by simp [Act.eval]) rfl (bg_cells z1 [.int .i64 (mkI n), .slice none 0 0] _) (unhide HCS).1 (unhide HCS).2.1 (unhide HCS).2.2 (Nat.le_trans X1.2.2.2 (by simp)) ?_; intro v' w1 hown' hgrow hat; have X3 := unhide HG z1 _ v' w1 b2 ((Fr.refl [] z1).alloc _) hown' hgrow hat; obtain ⟨k1, k2, k3⟩ := X3; obtain ⟨gv, cpv, rfl⟩ := row_formB hown') | (go_simp; go_wp2_with (first | (go_at_call 34; refine (unhide HK _).mono ?_; rintro e z1 ⟨rfl, b1⟩; have b2 := bw_tr (unhide HBA) b1; have X1 := unhide HA _ b2; have x1 := X1.1; have X2 := unhide HA _ (bw_tr b2 (bwA z1 (.cells #[.int .i64 (mkI n), .slice none 0 0] 95))); have x2 := X2.1; have x3 := X1.2.1; have x4 := X2.2.1))))
          all_goals
            have HZ := hide k1
            clear k1 X1 X2 hown' hgrow hat
            go_wp2_with fail
            go_roundw
            case rel => exact ⟨k + 1, by go_num, by omega, HZ⟩
            case measure => simp only [intOf]; omega
        · obtain rfl : k = 3 := by omega
          have HX3 : Hid (GSt kgLog B w (some ⟨g, 0, none⟩) N cap (i + 1) 0 wr) := (unhide hsq).out
          clear hsq
          go_wp2_with fail
          go_roundw
          case rel => exact ⟨i + 1, by go_num, by omega, HX3⟩
          case measure => simp only [intOf]; omega
    · obtain rfl : i = N := by omega
      go_wp2_with fail
      go_end0
      exact ⟨rfl, (unhide hst).done⟩
set_option maxRecDepth 100000 in
set_option maxHeartbeats 4000000 in
theorem lookLog_b (B b : Nat) (cnt : Int) (F : Nat → Value) (es : List Ent) (X : Nat → List Value) (w : World) (hb : w.heap[b]? = some (.cells (bookF cnt F) 81 (0, 0))) (h : Ke kgLog.k B w (F 28) es X) (hN : es.length ≤ 1150000) (hes : ∀ x ∈ es, x.n ≤ 1150000 ∧ x.m ≤ 1150003) (hmk : kgLog.Mkd es X) :
    Calls Tryz.prog 151 #[.pointer (some ⟨b, 0, none⟩)] w fun e w' => e = .returned (.bool true) ∧ Below w.heap.size w w' := by
  have c2 := book_cell hb (k := 28) (by decide) (by decide)
  obtain ⟨a, cap, hF⟩ := h.form
  rw [hF] at c2 h
  have HL := hide (fun i (hi : i < es.length) => Kg.look h hmk hes hi)
  have hNI : ((es.length : Nat) : Int) ≤ 1150000 := by omega
  clear hF h hes hb hN hmk
  generalize es.length = N at *
  go_enter Tryz.func151, Tryz.ntmps151
  go_wp2_with fail
  go_loopw [12] (fun iv wr => ∃ i : Nat, iv = .int .i64 (i : Int) ∧ i ≤ N ∧ Below w.heap.size w wr) (fun iv _ => (N - intOf iv).toNat)
  case atStart => exact ⟨0, rfl, by omega, Below.refl _ _⟩
  case round =>
    obtain ⟨i, rfl, hi, hbel⟩ := hrel
    by_cases hin : i < N
    · obtain ⟨g, p, M, cp, n, rfl, hn, hM, hc, hr⟩ := unhide HL i hin
      obtain ⟨d1, d2⟩ := hc wr hbel
      have hiN : (i : Int) < (N : Int) := by omega
      have hi0 : (0 : Int) ≤ (i : Int) := by omega
      have hMI : ((M : Nat) : Int) ≤ 1150003 := by omega
      obtain ⟨CL, hCL⟩ : ∃ C, C = kgLog.m n := ⟨_, rfl⟩
      have HR : Hid (∀ k, k < M → ∃ gv, p = some ⟨gv, 0, none⟩ ∧ ∀ W, Below w.heap.size w W → W.rangeAt gv (k * 2) CL) := by rw [hCL]; exact hr
      have HCS : Hid (CL.length = 2 ∧ CL.toArray.all (·.oneCell') = true) := by rw [hCL]; exact ⟨rfl, kgLog.all n⟩
      have HK : Hid (∀ w', Calls Tryz.prog 50 #[.agg CL.toArray, .int .i64 (n : Int)] w' fun e w'' => e = .returned (.bool true) ∧ Below w'.heap.size w' w'') := fun w' => by rw [hCL]; exact isLog_b n w' hn
      have start : Hid (Below wr.heap.size wr (wr.alloc (.cells #[.slice p M cp, .int .i64 (n : Int)] 145)) ∧ (wr.alloc (.cells #[.slice p M cp, .int .i64 (n : Int)] 145)).cell? ⟨wr.heap.size, 1, none⟩ = some (.int .i64 (n : Int))) := ⟨bwA _ _, cell_of_blk (heap_alloc_new _ _) rfl⟩
      have HB := hide hbel
      clear hc hr hn hM hbel hCL HL
      go_wp2_with fail
      rename World => wo
      go_loopw [19] (fun kv wq => ∃ k : Nat, kv = .int .i64 (k : Int) ∧ k ≤ M ∧ Hid (Below wo.heap.size wo wq ∧ wq.cell? ⟨wo.heap.size, 1, none⟩ = some (.int .i64 (n : Int)))) (fun kv _ => (M - intOf kv).toNat)
      case atStart => exact ⟨0, rfl, by omega, start⟩
      case round =>
        clear start d1 d2
        obtain ⟨k, rfl, hk, HQ⟩ := hrel
        by_cases hkM : k < M
        · have hkM' : (k : Int) < (M : Int) := by omega
          have hk0 : (0 : Int) ≤ (k : Int) := by omega
          obtain ⟨gv, rfl, hrg⟩ := unhide HR k hkM
          have HRG := hide (hrg wr (bw_tr (unhide HB) (unhide HQ).1))
          obtain ⟨W2, hW2⟩ : ∃ W, W = (wr.alloc (.cells #[.int .i64 0, .slice none 0 0] 95)).setCells wr.heap.size 0 CL.toArray.toList := ⟨_, rfl⟩
          have hbW : Below wr.heap.size wr W2 := by rw [hW2]; exact bw_new _ _ _ _
          have HRW : Hid (W2.rangeAt wr.heap.size 0 CL) := by rw [hW2]; exact rng_new _ _ _ _ (by rw [(unhide HCS).1]; rfl)
          have c1 : W2.cell? ⟨wo.heap.size, 1, none⟩ = some (.int .i64 (n : Int)) := by
            have q := (unhide HQ).2
            rw [World.cell?_of_block (w := wr) (hbW.block _ (lt_of_cell q))]; exact q
          have XX : Hid (∀ W, Below W2.heap.size W2 W → Below wo.heap.size wo W ∧ W.cell? ⟨wo.heap.size, 1, none⟩ = some (.int .i64 (n : Int))) := fun W hb => ⟨bw_tr (unhide HQ).1 (bw_tr hbW hb), by rw [World.cell?_of_block (w := W2) (hb.block _ (lt_of_cell c1))]; exact c1⟩
          have HW2 := hide hW2
          clear hrg hbW hW2 HQ
          go_upto_region 7 with (first | (refine wpList_load_mid rfl 95 (.tmp 21) rfl gv (k * 2) (by simp [Act.eval]) CL _ (unhide HRG) Tryz.underlying95 rfl (by rw [(unhide HCS).1]; exact bgsizeLog) ?_) | (refine wpList_store_mid rfl 95 (.tmp 6) (.tmp 22) rfl wr.heap.size 0 CL.toArray (by simp [Act.eval]) (by simp [Act.eval]) (there_new _ _ _ (by rw [List.size_toArray, (unhide HCS).1]; rfl)) (by rw [List.size_toArray, (unhide HCS).1]; exact bgsizeLog) (unhide HCS).2 ?_))
          rw [← unhide HW2]
          go_wp2_with (refine wpList_load_mid rfl 95 (.tmp 6) rfl wr.heap.size 0 (by first | rfl | simp [Act.eval]) CL _ (unhide HRW) Tryz.underlying95 rfl (by rw [(unhide HCS).1]; exact bgsizeLog) ?_)
          refine (unhide HK _).mono ?_
          rintro e w5 ⟨rfl, b5⟩
          have X5 := hide (unhide XX _ b5)
          clear b5 XX c1 HW2 HRG HRW
          go_wp2_with fail
          go_roundw
          case rel => exact ⟨k + 1, by go_num, by omega, X5⟩
          case measure => simp only [intOf]; omega
        · obtain rfl : k = M := by omega
          have hb9 := bw_tr (unhide HB) (unhide HQ).1
          clear HQ
          go_wp2_with fail
          go_roundw
          case rel => exact ⟨i + 1, by go_num, by omega, hb9⟩
          case measure => simp only [intOf]; omega
    · obtain rfl : i = N := by omega
      go_wp2_with fail
      go_ret
      exact ⟨rfl, hbel⟩
end Go.Proofs.YtnfhbmlmemifjaaGreatDoor
