/- Texts joined: QuJ QuK QuM QuN. -/
import Derived.Test.YtgiicendejgklaaZ22
import Derived.Deep.RegionHeld3
/- A pile in memory; its Len, Less, Swap. mkQuJ.py writes it. -/
namespace Go.Proofs.Ytgiicendejgklaa
open Go.RowKit Go.Maps
structure El where
  b : Nat
  o : Nat
  sq : Int
def ptrE (e : El) : Value := .pointer (some ⟨e.b, e.o, none⟩)
structure Pl (w : World) (bp g n cap : Nat) (F : Nat → El) : Prop where
  blk : w.heap[bp]? = some (.cells #[.slice (some ⟨g, 0, none⟩) n cap] 106 (0, 0))
  row : ∃ cur : Array Value, w.heap[g]? = some (.cells cur 102 (0, 0)) ∧ cur.size = cap ∧ ∀ i, i < n → cur[i]? = some (ptrE (F i))
  le : n ≤ cap
  mx : n ≤ 1048576
  ne : bp ≠ g
  sq : ∀ i, i < n → w.cell? ⟨(F i).b, (F i).o, none⟩ = some (.int .i64 (F i).sq)
  ap : ∀ i, i < n → (F i).b ≠ bp ∧ (F i).b ≠ g
theorem Pl.cell {w : World} {bp g n cap : Nat} {F : Nat → El} (h : Pl w bp g n cap F) {i : Nat} (hi : i < n) : w.cell? ⟨g, i, none⟩ = some (ptrE (F i)) := by
  obtain ⟨cur, h1, _, h3⟩ := h.row
  exact blk_c h1 (h3 i hi)
theorem Pl.top {w : World} {bp g n cap : Nat} {F : Nat → El} (h : Pl w bp g n cap F) : w.cell? ⟨bp, 0, none⟩ = some (.slice (some ⟨g, 0, none⟩) n cap) := blk_c h.blk rfl
theorem Pl.froz {w : World} {bp g n cap : Nat} {F : Nat → El} (h : Pl w bp g n cap F) (j : Nat) : w.frozen? ⟨g, j, none⟩ = false := by
  obtain ⟨cur, h1, _, _⟩ := h.row
  exact froz_b' h1
theorem Pl.bw {w w' : World} {bp g n cap : Nat} {F : Nat → El} (h : Pl w bp g n cap F) (hb : Below w.heap.size w w') : Pl w' bp g n cap F := by
  obtain ⟨cur, h1, h2, h3⟩ := h.row
  exact ⟨kept_b h.blk (lt_of_blk h.blk) hb, ⟨cur, kept_b h1 (lt_of_blk h1) hb, h2, h3⟩, h.le, h.mx, h.ne, fun i hi => by rw [hb.cell (lt_of_cell (h.sq i hi))]; exact h.sq i hi, h.ap⟩
theorem set_get {A : Array Value} {i t : Nat} {v : Value} (hi : i < A.size) : (A.setIfInBounds i v)[t]? = if t = i then some v else A[t]? := by
  by_cases c : t = i
  · subst c; rw [if_pos rfl, Array.getElem?_setIfInBounds_self_of_lt hi]
  · rw [if_neg c, Array.getElem?_setIfInBounds_ne (Ne.symm c)]
theorem Pl.swap {w w' : World} {bp g n cap : Nat} {F : Nat → El} {i j : Nat} (h : Pl w bp g n cap F) (hi : i < n) (hj : j < n) (hw : w' = (w.setCell ⟨g, i, none⟩ (ptrE (F j))).setCell ⟨g, j, none⟩ (ptrE (F i))) : Pl w' bp g n cap (hsw F i j) ∧ Fr [g] w w' := by
  obtain ⟨cur, h1, h2, h3⟩ := h.row
  subst hw
  have p1 := poke_b (i := i) h1 (ptrE (F j))
  have p2 := poke_b (i := j) p1 (ptrE (F i))
  have oth : ∀ k, k ≠ g → ((w.setCell ⟨g, i, none⟩ (ptrE (F j))).setCell ⟨g, j, none⟩ (ptrE (F i))).heap[k]? = w.heap[k]? := fun k hk => by rw [other_c hk, other_c hk]
  have hl : n ≤ cur.size := by rw [h2]; exact h.le
  have memF : ∀ t, t < n → ∃ u, u < n ∧ hsw F i j t = F u := fun t ht => by
    by_cases c1 : t = i
    · subst c1; exact ⟨j, hj, hsw_l _ _ _⟩
    · by_cases c2 : t = j
      · subst c2; exact ⟨i, hi, hsw_r _ _ _⟩
      · exact ⟨t, ht, hsw_o _ c1 c2⟩
  refine ⟨⟨by rw [oth bp h.ne]; exact h.blk, ⟨_, p2, by simp [h2], fun t ht => ?_⟩, h.le, h.mx, h.ne, fun t ht => ?_, fun t ht => ?_⟩, ((Fr.refl [g] w).setCell (Or.inr (by simp)) _).setCell (Or.inr (by simp)) _⟩
  · rw [set_get (by simp; omega), set_get (by omega)]
    unfold hsw
    by_cases c2 : t = j
    · subst c2
      rw [if_pos rfl]
      by_cases c1 : t = i
      · subst c1; rw [if_pos rfl]
      · rw [if_neg c1, if_pos rfl]
    · rw [if_neg c2]
      by_cases c1 : t = i
      · rw [if_pos c1, if_pos c1]
      · rw [if_neg c1, if_neg c1, if_neg c2]; exact h3 t ht
  · obtain ⟨u, hu, e⟩ := memF t ht
    rw [e]
    rw [World.cell?_of_block (w := w) (oth _ (h.ap u hu).2)]
    exact h.sq u hu
  · obtain ⟨u, hu, e⟩ := memF t ht
    rw [e]
    exact h.ap u hu
set_option maxHeartbeats 1000000 in
theorem plLen_any {w : World} (g n cap : Nat) : Calls Try.prog 101 #[.slice (some ⟨g, 0, none⟩) n cap] w fun e w' => e = .returned (.int .i64 (n : Int)) ∧ w' = w := by
  go_enter Try.func101, Try.ntmps101
  go_wp2_with fail
  go_ret
  exact ⟨rfl, rfl⟩
set_option maxRecDepth 100000 in
set_option maxHeartbeats 4000000 in
theorem less_any {w : World} {bp g n cap : Nat} {F : Nat → El} (h : Pl w bp g n cap F) {i j : Nat} (hi : i < n) (hj : j < n) :
    Calls Try.prog 102 #[.slice (some ⟨g, 0, none⟩) n cap, .int .i64 (i : Int), .int .i64 (j : Int)] w fun e w' => e = .returned (.bool (decide ((F i).sq < (F j).sq))) ∧ w' = w.drew := by
  have f1 := h.cell hi
  have f2 := h.cell hj
  have f3 := h.sq i hi
  have f4 := h.sq j hj
  unfold ptrE at f1 f2
  obtain ⟨b1, hb1⟩ : ∃ z, z = (F i).b := ⟨_, rfl⟩
  obtain ⟨o1, ho1⟩ : ∃ z, z = (F i).o := ⟨_, rfl⟩
  obtain ⟨s1, hs1⟩ : ∃ z, z = (F i).sq := ⟨_, rfl⟩
  obtain ⟨b2, hb2⟩ : ∃ z, z = (F j).b := ⟨_, rfl⟩
  obtain ⟨o2, ho2⟩ : ∃ z, z = (F j).o := ⟨_, rfl⟩
  obtain ⟨s2, hs2⟩ : ∃ z, z = (F j).sq := ⟨_, rfl⟩
  rw [← hb1, ← ho1] at f1 f3
  rw [← hb2, ← ho2] at f2 f4
  rw [← hs1] at f3 ⊢
  rw [← hs2] at f4 ⊢
  have q1 : (i : Int) < (n : Int) := by omega
  have q2 : (j : Int) < (n : Int) := by omega
  have q3 : (0 : Int) ≤ (i : Int) := by omega
  have q4 : (0 : Int) ≤ (j : Int) := by omega
  clear h hi hj hb1 ho1 hs1 hb2 ho2 hs2
  go_enter Try.func102, Try.ntmps102
  have S0 : w.cell? ⟨g, i, none⟩ = some (.pointer (some ⟨b1, o1, none⟩)) ∧ w.cell? ⟨g, j, none⟩ = some (.pointer (some ⟨b2, o2, none⟩)) ∧ w.cell? ⟨b1, o1, none⟩ = some (.int .i64 s1) ∧ w.cell? ⟨b2, o2, none⟩ = some (.int .i64 s2) := ⟨f1, f2, f3, f4⟩
  clear f1 f2 f3 f4
  go_upto_region 1 with fail
  refine wp_region_held_drew (S := fun w' : World => w'.cell? ⟨g, i, none⟩ = some (.pointer (some ⟨b1, o1, none⟩)) ∧ w'.cell? ⟨g, j, none⟩ = some (.pointer (some ⟨b2, o2, none⟩)) ∧ w'.cell? ⟨b1, o1, none⟩ = some (.int .i64 s1) ∧ w'.cell? ⟨b2, o2, none⟩ = some (.int .i64 s2)) (by kernel_rfl) S0 (fun hHeld => ?_)
  refine wpAnyH_take (i := 0) (oi := { dst := some 7, op := Op.move (Operand.tmp 0), type := 106, pos := "early.go:13", after := #[], guard := none }) (v := ?v0r1) rfl (by kernel_rfl) (by kernel_rfl) (by kernel_rfl) (fun _ _ _ h => h) (Or.inl ⟨by rfl, ?hy0r1⟩) (by exact hHeld) ?_
  case hy0r1 => (intro w hSw; (try dsimp only at hSw); go_simp; try (with_reducible rfl))
  try simp only [Act.put, List.setIfInBounds_toArray, List.set_cons_zero, List.set_cons_succ]
  refine wpAnyH_take (i := 1) (oi := { dst := some 8, op := Op.move (Operand.tmp 1), type := 3, pos := "early.go:13", after := #[], guard := none }) (v := ?v1r1) rfl (by kernel_rfl) (by kernel_rfl) (by kernel_rfl) (fun _ _ _ h => h) (Or.inl ⟨by rfl, ?hy1r1⟩) (by exact hHeld) ?_
  case hy1r1 => (intro w hSw; (try dsimp only at hSw); go_simp; try (with_reducible rfl))
  try simp only [Act.put, List.setIfInBounds_toArray, List.set_cons_zero, List.set_cons_succ]
  refine wpAnyH_take (i := 2) (oi := { dst := some 9, op := Op.indexAddr 106 (Operand.tmp 7) (Operand.tmp 8), type := 0, pos := "early.go:13", after := #[{ on := 0, ground := Ground.data }, { on := 1, ground := Ground.data }], guard := none }) (v := ?v2r1) rfl (by kernel_rfl) (by kernel_rfl) (by kernel_rfl) (fun _ _ _ h => h) (Or.inl ⟨by rfl, ?hy2r1⟩) (by exact hHeld) ?_
  case hy2r1 => (intro w hSw; (try dsimp only at hSw); go_simp; try (with_reducible rfl))
  try simp only [Act.put, List.setIfInBounds_toArray, List.set_cons_zero, List.set_cons_succ]
  refine wpAnyH_take (i := 3) (oi := { dst := some 10, op := Op.load 102 (Operand.tmp 9), type := 102, pos := "early.go:13", after := #[{ on := 2, ground := Ground.data }], guard := none }) (v := ?v3r1) rfl (by kernel_rfl) (by kernel_rfl) (by kernel_rfl) (fun _ _ _ h => h) (Or.inl ⟨by rfl, ?hy3r1⟩) (by exact hHeld) ?_
  case hy3r1 => (intro w hSw; (try dsimp only at hSw); go_simp; try (with_reducible rfl))
  try simp only [Act.put, List.setIfInBounds_toArray, List.set_cons_zero, List.set_cons_succ]
  refine wpAnyH_take (i := 4) (oi := { dst := some 11, op := Op.nilCheck (Operand.tmp 10), type := 0, pos := "early.go:13", after := #[{ on := 3, ground := Ground.data }], guard := none }) (v := ?v4r1) rfl (by kernel_rfl) (by kernel_rfl) (by kernel_rfl) (fun _ _ _ h => h) (Or.inl ⟨by rfl, ?hy4r1⟩) (by exact hHeld) ?_
  case hy4r1 => (intro w hSw; (try dsimp only at hSw); go_simp; try (with_reducible rfl))
  try simp only [Act.put, List.setIfInBounds_toArray, List.set_cons_zero, List.set_cons_succ]
  refine wpAnyH_take (i := 5) (oi := { dst := some 12, op := Op.fieldAddr 87 (Operand.tmp 11) 0, type := 0, pos := "early.go:13", after := #[{ on := 4, ground := Ground.data }], guard := none }) (v := ?v5r1) rfl (by kernel_rfl) (by kernel_rfl) (by kernel_rfl) (fun _ _ _ h => h) (Or.inl ⟨by rfl, ?hy5r1⟩) (by exact hHeld) ?_
  case hy5r1 => (intro w hSw; (try dsimp only at hSw); go_simp; try (with_reducible rfl))
  try simp only [Act.put, List.setIfInBounds_toArray, List.set_cons_zero, List.set_cons_succ]
  refine wpAnyH_take (i := 6) (oi := { dst := some 13, op := Op.load 3 (Operand.tmp 12), type := 3, pos := "early.go:13", after := #[{ on := 5, ground := Ground.data }], guard := none }) (v := ?v6r1) rfl (by kernel_rfl) (by kernel_rfl) (by kernel_rfl) (fun _ _ _ h => h) (Or.inl ⟨by rfl, ?hy6r1⟩) (by exact hHeld) ?_
  case hy6r1 => (intro w hSw; (try dsimp only at hSw); go_simp; try (with_reducible rfl))
  try simp only [Act.put, List.setIfInBounds_toArray, List.set_cons_zero, List.set_cons_succ]
  refine wpAnyH_take (i := 7) (oi := { dst := some 14, op := Op.move (Operand.tmp 0), type := 106, pos := "early.go:13", after := #[], guard := none }) (v := ?v7r1) rfl (by kernel_rfl) (by kernel_rfl) (by kernel_rfl) (fun _ _ _ h => h) (Or.inl ⟨by rfl, ?hy7r1⟩) (by exact hHeld) ?_
  case hy7r1 => (intro w hSw; (try dsimp only at hSw); go_simp; try (with_reducible rfl))
  try simp only [Act.put, List.setIfInBounds_toArray, List.set_cons_zero, List.set_cons_succ]
  refine wpAnyH_take (i := 8) (oi := { dst := some 15, op := Op.move (Operand.tmp 2), type := 3, pos := "early.go:13", after := #[], guard := none }) (v := ?v8r1) rfl (by kernel_rfl) (by kernel_rfl) (by kernel_rfl) (fun _ _ _ h => h) (Or.inl ⟨by rfl, ?hy8r1⟩) (by exact hHeld) ?_
  case hy8r1 => (intro w hSw; (try dsimp only at hSw); go_simp; try (with_reducible rfl))
  try simp only [Act.put, List.setIfInBounds_toArray, List.set_cons_zero, List.set_cons_succ]
  refine wpAnyH_take (i := 9) (oi := { dst := some 16, op := Op.indexAddr 106 (Operand.tmp 14) (Operand.tmp 15), type := 0, pos := "early.go:13", after := #[{ on := 7, ground := Ground.data }, { on := 8, ground := Ground.data }], guard := none }) (v := ?v9r1) rfl (by kernel_rfl) (by kernel_rfl) (by kernel_rfl) (fun _ _ _ h => h) (Or.inl ⟨by rfl, ?hy9r1⟩) (by exact hHeld) ?_
  case hy9r1 => (intro w hSw; (try dsimp only at hSw); go_simp; try (with_reducible rfl))
  try simp only [Act.put, List.setIfInBounds_toArray, List.set_cons_zero, List.set_cons_succ]
  refine wpAnyH_take (i := 10) (oi := { dst := some 17, op := Op.load 102 (Operand.tmp 16), type := 102, pos := "early.go:13", after := #[{ on := 9, ground := Ground.data }], guard := none }) (v := ?v10r1) rfl (by kernel_rfl) (by kernel_rfl) (by kernel_rfl) (fun _ _ _ h => h) (Or.inl ⟨by rfl, ?hy10r1⟩) (by exact hHeld) ?_
  case hy10r1 => (intro w hSw; (try dsimp only at hSw); go_simp; try (with_reducible rfl))
  try simp only [Act.put, List.setIfInBounds_toArray, List.set_cons_zero, List.set_cons_succ]
  refine wpAnyH_take (i := 11) (oi := { dst := some 18, op := Op.nilCheck (Operand.tmp 17), type := 0, pos := "early.go:13", after := #[{ on := 10, ground := Ground.data }], guard := none }) (v := ?v11r1) rfl (by kernel_rfl) (by kernel_rfl) (by kernel_rfl) (fun _ _ _ h => h) (Or.inl ⟨by rfl, ?hy11r1⟩) (by exact hHeld) ?_
  case hy11r1 => (intro w hSw; (try dsimp only at hSw); go_simp; try (with_reducible rfl))
  try simp only [Act.put, List.setIfInBounds_toArray, List.set_cons_zero, List.set_cons_succ]
  refine wpAnyH_take (i := 12) (oi := { dst := some 19, op := Op.fieldAddr 87 (Operand.tmp 18) 0, type := 0, pos := "early.go:13", after := #[{ on := 11, ground := Ground.data }], guard := none }) (v := ?v12r1) rfl (by kernel_rfl) (by kernel_rfl) (by kernel_rfl) (fun _ _ _ h => h) (Or.inl ⟨by rfl, ?hy12r1⟩) (by exact hHeld) ?_
  case hy12r1 => (intro w hSw; (try dsimp only at hSw); go_simp; try (with_reducible rfl))
  try simp only [Act.put, List.setIfInBounds_toArray, List.set_cons_zero, List.set_cons_succ]
  refine wpAnyH_take (i := 13) (oi := { dst := some 20, op := Op.load 3 (Operand.tmp 19), type := 3, pos := "early.go:13", after := #[{ on := 12, ground := Ground.data }], guard := none }) (v := ?v13r1) rfl (by kernel_rfl) (by kernel_rfl) (by kernel_rfl) (fun _ _ _ h => h) (Or.inl ⟨by rfl, ?hy13r1⟩) (by exact hHeld) ?_
  case hy13r1 => (intro w hSw; (try dsimp only at hSw); go_simp; try (with_reducible rfl))
  try simp only [Act.put, List.setIfInBounds_toArray, List.set_cons_zero, List.set_cons_succ]
  refine wpAnyH_take (i := 14) (oi := { dst := some 21, op := Op.binOp BinOp.lss 3 (Operand.tmp 13) (Operand.tmp 20) 3, type := 4, pos := "early.go:13", after := #[{ on := 6, ground := Ground.data }, { on := 13, ground := Ground.data }], guard := none }) (v := ?v14r1) rfl (by kernel_rfl) (by kernel_rfl) (by kernel_rfl) (fun _ _ _ h => h) (Or.inl ⟨by rfl, ?hy14r1⟩) (by exact hHeld) ?_
  case hy14r1 => (intro w hSw; (try dsimp only at hSw); go_simp; try (with_reducible rfl))
  try simp only [Act.put, List.setIfInBounds_toArray, List.set_cons_zero, List.set_cons_succ]
  refine wpAnyH_take (i := 15) (oi := { dst := some 6, op := Op.assign (Operand.tmp 21), type := 4, pos := "early.go:13", after := #[{ on := 14, ground := Ground.data }, { on := 0, ground := Ground.phase }, { on := 1, ground := Ground.phase }, { on := 2, ground := Ground.phase }, { on := 3, ground := Ground.phase }, { on := 4, ground := Ground.phase }, { on := 5, ground := Ground.phase }, { on := 6, ground := Ground.phase }, { on := 7, ground := Ground.phase }, { on := 8, ground := Ground.phase }, { on := 9, ground := Ground.phase }, { on := 10, ground := Ground.phase }, { on := 11, ground := Ground.phase }, { on := 12, ground := Ground.phase }, { on := 13, ground := Ground.phase }, { on := 14, ground := Ground.phase }], guard := none }) (v := ?v15r1) rfl (by kernel_rfl) (by kernel_rfl) (by kernel_rfl) (fun _ _ _ h => h) (Or.inl ⟨by rfl, ?hy15r1⟩) (by exact hHeld) ?_
  case hy15r1 => (intro w hSw; (try dsimp only at hSw); go_simp; try (with_reducible rfl))
  try simp only [Act.put, List.setIfInBounds_toArray, List.set_cons_zero, List.set_cons_succ]
  refine wpAnyH_done (by kernel_rfl) ?_ _
  go_wp2_with fail
  go_ret
  exact ⟨rfl, rfl⟩
set_option maxRecDepth 100000 in
set_option maxHeartbeats 4000000 in
theorem swap_any {w : World} {bp g n cap : Nat} {F : Nat → El} (h : Pl w bp g n cap F) {i j : Nat} (hi : i < n) (hj : j < n) :
    Calls Try.prog 105 #[.slice (some ⟨g, 0, none⟩) n cap, .int .i64 (i : Int), .int .i64 (j : Int)] w fun e w' => e = .returned (.tuple #[]) ∧ Pl w' bp g n cap (hsw F i j) ∧ Fr [g] w w' := by
  have hd := h.bw ((Below.refl w.heap.size w).drew)
  have HS : Hid (∀ w', w' = (w.drew.setCell ⟨g, i, none⟩ (ptrE (F j))).setCell ⟨g, j, none⟩ (ptrE (F i)) → Pl w' bp g n cap (hsw F i j) ∧ Fr [g] w w') := fun w' hw => by
    have := hd.swap hi hj hw
    exact ⟨this.1, (Fr.refl [] w).drew.trans this.2 (fun _ _ q => by cases q) (fun _ _ q => q)⟩
  have f1 : w.drew.cell? ⟨g, i, none⟩ = some (ptrE (F i)) := hd.cell hi
  have f2 : w.drew.cell? ⟨g, j, none⟩ = some (ptrE (F j)) := hd.cell hj
  have fz : ∀ j, w.drew.frozen? ⟨g, j, none⟩ = false := hd.froz
  unfold ptrE at f1 f2 HS
  obtain ⟨P1, hP1⟩ : ∃ z, z = Value.pointer (some ⟨(F i).b, (F i).o, none⟩) := ⟨_, rfl⟩
  obtain ⟨P2, hP2⟩ : ∃ z, z = Value.pointer (some ⟨(F j).b, (F j).o, none⟩) := ⟨_, rfl⟩
  obtain ⟨b1, hb1⟩ : ∃ z, z = (F i).b := ⟨_, rfl⟩
  obtain ⟨o1, ho1⟩ : ∃ z, z = (F i).o := ⟨_, rfl⟩
  obtain ⟨b2, hb2⟩ : ∃ z, z = (F j).b := ⟨_, rfl⟩
  obtain ⟨o2, ho2⟩ : ∃ z, z = (F j).o := ⟨_, rfl⟩
  rw [← hb1, ← ho1] at f1 HS
  rw [← hb2, ← ho2] at f2 HS
  have q1 : (i : Int) < (n : Int) := by omega
  have q2 : (j : Int) < (n : Int) := by omega
  have q3 : (0 : Int) ≤ (i : Int) := by omega
  have q4 : (0 : Int) ≤ (j : Int) := by omega
  obtain ⟨X, hX, hXf⟩ : ∃ X, (w.setCell ⟨g, i, none⟩ (.pointer (some ⟨b2, o2, none⟩))).drew.cell? ⟨g, j, none⟩ = some X ∧ (w.setCell ⟨g, i, none⟩ (.pointer (some ⟨b2, o2, none⟩))).drew.frozen? ⟨g, j, none⟩ = false := by
    obtain ⟨cur, h1, h2, h3⟩ := hd.row
    have p1 : (w.setCell ⟨g, i, none⟩ (.pointer (some ⟨b2, o2, none⟩))).drew.heap[g]? = _ := poke_b (i := i) h1 (.pointer (some ⟨b2, o2, none⟩))
    have hl := hd.le
    have hjs : j < (cur.setIfInBounds i (Value.pointer (some ⟨b2, o2, none⟩))).size := by simp; omega
    exact ⟨_, blk_c p1 (Array.getElem?_eq_getElem hjs), froz_b' p1⟩
  clear h hi hj hd hb1 ho1 hb2 ho2 hP1 hP2 P1 P2
  go_enter Try.func105, Try.ntmps105
  refine wp_region_any (by kernel_rfl) ?_
  change wpAny _ _ _ _ _ _ _ (World.drew _)
  refine wpAny_take (i := 0) (oi := { dst := some 6, op := Op.move (Operand.tmp 0), type := 106, pos := "early.go:14", after := #[], guard := none }) (v := .slice (some ⟨g, 0, none⟩) n cap) rfl (by kernel_rfl) (by kernel_rfl) (by kernel_rfl) (fun _ _ _ h => h) (Or.inl ⟨by rfl, fun w => by go_simp⟩) ?_
  try simp only [Act.put, List.setIfInBounds_toArray, List.set_cons_zero, List.set_cons_succ]
  refine wpAny_take (i := 1) (oi := { dst := some 7, op := Op.move (Operand.tmp 1), type := 3, pos := "early.go:14", after := #[], guard := none }) (v := .int .i64 (i : Int)) rfl (by kernel_rfl) (by kernel_rfl) (by kernel_rfl) (fun _ _ _ h => h) (Or.inl ⟨by rfl, fun w => by go_simp⟩) ?_
  try simp only [Act.put, List.setIfInBounds_toArray, List.set_cons_zero, List.set_cons_succ]
  refine wpAny_take (i := 2) (oi := { dst := some 8, op := Op.move (Operand.tmp 0), type := 106, pos := "early.go:14", after := #[{ on := 13, ground := Ground.gcOnly Departure.lateStores }], guard := none }) (v := .slice (some ⟨g, 0, none⟩) n cap) rfl (by kernel_rfl) (by kernel_rfl) (by kernel_rfl) (fun _ _ _ h => h) (Or.inl ⟨by rfl, fun w => by go_simp⟩) ?_
  try simp only [Act.put, List.setIfInBounds_toArray, List.set_cons_zero, List.set_cons_succ]
  refine wpAny_take (i := 3) (oi := { dst := some 9, op := Op.move (Operand.tmp 2), type := 3, pos := "early.go:14", after := #[{ on := 13, ground := Ground.gcOnly Departure.lateStores }], guard := none }) (v := .int .i64 (j : Int)) rfl (by kernel_rfl) (by kernel_rfl) (by kernel_rfl) (fun _ _ _ h => h) (Or.inl ⟨by rfl, fun w => by go_simp⟩) ?_
  try simp only [Act.put, List.setIfInBounds_toArray, List.set_cons_zero, List.set_cons_succ]
  refine wpAny_take (i := 4) (oi := { dst := some 10, op := Op.move (Operand.tmp 0), type := 106, pos := "early.go:14", after := #[], guard := none }) (v := .slice (some ⟨g, 0, none⟩) n cap) rfl (by kernel_rfl) (by kernel_rfl) (by kernel_rfl) (fun _ _ _ h => h) (Or.inl ⟨by rfl, fun w => by go_simp⟩) ?_
  try simp only [Act.put, List.setIfInBounds_toArray, List.set_cons_zero, List.set_cons_succ]
  refine wpAny_take (i := 5) (oi := { dst := some 11, op := Op.move (Operand.tmp 2), type := 3, pos := "early.go:14", after := #[], guard := none }) (v := .int .i64 (j : Int)) rfl (by kernel_rfl) (by kernel_rfl) (by kernel_rfl) (fun _ _ _ h => h) (Or.inl ⟨by rfl, fun w => by go_simp⟩) ?_
  try simp only [Act.put, List.setIfInBounds_toArray, List.set_cons_zero, List.set_cons_succ]
  refine wpAny_take (i := 8) (oi := { dst := some 14, op := Op.move (Operand.tmp 0), type := 106, pos := "early.go:14", after := #[], guard := none }) (v := .slice (some ⟨g, 0, none⟩) n cap) rfl (by kernel_rfl) (by kernel_rfl) (by kernel_rfl) (fun _ _ _ h => h) (Or.inl ⟨by rfl, fun w => by go_simp⟩) ?_
  try simp only [Act.put, List.setIfInBounds_toArray, List.set_cons_zero, List.set_cons_succ]
  refine wpAny_take (i := 9) (oi := { dst := some 15, op := Op.move (Operand.tmp 1), type := 3, pos := "early.go:14", after := #[], guard := none }) (v := .int .i64 (i : Int)) rfl (by kernel_rfl) (by kernel_rfl) (by kernel_rfl) (fun _ _ _ h => h) (Or.inl ⟨by rfl, fun w => by go_simp⟩) ?_
  try simp only [Act.put, List.setIfInBounds_toArray, List.set_cons_zero, List.set_cons_succ]
  refine wpAny_take (i := 6) (oi := { dst := some 12, op := Op.indexAddr 106 (Operand.tmp 10) (Operand.tmp 11), type := 0, pos := "early.go:14", after := #[{ on := 4, ground := Ground.data }, { on := 5, ground := Ground.data }], guard := none }) (v := .pointer (some ⟨g, j, none⟩)) rfl (by kernel_rfl) (by kernel_rfl) (by kernel_rfl) (fun _ _ _ h => h) (Or.inl ⟨by rfl, fun w => by go_simp⟩) ?_
  try simp only [Act.put, List.setIfInBounds_toArray, List.set_cons_zero, List.set_cons_succ]
  refine wpAny_take (i := 10) (oi := { dst := some 16, op := Op.indexAddr 106 (Operand.tmp 14) (Operand.tmp 15), type := 0, pos := "early.go:14", after := #[{ on := 8, ground := Ground.data }, { on := 9, ground := Ground.data }], guard := none }) (v := .pointer (some ⟨g, i, none⟩)) rfl (by kernel_rfl) (by kernel_rfl) (by kernel_rfl) (fun _ _ _ h => h) (Or.inl ⟨by rfl, fun w => by go_simp⟩) ?_
  try simp only [Act.put, List.setIfInBounds_toArray, List.set_cons_zero, List.set_cons_succ]
  refine wpAny_ready (rs := [7, 11]) (by kernel_rfl) (by simp) (AllReady.cons (o := { dst := some 13, op := Op.load 102 (Operand.tmp 12), type := 102, pos := "early.go:14", after := #[{ on := 6, ground := Ground.data }], guard := none }) rfl (fun K hK => ?_) (AllReady.cons (o := { dst := some 17, op := Op.load 102 (Operand.tmp 16), type := 102, pos := "early.go:14", after := #[{ on := 10, ground := Ground.data }], guard := none }) rfl (fun K hK => ?_) AllReady.nil))
  · go_simp
    refine hK _ _ ?_
    clear hK K
    try simp only [Act.put, List.setIfInBounds_toArray, List.set_cons_zero, List.set_cons_succ]
    refine wpAny_ready (rs := [11]) (by kernel_rfl) (by simp) (AllReady.cons (o := { dst := some 17, op := Op.load 102 (Operand.tmp 16), type := 102, pos := "early.go:14", after := #[{ on := 10, ground := Ground.data }], guard := none }) rfl (fun K hK => ?_) AllReady.nil)
    go_simp
    refine hK _ _ ?_
    clear hK K
    try simp only [Act.put, List.setIfInBounds_toArray, List.set_cons_zero, List.set_cons_succ]
    refine wpAny_take (i := 12) (oi := { dst := some 18, op := Op.indexAddr 106 (Operand.tmp 6) (Operand.tmp 7), type := 0, pos := "early.go:14", after := #[{ on := 0, ground := Ground.data }, { on := 1, ground := Ground.data }, { on := 0, ground := Ground.phase }, { on := 1, ground := Ground.phase }, { on := 2, ground := Ground.textOnly Departure.lateStores }, { on := 3, ground := Ground.textOnly Departure.lateStores }, { on := 4, ground := Ground.phase }, { on := 5, ground := Ground.phase }, { on := 6, ground := Ground.phase }, { on := 7, ground := Ground.phase }, { on := 8, ground := Ground.textOnly Departure.lateStores }, { on := 9, ground := Ground.textOnly Departure.lateStores }, { on := 10, ground := Ground.textOnly Departure.lateStoresUnsure }, { on := 11, ground := Ground.phase }], guard := none }) (v := .pointer (some ⟨g, i, none⟩)) rfl (by kernel_rfl) (by kernel_rfl) (by kernel_rfl) (fun _ _ _ h => h) (Or.inl ⟨by rfl, fun w => by go_simp⟩) ?_
    try simp only [Act.put, List.setIfInBounds_toArray, List.set_cons_zero, List.set_cons_succ]
    refine wpAny_ready (rs := [13]) (by kernel_rfl) (by simp) (AllReady.cons (o := { dst := none, op := Op.store 102 (Operand.tmp 18) (Operand.tmp 13), type := 0, pos := "early.go:14", after := #[{ on := 12, ground := Ground.data }, { on := 7, ground := Ground.data }, { on := 0, ground := Ground.phase }, { on := 1, ground := Ground.phase }, { on := 2, ground := Ground.textOnly Departure.lateStores }, { on := 3, ground := Ground.textOnly Departure.lateStores }, { on := 4, ground := Ground.phase }, { on := 5, ground := Ground.phase }, { on := 6, ground := Ground.phase }, { on := 7, ground := Ground.phase }, { on := 8, ground := Ground.textOnly Departure.lateStores }, { on := 9, ground := Ground.textOnly Departure.lateStores }, { on := 10, ground := Ground.textOnly Departure.lateStoresUnsure }, { on := 11, ground := Ground.phase }], guard := none }) rfl (fun K hK => ?_) AllReady.nil)
    go_simp
    refine hK _ _ ?_
    clear hK K
    try simp only [Act.put]
    refine wpAny_take (i := 14) (oi := { dst := some 19, op := Op.indexAddr 106 (Operand.tmp 8) (Operand.tmp 9), type := 0, pos := "early.go:14", after := #[{ on := 2, ground := Ground.data }, { on := 3, ground := Ground.data }, { on := 0, ground := Ground.phase }, { on := 1, ground := Ground.phase }, { on := 2, ground := Ground.phase }, { on := 3, ground := Ground.phase }, { on := 4, ground := Ground.phase }, { on := 5, ground := Ground.phase }, { on := 6, ground := Ground.phase }, { on := 7, ground := Ground.phase }, { on := 8, ground := Ground.phase }, { on := 9, ground := Ground.phase }, { on := 10, ground := Ground.phase }, { on := 11, ground := Ground.phase }, { on := 12, ground := Ground.phase }, { on := 13, ground := Ground.phase }], guard := none }) (v := .pointer (some ⟨g, j, none⟩)) rfl (by kernel_rfl) (by kernel_rfl) (by kernel_rfl) (fun _ _ _ h => h) (Or.inl ⟨by rfl, fun w => by go_simp⟩) ?_
    try simp only [Act.put, List.setIfInBounds_toArray, List.set_cons_zero, List.set_cons_succ]
    refine wpAny_ready (rs := [15]) (by kernel_rfl) (by simp) (AllReady.cons (o := { dst := none, op := Op.store 102 (Operand.tmp 19) (Operand.tmp 17), type := 0, pos := "early.go:14", after := #[{ on := 14, ground := Ground.data }, { on := 11, ground := Ground.data }, { on := 13, ground := Ground.chain }, { on := 0, ground := Ground.phase }, { on := 1, ground := Ground.phase }, { on := 2, ground := Ground.phase }, { on := 3, ground := Ground.phase }, { on := 4, ground := Ground.phase }, { on := 5, ground := Ground.phase }, { on := 6, ground := Ground.phase }, { on := 7, ground := Ground.phase }, { on := 8, ground := Ground.phase }, { on := 9, ground := Ground.phase }, { on := 10, ground := Ground.phase }, { on := 11, ground := Ground.phase }, { on := 12, ground := Ground.phase }, { on := 13, ground := Ground.phase }], guard := none }) rfl (fun K hK => ?_) AllReady.nil)
    go_simp
    refine hK _ _ ?_
    clear hK K
    try simp only [Act.put]
    refine wpAny_done (by kernel_rfl) ?_ _
    go_wp2_with fail
    go_end0
    exact ⟨rfl, unhide HS _ rfl⟩
  · go_simp
    refine hK _ _ ?_
    clear hK K
    try simp only [Act.put, List.setIfInBounds_toArray, List.set_cons_zero, List.set_cons_succ]
    refine wpAny_ready (rs := [7]) (by kernel_rfl) (by simp) (AllReady.cons (o := { dst := some 13, op := Op.load 102 (Operand.tmp 12), type := 102, pos := "early.go:14", after := #[{ on := 6, ground := Ground.data }], guard := none }) rfl (fun K hK => ?_) AllReady.nil)
    go_simp
    refine hK _ _ ?_
    clear hK K
    try simp only [Act.put, List.setIfInBounds_toArray, List.set_cons_zero, List.set_cons_succ]
    refine wpAny_take (i := 12) (oi := { dst := some 18, op := Op.indexAddr 106 (Operand.tmp 6) (Operand.tmp 7), type := 0, pos := "early.go:14", after := #[{ on := 0, ground := Ground.data }, { on := 1, ground := Ground.data }, { on := 0, ground := Ground.phase }, { on := 1, ground := Ground.phase }, { on := 2, ground := Ground.textOnly Departure.lateStores }, { on := 3, ground := Ground.textOnly Departure.lateStores }, { on := 4, ground := Ground.phase }, { on := 5, ground := Ground.phase }, { on := 6, ground := Ground.phase }, { on := 7, ground := Ground.phase }, { on := 8, ground := Ground.textOnly Departure.lateStores }, { on := 9, ground := Ground.textOnly Departure.lateStores }, { on := 10, ground := Ground.textOnly Departure.lateStoresUnsure }, { on := 11, ground := Ground.phase }], guard := none }) (v := .pointer (some ⟨g, i, none⟩)) rfl (by kernel_rfl) (by kernel_rfl) (by kernel_rfl) (fun _ _ _ h => h) (Or.inl ⟨by rfl, fun w => by go_simp⟩) ?_
    try simp only [Act.put, List.setIfInBounds_toArray, List.set_cons_zero, List.set_cons_succ]
    refine wpAny_ready (rs := [13]) (by kernel_rfl) (by simp) (AllReady.cons (o := { dst := none, op := Op.store 102 (Operand.tmp 18) (Operand.tmp 13), type := 0, pos := "early.go:14", after := #[{ on := 12, ground := Ground.data }, { on := 7, ground := Ground.data }, { on := 0, ground := Ground.phase }, { on := 1, ground := Ground.phase }, { on := 2, ground := Ground.textOnly Departure.lateStores }, { on := 3, ground := Ground.textOnly Departure.lateStores }, { on := 4, ground := Ground.phase }, { on := 5, ground := Ground.phase }, { on := 6, ground := Ground.phase }, { on := 7, ground := Ground.phase }, { on := 8, ground := Ground.textOnly Departure.lateStores }, { on := 9, ground := Ground.textOnly Departure.lateStores }, { on := 10, ground := Ground.textOnly Departure.lateStoresUnsure }, { on := 11, ground := Ground.phase }], guard := none }) rfl (fun K hK => ?_) AllReady.nil)
    go_simp
    refine hK _ _ ?_
    clear hK K
    try simp only [Act.put]
    refine wpAny_take (i := 14) (oi := { dst := some 19, op := Op.indexAddr 106 (Operand.tmp 8) (Operand.tmp 9), type := 0, pos := "early.go:14", after := #[{ on := 2, ground := Ground.data }, { on := 3, ground := Ground.data }, { on := 0, ground := Ground.phase }, { on := 1, ground := Ground.phase }, { on := 2, ground := Ground.phase }, { on := 3, ground := Ground.phase }, { on := 4, ground := Ground.phase }, { on := 5, ground := Ground.phase }, { on := 6, ground := Ground.phase }, { on := 7, ground := Ground.phase }, { on := 8, ground := Ground.phase }, { on := 9, ground := Ground.phase }, { on := 10, ground := Ground.phase }, { on := 11, ground := Ground.phase }, { on := 12, ground := Ground.phase }, { on := 13, ground := Ground.phase }], guard := none }) (v := .pointer (some ⟨g, j, none⟩)) rfl (by kernel_rfl) (by kernel_rfl) (by kernel_rfl) (fun _ _ _ h => h) (Or.inl ⟨by rfl, fun w => by go_simp⟩) ?_
    try simp only [Act.put, List.setIfInBounds_toArray, List.set_cons_zero, List.set_cons_succ]
    refine wpAny_ready (rs := [15]) (by kernel_rfl) (by simp) (AllReady.cons (o := { dst := none, op := Op.store 102 (Operand.tmp 19) (Operand.tmp 17), type := 0, pos := "early.go:14", after := #[{ on := 14, ground := Ground.data }, { on := 11, ground := Ground.data }, { on := 13, ground := Ground.chain }, { on := 0, ground := Ground.phase }, { on := 1, ground := Ground.phase }, { on := 2, ground := Ground.phase }, { on := 3, ground := Ground.phase }, { on := 4, ground := Ground.phase }, { on := 5, ground := Ground.phase }, { on := 6, ground := Ground.phase }, { on := 7, ground := Ground.phase }, { on := 8, ground := Ground.phase }, { on := 9, ground := Ground.phase }, { on := 10, ground := Ground.phase }, { on := 11, ground := Ground.phase }, { on := 12, ground := Ground.phase }, { on := 13, ground := Ground.phase }], guard := none }) rfl (fun K hK => ?_) AllReady.nil)
    go_simp
    refine hK _ _ ?_
    clear hK K
    try simp only [Act.put]
    refine wpAny_done (by kernel_rfl) ?_ _
    go_wp2_with fail
    go_end0
    exact ⟨rfl, unhide HS _ rfl⟩
end Go.Proofs.Ytgiicendejgklaa

/- container/heap's up, over a pile. mkQuJ.py writes it. -/
namespace Go.Proofs.Ytgiicendejgklaa
open Go.RowKit Go.Maps
def Pm (F F' : Nat → El) (n : Nat) : Prop := (∀ L, HS F n L → HS F' n L) ∧ ((∀ i j, i < n → j < n → F i = F j → i = j) → ∀ i j, i < n → j < n → F' i = F' j → i = j)
theorem Pm.refl (F : Nat → El) (n : Nat) : Pm F F n := ⟨fun _ h => h, fun h => h⟩
theorem Pm.trans {F G H : Nat → El} {n : Nat} (h : Pm F G n) (k : Pm G H n) : Pm F H n := ⟨fun L q => k.1 L (h.1 L q), fun q => k.2 (h.2 q)⟩
theorem Pm.sw (F : Nat → El) {n i j : Nat} (hi : i < n) (hj : j < n) : Pm F (hsw F i j) n := ⟨fun _ h => h.sw hi hj, fun h => inj_sw h hi hj⟩
set_option maxRecDepth 100000 in
set_option maxHeartbeats 4000000 in
theorem up_any {w : World} {bp g n cap : Nat} {F : Nat → El} (h : Pl w bp g n cap F) {j : Nat} (hj : j < n) (hu : HU El.sq F n j) :
    Calls Try.prog 62 #[.iface 99 (.pointer (some ⟨bp, 0, none⟩)), .int .i64 (j : Int)] w fun e w' => e = .returned (.tuple #[]) ∧ ∃ F', Pl w' bp g n cap F' ∧ HP El.sq F' n ∧ Pm F F' n ∧ Fr [g] w w' := by
  have hn : n ≤ 1048576 := h.mx
  have H0 : Hid (Pl w bp g n cap F ∧ HU El.sq F n j) := ⟨h, hu⟩
  have hnI : (n : Int) ≤ 1048576 := by omega
  clear h hu
  go_enter Try.func62, Try.ntmps62
  go_wp2_with fail
  go_loopw [1] (fun jv wr => ∃ (t : Nat) (G : Nat → El), jv = .int .i64 (t : Int) ∧ t < n ∧ Hid (Pl wr bp g n cap G ∧ HU El.sq G n t ∧ Pm F G n ∧ Fr [g] w wr)) (fun jv _ => (intOf jv).toNat)
  case atStart => exact ⟨j, F, rfl, hj, (unhide H0).1, (unhide H0).2, Pm.refl _ _, Fr.refl _ _⟩
  case round =>
    clear H0 hj
    obtain ⟨t, G, rfl, ht, HR⟩ := hrel
    have htI : (t : Int) < (n : Int) := by omega
    have t0 : (0 : Int) ≤ (t : Int) := by omega
    rcases Nat.eq_zero_or_pos t with h0 | h0
    · subst h0
      go_wp2_with fail
      go_end0
      exact ⟨rfl, G, (unhide HR).1, (unhide HR).2.1.top, (unhide HR).2.2.1, (unhide HR).2.2.2⟩
    · obtain ⟨p, hp⟩ : ∃ p, p = (t - 1) / 2 := ⟨_, rfl⟩
      have hpt : p < t := by omega
      have hpn : p < n := by omega
      have q1 : ((t : Int) - 1) / 2 = (p : Int) := by omega
      have p0 : (0 : Int) ≤ (p : Int) := by omega
      have mL : (method 275 99 (.pointer (some ⟨bp, 0, none⟩)) "Less").run Try.prog wr = .ok (102, .slice (some ⟨g, 0, none⟩) n cap) wr := methN_less (unhide HR).1.top
      have hne1 : decide ((p : Int) = (t : Int)) = false := decide_eq_false (by omega)
      have hne2 : ((p : Int) == (t : Int)) = false := by simp; omega
      have KL := hide (less_any (unhide HR).1 ht hpn)
      have HP0 := hide hp
      clear hp
      go_wp2_with fail
      refine (unhide KL).mono ?_
      rintro e w1 ⟨rfl, rfl⟩
      have HR1 : Hid (Pl wr.drew bp g n cap G ∧ HU El.sq G n t ∧ Pm F G n ∧ Fr [g] w wr.drew) := ⟨(unhide HR).1.bw (Below.refl _ _).drew, (unhide HR).2.1, (unhide HR).2.2.1, (unhide HR).2.2.2.drew⟩
      clear KL mL
      by_cases hlt : (G t).sq < (G p).sq
      · have hd : decide ((G t).sq < (G p).sq) = true := decide_eq_true hlt
        have HLT := hide hlt
        have mS : (method 275 99 (.pointer (some ⟨bp, 0, none⟩)) "Swap").run Try.prog wr.drew = .ok (105, .slice (some ⟨g, 0, none⟩) n cap) wr.drew := methN_swap (unhide HR1).1.top
        have KS := hide (swap_any (unhide HR1).1 hpn ht)
        clear hlt
        go_wp2_with fail
        refine (unhide KS).mono ?_
        rintro e w2 ⟨rfl, s1, s2⟩
        have HX : Hid (Pl w2 bp g n cap (hsw G p t) ∧ HU El.sq (hsw G p t) n p ∧ Pm F (hsw G p t) n ∧ Fr [g] w w2) := by
          refine ⟨s1, ?_, (unhide HR1).2.2.1.trans (Pm.sw G hpn ht), (unhide HR1).2.2.2.trans s2 (fun _ _ q => q) (fun _ _ q => q)⟩
          have := (unhide HR1).2.1.step h0 ht (by rw [← unhide HP0]; exact unhide HLT)
          rw [← unhide HP0] at this
          exact this
        clear s1 s2 KS mS HLT hd
        go_wp2_with fail
        go_roundw
        case rel => exact ⟨p, hsw G p t, by first | rfl | simp, hpn, HX⟩
        case measure => simp only [intOf]; omega
      · have hd : decide ((G t).sq < (G p).sq) = false := decide_eq_false hlt
        have HF : Hid (∃ F', Pl wr.drew bp g n cap F' ∧ HP El.sq F' n ∧ Pm F F' n ∧ Fr [g] w wr.drew) := ⟨G, (unhide HR1).1, (unhide HR1).2.1.done h0 (by rw [← unhide HP0]; exact hlt), (unhide HR1).2.2.1, (unhide HR1).2.2.2⟩
        clear hlt HR HR1
        go_wp2_with fail
        go_end0
        exact ⟨rfl, unhide HF⟩
end Go.Proofs.Ytgiicendejgklaa

/- container/heap's down, over a pile. mkQuJ.py writes it. -/
namespace Go.Proofs.Ytgiicendejgklaa
open Go.RowKit Go.Maps
set_option maxRecDepth 100000 in
set_option maxHeartbeats 8000000 in
theorem down_any {w : World} {bp g N cap : Nat} {F : Nat → El} (h : Pl w bp g N cap F) {n i0 : Nat} (hn : n ≤ N) (hi : i0 ≤ n) (hu : HD El.sq F n i0) :
    Calls Try.prog 63 #[.iface 99 (.pointer (some ⟨bp, 0, none⟩)), .int .i64 (i0 : Int), .int .i64 (n : Int)] w fun e w' => (∃ b, e = .returned (.bool b)) ∧ ∃ F', Pl w' bp g N cap F' ∧ HP El.sq F' n ∧ Pm F F' n ∧ (∀ q, n ≤ q → F' q = F q) ∧ Fr [g] w w' := by
  have hN : N ≤ 1048576 := h.mx
  have H0 : Hid (Pl w bp g N cap F ∧ HD El.sq F n i0) := ⟨h, hu⟩
  have hNI : (N : Int) ≤ 1048576 := by omega
  have hnI : (n : Int) ≤ 1048576 := by omega
  have hi0 : (0 : Int) ≤ (i0 : Int) := by omega
  clear h hu
  go_enter Try.func63, Try.ntmps63
  go_wp2_with fail
  go_loopw [7] (fun jv wr => ∃ (t : Nat) (G : Nat → El), jv = .int .i64 (t : Int) ∧ t ≤ n ∧ Hid (Pl wr bp g N cap G ∧ HD El.sq G n t ∧ Pm F G n ∧ (∀ q, n ≤ q → G q = F q) ∧ Fr [g] w wr)) (fun jv _ => (n - intOf jv).toNat)
  case atStart => exact ⟨i0, F, rfl, hi, (unhide H0).1, (unhide H0).2, Pm.refl _ _, fun _ _ => rfl, Fr.refl _ _⟩
  case round =>
    clear H0 hi
    obtain ⟨t, G, rfl, ht, HR⟩ := hrel
    have htI : (t : Int) ≤ (n : Int) := by omega
    have t0 : (0 : Int) ≤ (t : Int) := by omega
    obtain ⟨j1, hj1⟩ : ∃ j, j = 2 * t + 1 := ⟨_, rfl⟩
    have q1 : (2 : Int) * (t : Int) + 1 = (j1 : Int) := by omega
    have q2 : (0 : Int) ≤ (j1 : Int) := by omega
    by_cases hc : n ≤ j1
    · have hcI : (n : Int) ≤ (j1 : Int) := by omega
      have HF : Hid (∃ F', Pl wr bp g N cap F' ∧ HP El.sq F' n ∧ Pm F F' n ∧ (∀ q, n ≤ q → F' q = F q) ∧ Fr [g] w wr) := ⟨G, (unhide HR).1, (unhide HR).2.1.stop (by omega), (unhide HR).2.2⟩
      have HJ1 := hide hj1
      clear hj1 HR
      go_wp2_with fail
      go_ret
      exact ⟨⟨_, rfl⟩, unhide HF⟩
    · have hcI : ¬ (n : Int) ≤ (j1 : Int) := by omega
      have hcn : (j1 : Int) < (n : Int) := by omega
      obtain ⟨j2, hj2⟩ : ∃ j, j = j1 + 1 := ⟨_, rfl⟩
      have q3 : (j1 : Int) + 1 = (j2 : Int) := by omega
      have q4 : (0 : Int) ≤ (j2 : Int) := by omega
      by_cases hc2 : j2 < n
      · have hc2I : (j2 : Int) < (n : Int) := by omega
        have h1N : j1 < N := by omega
        have h2N : j2 < N := by omega
        have mL : (method 275 99 (.pointer (some ⟨bp, 0, none⟩)) "Less").run Try.prog wr = .ok (102, .slice (some ⟨g, 0, none⟩) N cap) wr := methN_less (unhide HR).1.top
        have KL := hide (less_any (unhide HR).1 h2N h1N)
        have HJ12 := hide (And.intro hj1 hj2)
        have hje : j2 = 2 * t + 2 ∧ j1 = 2 * t + 1 := by omega
        have HJE := hide hje
        clear hj1 hj2 hje
        go_wp2_with fail
        refine (unhide KL).mono ?_
        rintro e w1 ⟨rfl, rfl⟩
        have HS : Hid (Pl wr.drew bp g N cap G ∧ HD El.sq G n t ∧ Pm F G n ∧ (∀ q, n ≤ q → G q = F q) ∧ Fr [g] w wr.drew) := ⟨(unhide HR).1.bw (Below.refl _ _).drew, (unhide HR).2.1, (unhide HR).2.2.1, (unhide HR).2.2.2.1, (unhide HR).2.2.2.2.drew⟩
        clear KL mL
        by_cases hl2 : (G j2).sq < (G j1).sq
        · have hd2 : decide ((G j2).sq < (G j1).sq) = true := decide_eq_true hl2
          have hjn : j2 < n := by omega
          have hjN : j2 < N := by omega
          have htN : t < N := by omega
          have hm : ∀ c, 0 < c → c < n → (c - 1) / 2 = t → (G j2).sq ≤ (G c).sq := fun c c0 cn hc_ => by
            have hje := unhide HJE
            have hh : c = j1 ∨ c = j2 := by omega
            rcases hh with rfl | rfl
            · omega
            · omega
          have HM := hide hm
          have HJ : Hid (j2 = 2 * t + 1 ∨ j2 = 2 * t + 2) := by have := unhide HJE; unfold Hid; omega
          have mL2 : (method 275 99 (.pointer (some ⟨bp, 0, none⟩)) "Less").run Try.prog wr.drew = .ok (102, .slice (some ⟨g, 0, none⟩) N cap) wr.drew := methN_less (unhide HS).1.top
          have KL2 := hide (less_any (unhide HS).1 hjN htN)
          clear hm
          go_wp2_with fail
          refine (unhide KL2).mono ?_
          rintro e w2 ⟨rfl, rfl⟩
          have HS2 : Hid (Pl wr.drew.drew bp g N cap G ∧ HD El.sq G n t ∧ Pm F G n ∧ (∀ q, n ≤ q → G q = F q) ∧ Fr [g] w wr.drew.drew) := ⟨(unhide HS).1.bw (Below.refl _ _).drew, (unhide HS).2.1, (unhide HS).2.2.1, (unhide HS).2.2.2.1, (unhide HS).2.2.2.2.drew⟩
          clear KL2 mL2 HS
          by_cases hlt : (G j2).sq < (G t).sq
          · have hd : decide ((G j2).sq < (G t).sq) = true := decide_eq_true hlt
            have HLT := hide hlt
            have mS : (method 275 99 (.pointer (some ⟨bp, 0, none⟩)) "Swap").run Try.prog wr.drew.drew = .ok (105, .slice (some ⟨g, 0, none⟩) N cap) wr.drew.drew := methN_swap (unhide HS2).1.top
            have KS := hide (swap_any (unhide HS2).1 htN hjN)
            clear hlt
            go_wp2_with fail
            refine (unhide KS).mono ?_
            rintro e w3 ⟨rfl, s1, s2⟩
            have HX : Hid (Pl w3 bp g N cap (hsw G t j2) ∧ HD El.sq (hsw G t j2) n j2 ∧ Pm F (hsw G t j2) n ∧ (∀ q, n ≤ q → hsw G t j2 q = F q) ∧ Fr [g] w w3) := by
              refine ⟨s1, (unhide HS2).2.1.step (unhide HJ) hjn (unhide HM) (unhide HLT), (unhide HS2).2.2.1.trans (Pm.sw G (by omega) hjn), fun q hq => ?_, (unhide HS2).2.2.2.2.trans s2 (fun _ _ q => q) (fun _ _ q => q)⟩
              rw [hsw_o G (by omega) (by omega)]
              exact (unhide HS2).2.2.2.1 q hq
            have hgt : t < j2 := by have := unhide HJ; omega
            clear s1 s2 KS mS HLT hd
            go_wp2_with fail
            go_roundw
            case rel => exact ⟨j2, hsw G t j2, by first | rfl | simp, by omega, HX⟩
            case measure => simp only [intOf]; omega
          · have hd : decide ((G j2).sq < (G t).sq) = false := decide_eq_false hlt
            have HF : Hid (∃ F', Pl wr.drew.drew bp g N cap F' ∧ HP El.sq F' n ∧ Pm F F' n ∧ (∀ q, n ≤ q → F' q = F q) ∧ Fr [g] w wr.drew.drew) := ⟨G, (unhide HS2).1, (unhide HS2).2.1.done (unhide HM) hlt, (unhide HS2).2.2⟩
            clear hlt HR HS2
            go_wp2_with fail
            go_ret
            exact ⟨⟨_, rfl⟩, unhide HF⟩
        · have hd2 : decide ((G j2).sq < (G j1).sq) = false := decide_eq_false hl2
          have hjn : j1 < n := by omega
          have hjN : j1 < N := by omega
          have htN : t < N := by omega
          have hm : ∀ c, 0 < c → c < n → (c - 1) / 2 = t → (G j1).sq ≤ (G c).sq := fun c c0 cn hc_ => by
            have hje := unhide HJE
            have hh : c = j1 ∨ c = j2 := by omega
            rcases hh with rfl | rfl
            · omega
            · omega
          have HM := hide hm
          have HJ : Hid (j1 = 2 * t + 1 ∨ j1 = 2 * t + 2) := by have := unhide HJE; unfold Hid; omega
          have mL2 : (method 275 99 (.pointer (some ⟨bp, 0, none⟩)) "Less").run Try.prog wr.drew = .ok (102, .slice (some ⟨g, 0, none⟩) N cap) wr.drew := methN_less (unhide HS).1.top
          have KL2 := hide (less_any (unhide HS).1 hjN htN)
          clear hm
          go_wp2_with fail
          refine (unhide KL2).mono ?_
          rintro e w2 ⟨rfl, rfl⟩
          have HS2 : Hid (Pl wr.drew.drew bp g N cap G ∧ HD El.sq G n t ∧ Pm F G n ∧ (∀ q, n ≤ q → G q = F q) ∧ Fr [g] w wr.drew.drew) := ⟨(unhide HS).1.bw (Below.refl _ _).drew, (unhide HS).2.1, (unhide HS).2.2.1, (unhide HS).2.2.2.1, (unhide HS).2.2.2.2.drew⟩
          clear KL2 mL2 HS
          by_cases hlt : (G j1).sq < (G t).sq
          · have hd : decide ((G j1).sq < (G t).sq) = true := decide_eq_true hlt
            have HLT := hide hlt
            have mS : (method 275 99 (.pointer (some ⟨bp, 0, none⟩)) "Swap").run Try.prog wr.drew.drew = .ok (105, .slice (some ⟨g, 0, none⟩) N cap) wr.drew.drew := methN_swap (unhide HS2).1.top
            have KS := hide (swap_any (unhide HS2).1 htN hjN)
            clear hlt
            go_wp2_with fail
            refine (unhide KS).mono ?_
            rintro e w3 ⟨rfl, s1, s2⟩
            have HX : Hid (Pl w3 bp g N cap (hsw G t j1) ∧ HD El.sq (hsw G t j1) n j1 ∧ Pm F (hsw G t j1) n ∧ (∀ q, n ≤ q → hsw G t j1 q = F q) ∧ Fr [g] w w3) := by
              refine ⟨s1, (unhide HS2).2.1.step (unhide HJ) hjn (unhide HM) (unhide HLT), (unhide HS2).2.2.1.trans (Pm.sw G (by omega) hjn), fun q hq => ?_, (unhide HS2).2.2.2.2.trans s2 (fun _ _ q => q) (fun _ _ q => q)⟩
              rw [hsw_o G (by omega) (by omega)]
              exact (unhide HS2).2.2.2.1 q hq
            have hgt : t < j1 := by have := unhide HJ; omega
            clear s1 s2 KS mS HLT hd
            go_wp2_with fail
            go_roundw
            case rel => exact ⟨j1, hsw G t j1, by first | rfl | simp, by omega, HX⟩
            case measure => simp only [intOf]; omega
          · have hd : decide ((G j1).sq < (G t).sq) = false := decide_eq_false hlt
            have HF : Hid (∃ F', Pl wr.drew.drew bp g N cap F' ∧ HP El.sq F' n ∧ Pm F F' n ∧ (∀ q, n ≤ q → F' q = F q) ∧ Fr [g] w wr.drew.drew) := ⟨G, (unhide HS2).1, (unhide HS2).2.1.done (unhide HM) hlt, (unhide HS2).2.2⟩
            clear hlt HR HS2
            go_wp2_with fail
            go_ret
            exact ⟨⟨_, rfl⟩, unhide HF⟩
      · have hc2I : ¬ (j2 : Int) < (n : Int) := by omega
        have hc2J : (n : Int) ≤ (j2 : Int) := by omega
        have hje : j2 = 2 * t + 2 ∧ j1 = 2 * t + 1 := by omega
        have HJE := hide hje
        have HS := HR
        clear hj1 hj2 hje
        have hjn : j1 < n := by omega
        have hjN : j1 < N := by omega
        have htN : t < N := by omega
        have hm : ∀ c, 0 < c → c < n → (c - 1) / 2 = t → (G j1).sq ≤ (G c).sq := fun c c0 cn hc_ => by
          have hje := unhide HJE
          obtain rfl : c = j1 := by omega
          omega
        have HM := hide hm
        have HJ : Hid (j1 = 2 * t + 1 ∨ j1 = 2 * t + 2) := by have := unhide HJE; unfold Hid; omega
        have mL2 : (method 275 99 (.pointer (some ⟨bp, 0, none⟩)) "Less").run Try.prog wr = .ok (102, .slice (some ⟨g, 0, none⟩) N cap) wr := methN_less (unhide HS).1.top
        have KL2 := hide (less_any (unhide HS).1 hjN htN)
        clear hm
        go_wp2_with fail
        refine (unhide KL2).mono ?_
        rintro e w2 ⟨rfl, rfl⟩
        have HS2 : Hid (Pl wr.drew bp g N cap G ∧ HD El.sq G n t ∧ Pm F G n ∧ (∀ q, n ≤ q → G q = F q) ∧ Fr [g] w wr.drew) := ⟨(unhide HS).1.bw (Below.refl _ _).drew, (unhide HS).2.1, (unhide HS).2.2.1, (unhide HS).2.2.2.1, (unhide HS).2.2.2.2.drew⟩
        clear KL2 mL2 HS
        by_cases hlt : (G j1).sq < (G t).sq
        · have hd : decide ((G j1).sq < (G t).sq) = true := decide_eq_true hlt
          have HLT := hide hlt
          have mS : (method 275 99 (.pointer (some ⟨bp, 0, none⟩)) "Swap").run Try.prog wr.drew = .ok (105, .slice (some ⟨g, 0, none⟩) N cap) wr.drew := methN_swap (unhide HS2).1.top
          have KS := hide (swap_any (unhide HS2).1 htN hjN)
          clear hlt
          go_wp2_with fail
          refine (unhide KS).mono ?_
          rintro e w3 ⟨rfl, s1, s2⟩
          have HX : Hid (Pl w3 bp g N cap (hsw G t j1) ∧ HD El.sq (hsw G t j1) n j1 ∧ Pm F (hsw G t j1) n ∧ (∀ q, n ≤ q → hsw G t j1 q = F q) ∧ Fr [g] w w3) := by
            refine ⟨s1, (unhide HS2).2.1.step (unhide HJ) hjn (unhide HM) (unhide HLT), (unhide HS2).2.2.1.trans (Pm.sw G (by omega) hjn), fun q hq => ?_, (unhide HS2).2.2.2.2.trans s2 (fun _ _ q => q) (fun _ _ q => q)⟩
            rw [hsw_o G (by omega) (by omega)]
            exact (unhide HS2).2.2.2.1 q hq
          have hgt : t < j1 := by have := unhide HJ; omega
          clear s1 s2 KS mS HLT hd
          go_wp2_with fail
          go_roundw
          case rel => exact ⟨j1, hsw G t j1, by first | rfl | simp, by omega, HX⟩
          case measure => simp only [intOf]; omega
        · have hd : decide ((G j1).sq < (G t).sq) = false := decide_eq_false hlt
          have HF : Hid (∃ F', Pl wr.drew bp g N cap F' ∧ HP El.sq F' n ∧ Pm F F' n ∧ (∀ q, n ≤ q → F' q = F q) ∧ Fr [g] w wr.drew) := ⟨G, (unhide HS2).1, (unhide HS2).2.1.done (unhide HM) hlt, (unhide HS2).2.2⟩
          clear hlt HR HS2
          go_wp2_with fail
          go_ret
          exact ⟨⟨_, rfl⟩, unhide HF⟩
end Go.Proofs.Ytgiicendejgklaa

/- A pile's Pop; container/heap's Pop over a pile. mkQuJ.py writes it. -/
namespace Go.Proofs.Ytgiicendejgklaa
open Go.RowKit Go.Maps
set_option maxRecDepth 100000 in
set_option maxHeartbeats 4000000 in
theorem plPop_any {w : World} {bp g n cap : Nat} {F : Nat → El} (h : Pl w bp g (n + 1) cap F) :
    Calls Try.prog 103 #[.pointer (some ⟨bp, 0, none⟩)] w fun e w' => e = .returned (.iface 102 (ptrE (F n))) ∧ Pl w' bp g n cap F ∧ Fr [bp] w w' := by
  obtain ⟨M, hM⟩ : ∃ M, M = n + 1 := ⟨_, rfl⟩
  rw [← hM] at h
  have hN : M ≤ 1048576 := h.mx
  have c1 := h.top
  have c2 : w.cell? ⟨g, n, none⟩ = some (ptrE (F n)) := h.cell (by omega)
  have fz : ∀ j, w.frozen? ⟨bp, j, none⟩ = false := fun j => froz_b' (i := j) h.blk
  obtain ⟨P, hP⟩ : ∃ P, P = ptrE (F n) := ⟨_, rfl⟩
  rw [← hP] at c2 ⊢
  have HF : Hid (Pl (w.setCell ⟨bp, 0, none⟩ (.slice (some ⟨g, 0, none⟩) n cap)) bp g n cap F ∧ Fr [bp] w (w.setCell ⟨bp, 0, none⟩ (.slice (some ⟨g, 0, none⟩) n cap))) := by
    have p1 := poke_b (i := 0) h.blk (.slice (some ⟨g, 0, none⟩) n cap)
    have oth : ∀ k, k ≠ bp → (w.setCell ⟨bp, 0, none⟩ (.slice (some ⟨g, 0, none⟩) n cap)).heap[k]? = w.heap[k]? := fun k hk => other_c hk
    obtain ⟨cur, h1, h2, h3⟩ := h.row
    refine ⟨⟨by simpa using p1, ⟨cur, by rw [oth g (Ne.symm h.ne)]; exact h1, h2, fun i hi => h3 i (by omega)⟩, by have := h.le; omega, by have := h.mx; omega, h.ne, fun i hi => ?_, fun i hi => h.ap i (by omega)⟩, (Fr.refl [bp] w).setCell (Or.inr (by simp)) _⟩
    rw [World.cell?_of_block (w := w) (oth _ (h.ap i (by omega)).1)]
    exact h.sq i (by omega)
  have q1 : (M : Int) - 1 = (n : Int) := by omega
  have q2 : (0 : Int) ≤ (n : Int) := by omega
  have q3 : (n : Int) < (M : Int) := by omega
  have q4 : (n : Int) ≤ (cap : Int) := by have := h.le; omega
  have q5 : n ≤ cap := by have := h.le; omega
  have q6 : (M : Int) ≤ 1048576 := by omega
  have hPf : ∃ b o, P = .pointer (some ⟨b, o, none⟩) := ⟨_, _, hP⟩
  obtain ⟨pb, po, rfl⟩ := hPf
  clear h hM hP hN
  go_enter Try.func103, Try.ntmps103
  go_wp2_with fail
  go_ret
  exact ⟨rfl, unhide HF⟩
set_option maxRecDepth 100000 in
set_option maxHeartbeats 4000000 in
theorem hpPop_any {w : World} {bp g n cap : Nat} {F : Nat → El} (h : Pl w bp g (n + 1) cap F) (hp : HP El.sq F (n + 1)) :
    Calls Try.prog 45 #[.iface 99 (.pointer (some ⟨bp, 0, none⟩))] w fun e w' => e = .returned (.iface 102 (ptrE (F 0))) ∧ ∃ F', Pl w' bp g n cap F' ∧ HP El.sq F' n ∧ Pm (hsw F 0 n) F' n ∧ Fr [bp, g] w w' := by
  have hd := hp.pop
  obtain ⟨M, hM⟩ : ∃ M, M = n + 1 := ⟨_, rfl⟩
  rw [← hM] at h
  have hN : M ≤ 1048576 := h.mx
  have KN : Hid (Calls Try.prog 101 #[.slice (some ⟨g, 0, none⟩) M cap] w fun e w' => e = .returned (.int .i64 (M : Int)) ∧ w' = w) := plLen_any g M cap
  have KS : Hid (Calls Try.prog 105 #[.slice (some ⟨g, 0, none⟩) M cap, .int .i64 0, .int .i64 (n : Int)] w fun e w' => e = .returned (.tuple #[]) ∧ Pl w' bp g M cap (hsw F 0 n) ∧ Fr [g] w w') := swap_any h (i := 0) (j := n) (by omega) (by omega)
  have KD : Hid (∀ W, Pl W bp g M cap (hsw F 0 n) → Calls Try.prog 63 #[.iface 99 (.pointer (some ⟨bp, 0, none⟩)), .int .i64 0, .int .i64 (n : Int)] W fun e w' => (∃ b, e = .returned (.bool b)) ∧ ∃ F', Pl w' bp g M cap F' ∧ HP El.sq F' n ∧ Pm (hsw F 0 n) F' n ∧ (∀ q, n ≤ q → F' q = hsw F 0 n q) ∧ Fr [g] W w') := fun W hW => down_any hW (n := n) (i0 := 0) (by omega) (by omega) hd
  have m1 : (method 275 99 (.pointer (some ⟨bp, 0, none⟩)) "Len").run Try.prog w = .ok (101, .slice (some ⟨g, 0, none⟩) M cap) w := methN_len h.top
  have m2 : (method 275 99 (.pointer (some ⟨bp, 0, none⟩)) "Swap").run Try.prog w = .ok (105, .slice (some ⟨g, 0, none⟩) M cap) w := methN_swap h.top
  have q1 : (M : Int) - 1 = (n : Int) := by omega
  have q2 : (0 : Int) ≤ (n : Int) := by omega
  have q6 : (M : Int) ≤ 1048576 := by omega
  have HM := hide hM
  clear h hp hd hM hN
  go_enter Try.func45, Try.ntmps45
  go_wp2_with fail
  refine (unhide KN).mono ?_
  rintro e w0 ⟨rfl, rfl⟩
  clear KN m1
  go_wp2_with fail
  refine (unhide KS).mono ?_
  rintro e w1 ⟨rfl, s1, s2⟩
  have KD1 := hide (unhide KD w1 s1)
  have HS := hide s2
  clear KS KD m2 s1 s2
  go_wp2_with fail
  refine (unhide KD1).mono ?_
  rintro e w2 ⟨⟨b, rfl⟩, F', d1, d2, d3, d4, d5⟩
  have KP : Hid (Calls Try.prog 103 #[.pointer (some ⟨bp, 0, none⟩)] w2 fun e w' => e = .returned (.iface 102 (ptrE (F' n))) ∧ Pl w' bp g n cap F' ∧ Fr [bp] w2 w') := plPop_any (by rw [← unhide HM]; exact d1)
  have m3 := methN_pop bp w2
  have HD : Hid (ptrE (F' n) = ptrE (F 0) ∧ HP El.sq F' n ∧ Pm (hsw F 0 n) F' n ∧ Fr [g] w0 w2) := ⟨by rw [d4 n (Nat.le_refl _), hsw_r], d2, d3, (unhide HS).trans d5 (fun _ _ q => q) (fun _ _ q => q)⟩
  clear KD1 d1 d2 d3 d4 d5 HS
  go_wp2_with fail
  refine (unhide KP).mono ?_
  rintro e w3 ⟨rfl, p1, p2⟩
  have HF : Hid (∃ F', Pl w3 bp g n cap F' ∧ HP El.sq F' n ∧ Pm (hsw F 0 n) F' n ∧ Fr [bp, g] w0 w3) := ⟨F', p1, (unhide HD).2.1, (unhide HD).2.2.1, (unhide HD).2.2.2.trans p2 (fun _ _ q => by simp at q; simp [q]) (fun _ _ q => by simp at q; simp [q])⟩
  rw [(unhide HD).1]
  clear KP p1 p2 HD m3
  go_wp2_with fail
  go_ret
  exact ⟨rfl, unhide HF⟩
end Go.Proofs.Ytgiicendejgklaa
