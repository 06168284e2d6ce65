/- Contracts of attempt at each of its uses, with what is put back, and of the Reader's methods, of one that was made. -/
import Derived.Test.YtfnpeiikjiffeaaGreatBaB
import Derived.Defers
namespace Go.Proofs.YtfnpeiikjiffeaaGreat.Wi
open Go.RowKit

/-- The three variables of attempt, as blocks of their own, behind what take left. -/
structure Att (w w1 : World) (b k : Nat) : Prop where
  c0 : w1.cell? ⟨w.heap.size, 0, none⟩ = some (.pointer (some ⟨b, 0, none⟩))
  c1 : w1.cell? ⟨w.heap.size + 1, 0, none⟩ = some (.int .i64 0)
  f1 : w1.frozen? ⟨w.heap.size + 1, 0, none⟩ = false
  c2 : w1.cell? ⟨w.heap.size + 2, 0, none⟩ = some (.int .i64 k)
set_option maxRecDepth 100000 in
theorem att_world {w : World} {b k : Nat} {s : ByteArray} (h : RD w b s k) (tp te ti : TypeId) :
    (∀ o1 o2 : Obj, ((w.alloc o1).alloc o2).cell? ⟨b, 0, none⟩ = some (.bool true)) ∧ (∀ o1 o2 : Obj, ((w.alloc o1).alloc o2).cell? ⟨b, 2, none⟩ = some (.int .i64 k)) ∧
    RD (((w.alloc (.cells #[.pointer (some ⟨b, 0, none⟩)] tp)).alloc (.cells #[.int .i64 0] te)).alloc (.cells #[.int .i64 k] ti)) b s k ∧
    Fr [] w (((w.alloc (.cells #[.pointer (some ⟨b, 0, none⟩)] tp)).alloc (.cells #[.int .i64 0] te)).alloc (.cells #[.int .i64 k] ti)) ∧
    ∀ w1, Fr [b] (((w.alloc (.cells #[.pointer (some ⟨b, 0, none⟩)] tp)).alloc (.cells #[.int .i64 0] te)).alloc (.cells #[.int .i64 k] ti)) w1 → Att w w1 b k := by
  have hb : b < w.heap.size := lt_of_blk h
  have hF : Fr [] w (((w.alloc (.cells #[.pointer (some ⟨b, 0, none⟩)] tp)).alloc (.cells #[.int .i64 0] te)).alloc (.cells #[.int .i64 k] ti)) := (((Fr.refl [] w).alloc _).alloc _).alloc _
  refine ⟨fun o1 o2 => (h.new (((Fr.refl [] w).alloc o1).alloc o2)).c0, fun o1 o2 => (h.new (((Fr.refl [] w).alloc o1).alloc o2)).c2, h.new hF, hF, fun w1 h1 => ?_⟩
  have k0 := h1.block w.heap.size (by simp; omega) (by simp; omega)
  have k1 := h1.block (w.heap.size + 1) (by simp) (by simp; omega)
  have k2 := h1.block (w.heap.size + 2) (by simp) (by simp; omega)
  refine ⟨?_, ?_, ?_, ?_⟩
  · rw [World.cell?_of_block (w := ((w.alloc (.cells #[.pointer (some ⟨b, 0, none⟩)] tp)).alloc (.cells #[.int .i64 0] te)).alloc (.cells #[.int .i64 k] ti)) k0]; simp [go_sem]
  · rw [World.cell?_of_block (w := ((w.alloc (.cells #[.pointer (some ⟨b, 0, none⟩)] tp)).alloc (.cells #[.int .i64 0] te)).alloc (.cells #[.int .i64 k] ti)) k1]; simp [go_sem]
  · rw [World.frozen?_of_block (w := ((w.alloc (.cells #[.pointer (some ⟨b, 0, none⟩)] tp)).alloc (.cells #[.int .i64 0] te)).alloc (.cells #[.int .i64 k] ti)) k1]; simp [go_sem]
  · rw [World.cell?_of_block (w := ((w.alloc (.cells #[.pointer (some ⟨b, 0, none⟩)] tp)).alloc (.cells #[.int .i64 0] te)).alloc (.cells #[.int .i64 k] ti)) k2]; simp [go_sem]
set_option maxRecDepth 100000 in
/-- The door of attempt: what the cells hold behind the store of the error, and what becomes of the Reader. -/
theorem att_door {w w1 : World} {b k : Nat} {E : Int} (A : Att w w1 b k) :
    (w1.setCell ⟨w.heap.size + 1, 0, none⟩ (.int .i64 E)).cell? ⟨w.heap.size + 1, 0, none⟩ = some (.int .i64 E) ∧
    (w1.setCell ⟨w.heap.size + 1, 0, none⟩ (.int .i64 E)).cell? ⟨w.heap.size + 1 + 1, 0, none⟩ = some (.int .i64 k) ∧
    (w1.setCell ⟨w.heap.size + 1, 0, none⟩ (.int .i64 E)).cell? ⟨w.heap.size, 0, none⟩ = some (.pointer (some ⟨b, 0, none⟩)) :=
  ⟨World.cell?_setCell_same _ _ _ A.c1, by rw [World.cell?_setCell_other _ _ _ _ (by simp)]; exact A.c2, by rw [World.cell?_setCell_other _ _ _ _ (by simp)]; exact A.c0⟩
set_option maxRecDepth 100000 in
theorem att_frame {w w0 w1 : World} {b k : Nat} {s : ByteArray} {j : Nat} (h : RD w b s k) (h0 : Fr [] w w0) (h1 : Fr [b] w0 w1) (hr : RD w1 b s j) (u : Value) :
    RD (w1.setCell ⟨w.heap.size + 1, 0, none⟩ u) b s j ∧ Fr [b] w (w1.setCell ⟨w.heap.size + 1, 0, none⟩ u) := by
  have hb : b < w.heap.size := lt_of_blk h
  refine ⟨hr.keep (S := [w.heap.size + 1]) ((Fr.refl _ _).setCell (Or.inr (by simp)) _) (by simp; omega), ?_⟩
  exact (h0.trans (T := [b]) h1 (fun _ _ c => by cases c) (fun _ _ c => c)).setCell (Or.inl (by simp)) _

/-- What an attempt leaves: o says what stands there, and the place behind it; if there is nothing, nothing is taken. -/
def Tried (w : World) (b : Nat) (s : ByteArray) (k : Nat) (zero : Value) (o : Option (Value × Nat)) (e : Ending) (w' : World) : Prop :=
  Fr [b] w w' ∧ match o with
    | some (v, j) => e = .returned (.tuple #[v, .int .i64 0]) ∧ RD w' b s j
    | none => e = .returned (.tuple #[zero, .int .i64 4]) ∧ RD w' b s k

set_option maxRecDepth 100000 in
theorem cloI_ok (pe ps pr : Addr) (u : FrameMode) (w : World) (he : w.cell? pe = some (.int .i64 0)) :
    CallsD Tryz.prog 96 #[.pointer (some pe), .pointer (some ps), .pointer (some pr)] u w fun e u' w' => u' = u ∧ (e = .returned (.tuple #[]) ∧ w' = w) := by
  go_enter_d Tryz.func96, Tryz.ntmps96
  go_wp2
  go_end0
  exact ⟨rfl, rfl⟩
set_option maxRecDepth 100000 in
theorem cloI_err (pe ps pr : Addr) (b k : Nat) (s : ByteArray) (j : Nat) (u : FrameMode) (w : World) (he : w.cell? pe = some (.int .i64 4)) (hs : w.cell? ps = some (.int .i64 k)) (hr : w.cell? pr = some (.pointer (some ⟨b, 0, none⟩))) (hrd : RD w b s j) :
    CallsD Tryz.prog 96 #[.pointer (some pe), .pointer (some ps), .pointer (some pr)] u w fun e u' w' => u' = u ∧ (e = .returned (.tuple #[]) ∧ w' = w.setCell ⟨b, 2, none⟩ (.int .i64 k)) := by
  have c2 := hrd.c2
  have f2 := hrd.f2
  go_enter_d Tryz.func96, Tryz.ntmps96
  go_wp2
  go_end0
  exact ⟨rfl, rfl⟩

set_option maxRecDepth 100000 in
theorem cloS_ok (pe ps pr : Addr) (u : FrameMode) (w : World) (he : w.cell? pe = some (.int .i64 0)) :
    CallsD Tryz.prog 98 #[.pointer (some pe), .pointer (some ps), .pointer (some pr)] u w fun e u' w' => u' = u ∧ (e = .returned (.tuple #[]) ∧ w' = w) := by
  go_enter_d Tryz.func98, Tryz.ntmps98
  go_wp2
  go_end0
  exact ⟨rfl, rfl⟩
set_option maxRecDepth 100000 in
theorem cloS_err (pe ps pr : Addr) (b k : Nat) (s : ByteArray) (j : Nat) (u : FrameMode) (w : World) (he : w.cell? pe = some (.int .i64 4)) (hs : w.cell? ps = some (.int .i64 k)) (hr : w.cell? pr = some (.pointer (some ⟨b, 0, none⟩))) (hrd : RD w b s j) :
    CallsD Tryz.prog 98 #[.pointer (some pe), .pointer (some ps), .pointer (some pr)] u w fun e u' w' => u' = u ∧ (e = .returned (.tuple #[]) ∧ w' = w.setCell ⟨b, 2, none⟩ (.int .i64 k)) := by
  have c2 := hrd.c2
  have f2 := hrd.f2
  go_enter_d Tryz.func98, Tryz.ntmps98
  go_wp2
  go_end0
  exact ⟨rfl, rfl⟩

set_option maxHeartbeats 400000 in
set_option maxRecDepth 100000 in
theorem rByte_try (b k : Nat) (s : ByteArray) (w : World) (h : RD w b s k) (hs : s.size ≤ 140737488355328) :
    Calls Tryz.prog 76 #[.pointer (some ⟨b, 0, none⟩), .func (.func 112) #[] #[]] w (Tried w b s k (.int .i64 0) (tbyte s.data.toList k)) := by
  have hmf : ∀ (fn : Fn) (first cap : Array Value) (w : World), (Instr.makeFunc fn first cap).run Tryz.prog w = .ok (.func fn first cap) w := fun _ _ _ _ => rfl
  obtain ⟨a0, a2, hr3, hf3, hat⟩ := att_world h 65 25 3
  have HA := hide hat
  clear hat
  have K := takeByte_any b k s _ hr3 hs
  cases ho : tbyte s.data.toList k with
  | some p =>
    obtain ⟨v, j⟩ := p
    rw [ho] at K
    clear ho
    go_enter_defers Tryz.func76, Tryz.ntmps76
    go_wp2_with (first | (go_at_call 95; refine (rmiss_at _ _ _ (a0 _ _)).mono ?_; rintro e w9 ⟨rfl, rfl⟩) | (go_at_call 112; refine K.mono ?_; rintro e w1 ⟨hf1, rfl, hr1⟩; have g1 := (unhide HA w1 hf1).c1; have g2 := (unhide HA w1 hf1).f1))
    obtain ⟨d1, d2, d3⟩ := att_door (E := 0) (unhide HA w1 hf1)
    have R := att_frame h hf3 hf1 hr1 (.int .i64 0)
    refine leaves_cons (f := 96) (args := #[.pointer (some ⟨w.heap.size + 1, 0, none⟩), .pointer (some ⟨w.heap.size + 1 + 1, 0, none⟩), .pointer (some ⟨w.heap.size, 0, none⟩)]) (by simp) (by simp [go_sem]) ?_
    refine (cloI_ok _ _ _ .returning _ d1).mono ?_
    rintro e u' w'' ⟨rfl, rfl, rfl⟩
    exact ⟨.tuple #[v, .int .i64 0], by simp [results, Tryz.results76, go_sem, d1], R.2, rfl, R.1⟩
  | none =>
    rw [ho] at K
    clear ho
    go_enter_defers Tryz.func76, Tryz.ntmps76
    go_wp2_with (first | (go_at_call 95; refine (rmiss_at _ _ _ (a0 _ _)).mono ?_; rintro e w9 ⟨rfl, rfl⟩) | (go_at_call 112; refine K.mono ?_; rintro e w1 ⟨hf1, rfl, j, hr1⟩; have g1 := (unhide HA w1 hf1).c1; have g2 := (unhide HA w1 hf1).f1))
    obtain ⟨d1, d2, d3⟩ := att_door (E := 4) (unhide HA w1 hf1)
    have R := att_frame h hf3 hf1 hr1 (.int .i64 4)
    have hb : b < w.heap.size := lt_of_blk h
    refine leaves_cons (f := 96) (args := #[.pointer (some ⟨w.heap.size + 1, 0, none⟩), .pointer (some ⟨w.heap.size + 1 + 1, 0, none⟩), .pointer (some ⟨w.heap.size, 0, none⟩)]) (by simp) (by simp [go_sem]) ?_
    refine (cloI_err _ _ _ b k s j .returning _ d1 d2 d3 R.1).mono ?_
    rintro e u' w'' ⟨rfl, rfl, rfl⟩
    have d4 : ((w1.setCell ⟨w.heap.size + 1, 0, none⟩ (.int .i64 4)).setCell ⟨b, 2, none⟩ (.int .i64 k)).cell? ⟨w.heap.size + 1, 0, none⟩ = some (.int .i64 4) := by
      rw [World.cell?_setCell_other _ _ _ _ (by simp)]; exact d1
    exact ⟨.tuple #[.int .i64 0, .int .i64 4], by simp [results, Tryz.results76, go_sem, d4], R.2.setCell (Or.inr (by simp)) _, rfl, R.1.set k⟩

set_option maxHeartbeats 400000 in
set_option maxRecDepth 100000 in
theorem rByte_any (b k : Nat) (s : ByteArray) (w : World) (h : RD w b s k) (hs : s.size ≤ 140737488355328) :
    Calls Tryz.prog 103 #[.pointer (some ⟨b, 0, none⟩)] w (Tried w b s k (.int .i64 0) (tbyte s.data.toList k)) := by
  have K := rByte_try b k s w h hs
  cases ho : tbyte s.data.toList k with
  | some p =>
    obtain ⟨v, j⟩ := p
    rw [ho] at K
    clear ho
    go_enter Tryz.func103, Tryz.ntmps103
    go_wp2_with (go_at_call 76; refine K.mono ?_; rintro e w1 ⟨hf1, rfl, hr1⟩)
    go_ret2
    exact ⟨hf1, rfl, hr1⟩
  | none =>
    rw [ho] at K
    clear ho
    go_enter Tryz.func103, Tryz.ntmps103
    go_wp2_with (go_at_call 76; refine K.mono ?_; rintro e w1 ⟨hf1, rfl, hr1⟩)
    go_ret2
    exact ⟨hf1, rfl, hr1⟩

set_option maxHeartbeats 400000 in
set_option maxRecDepth 100000 in
theorem rText_try (b k : Nat) (s : ByteArray) (w : World) (h : RD w b s k) (hs : s.size ≤ 140737488355328) :
    Calls Tryz.prog 78 #[.pointer (some ⟨b, 0, none⟩), .func (.func 79) #[] #[]] w (Tried w b s k (.string ⟨#[]⟩) (textO (ttext s.data.toList k))) := by
  have hmf : ∀ (fn : Fn) (first cap : Array Value) (w : World), (Instr.makeFunc fn first cap).run Tryz.prog w = .ok (.func fn first cap) w := fun _ _ _ _ => rfl
  obtain ⟨a0, a2, hr3, hf3, hat⟩ := att_world h 65 25 3
  have HA := hide hat
  clear hat
  have K := takeText_any b k s _ hr3 hs
  cases ho : textO (ttext s.data.toList k) with
  | some p =>
    obtain ⟨v, j⟩ := p
    rw [ho] at K
    clear ho
    go_enter_defers Tryz.func78, Tryz.ntmps78
    go_wp2_with (first | (go_at_call 95; refine (rmiss_at _ _ _ (a0 _ _)).mono ?_; rintro e w9 ⟨rfl, rfl⟩) | (go_at_call 79; refine K.mono ?_; rintro e w1 ⟨hf1, rfl, hr1⟩; have g1 := (unhide HA w1 hf1).c1; have g2 := (unhide HA w1 hf1).f1))
    obtain ⟨d1, d2, d3⟩ := att_door (E := 0) (unhide HA w1 hf1)
    have R := att_frame h hf3 hf1 hr1 (.int .i64 0)
    refine leaves_cons (f := 98) (args := #[.pointer (some ⟨w.heap.size + 1, 0, none⟩), .pointer (some ⟨w.heap.size + 1 + 1, 0, none⟩), .pointer (some ⟨w.heap.size, 0, none⟩)]) (by simp) (by simp [go_sem]) ?_
    refine (cloS_ok _ _ _ .returning _ d1).mono ?_
    rintro e u' w'' ⟨rfl, rfl, rfl⟩
    exact ⟨.tuple #[v, .int .i64 0], by simp [results, Tryz.results78, go_sem, d1], R.2, rfl, R.1⟩
  | none =>
    rw [ho] at K
    clear ho
    go_enter_defers Tryz.func78, Tryz.ntmps78
    go_wp2_with (first | (go_at_call 95; refine (rmiss_at _ _ _ (a0 _ _)).mono ?_; rintro e w9 ⟨rfl, rfl⟩) | (go_at_call 79; refine K.mono ?_; rintro e w1 ⟨hf1, rfl, j, hr1⟩; have g1 := (unhide HA w1 hf1).c1; have g2 := (unhide HA w1 hf1).f1))
    obtain ⟨d1, d2, d3⟩ := att_door (E := 4) (unhide HA w1 hf1)
    have R := att_frame h hf3 hf1 hr1 (.int .i64 4)
    have hb : b < w.heap.size := lt_of_blk h
    refine leaves_cons (f := 98) (args := #[.pointer (some ⟨w.heap.size + 1, 0, none⟩), .pointer (some ⟨w.heap.size + 1 + 1, 0, none⟩), .pointer (some ⟨w.heap.size, 0, none⟩)]) (by simp) (by simp [go_sem]) ?_
    refine (cloS_err _ _ _ b k s j .returning _ d1 d2 d3 R.1).mono ?_
    rintro e u' w'' ⟨rfl, rfl, rfl⟩
    have d4 : ((w1.setCell ⟨w.heap.size + 1, 0, none⟩ (.int .i64 4)).setCell ⟨b, 2, none⟩ (.int .i64 k)).cell? ⟨w.heap.size + 1, 0, none⟩ = some (.int .i64 4) := by
      rw [World.cell?_setCell_other _ _ _ _ (by simp)]; exact d1
    exact ⟨.tuple #[.string ⟨#[]⟩, .int .i64 4], by simp [results, Tryz.results78, go_sem, d4], R.2.setCell (Or.inr (by simp)) _, rfl, R.1.set k⟩

set_option maxHeartbeats 400000 in
set_option maxRecDepth 100000 in
theorem rText_any (b k : Nat) (s : ByteArray) (w : World) (h : RD w b s k) (hs : s.size ≤ 140737488355328) :
    Calls Tryz.prog 57 #[.pointer (some ⟨b, 0, none⟩)] w (Tried w b s k (.string ⟨#[]⟩) (textO (ttext s.data.toList k))) := by
  have K := rText_try b k s w h hs
  cases ho : textO (ttext s.data.toList k) with
  | some p =>
    obtain ⟨v, j⟩ := p
    rw [ho] at K
    clear ho
    go_enter Tryz.func57, Tryz.ntmps57
    go_wp2_with (go_at_call 78; refine K.mono ?_; rintro e w1 ⟨hf1, rfl, hr1⟩)
    go_ret2
    exact ⟨hf1, rfl, hr1⟩
  | none =>
    rw [ho] at K
    clear ho
    go_enter Tryz.func57, Tryz.ntmps57
    go_wp2_with (go_at_call 78; refine K.mono ?_; rintro e w1 ⟨hf1, rfl, hr1⟩)
    go_ret2
    exact ⟨hf1, rfl, hr1⟩

set_option maxHeartbeats 400000 in
set_option maxRecDepth 100000 in
theorem rList_try (b k : Nat) (s : ByteArray) (w : World) (h : RD w b s k) (hs : s.size ≤ 140737488355328) :
    Calls Tryz.prog 76 #[.pointer (some ⟨b, 0, none⟩), .func (.func 77) #[] #[]] w (Tried w b s k (.int .i64 0) (numO (tcnt s.data.toList k))) := by
  have hmf : ∀ (fn : Fn) (first cap : Array Value) (w : World), (Instr.makeFunc fn first cap).run Tryz.prog w = .ok (.func fn first cap) w := fun _ _ _ _ => rfl
  obtain ⟨a0, a2, hr3, hf3, hat⟩ := att_world h 65 25 3
  have HA := hide hat
  clear hat
  have K := takeCount_any b k s _ hr3 hs
  cases ho : numO (tcnt s.data.toList k) with
  | some p =>
    obtain ⟨v, j⟩ := p
    rw [ho] at K
    clear ho
    go_enter_defers Tryz.func76, Tryz.ntmps76
    go_wp2_with (first | (go_at_call 95; refine (rmiss_at _ _ _ (a0 _ _)).mono ?_; rintro e w9 ⟨rfl, rfl⟩) | (go_at_call 77; refine K.mono ?_; rintro e w1 ⟨hf1, rfl, hr1⟩; have g1 := (unhide HA w1 hf1).c1; have g2 := (unhide HA w1 hf1).f1))
    obtain ⟨d1, d2, d3⟩ := att_door (E := 0) (unhide HA w1 hf1)
    have R := att_frame h hf3 hf1 hr1 (.int .i64 0)
    refine leaves_cons (f := 96) (args := #[.pointer (some ⟨w.heap.size + 1, 0, none⟩), .pointer (some ⟨w.heap.size + 1 + 1, 0, none⟩), .pointer (some ⟨w.heap.size, 0, none⟩)]) (by simp) (by simp [go_sem]) ?_
    refine (cloI_ok _ _ _ .returning _ d1).mono ?_
    rintro e u' w'' ⟨rfl, rfl, rfl⟩
    exact ⟨.tuple #[v, .int .i64 0], by simp [results, Tryz.results76, go_sem, d1], R.2, rfl, R.1⟩
  | none =>
    rw [ho] at K
    clear ho
    go_enter_defers Tryz.func76, Tryz.ntmps76
    go_wp2_with (first | (go_at_call 95; refine (rmiss_at _ _ _ (a0 _ _)).mono ?_; rintro e w9 ⟨rfl, rfl⟩) | (go_at_call 77; refine K.mono ?_; rintro e w1 ⟨hf1, rfl, j, hr1⟩; have g1 := (unhide HA w1 hf1).c1; have g2 := (unhide HA w1 hf1).f1))
    obtain ⟨d1, d2, d3⟩ := att_door (E := 4) (unhide HA w1 hf1)
    have R := att_frame h hf3 hf1 hr1 (.int .i64 4)
    have hb : b < w.heap.size := lt_of_blk h
    refine leaves_cons (f := 96) (args := #[.pointer (some ⟨w.heap.size + 1, 0, none⟩), .pointer (some ⟨w.heap.size + 1 + 1, 0, none⟩), .pointer (some ⟨w.heap.size, 0, none⟩)]) (by simp) (by simp [go_sem]) ?_
    refine (cloI_err _ _ _ b k s j .returning _ d1 d2 d3 R.1).mono ?_
    rintro e u' w'' ⟨rfl, rfl, rfl⟩
    have d4 : ((w1.setCell ⟨w.heap.size + 1, 0, none⟩ (.int .i64 4)).setCell ⟨b, 2, none⟩ (.int .i64 k)).cell? ⟨w.heap.size + 1, 0, none⟩ = some (.int .i64 4) := by
      rw [World.cell?_setCell_other _ _ _ _ (by simp)]; exact d1
    exact ⟨.tuple #[.int .i64 0, .int .i64 4], by simp [results, Tryz.results76, go_sem, d4], R.2.setCell (Or.inr (by simp)) _, rfl, R.1.set k⟩

set_option maxHeartbeats 400000 in
set_option maxRecDepth 100000 in
theorem rList_any (b k : Nat) (s : ByteArray) (w : World) (h : RD w b s k) (hs : s.size ≤ 140737488355328) :
    Calls Tryz.prog 56 #[.pointer (some ⟨b, 0, none⟩)] w (Tried w b s k (.int .i64 0) (numO (tcnt s.data.toList k))) := by
  have K := rList_try b k s w h hs
  cases ho : numO (tcnt s.data.toList k) with
  | some p =>
    obtain ⟨v, j⟩ := p
    rw [ho] at K
    clear ho
    go_enter Tryz.func56, Tryz.ntmps56
    go_wp2_with (go_at_call 76; refine K.mono ?_; rintro e w1 ⟨hf1, rfl, hr1⟩)
    go_ret2
    exact ⟨hf1, rfl, hr1⟩
  | none =>
    rw [ho] at K
    clear ho
    go_enter Tryz.func56, Tryz.ntmps56
    go_wp2_with (go_at_call 76; refine K.mono ?_; rintro e w1 ⟨hf1, rfl, hr1⟩)
    go_ret2
    exact ⟨hf1, rfl, hr1⟩

set_option maxHeartbeats 400000 in
set_option maxRecDepth 100000 in
theorem newReader_any (s : ByteArray) (w : World) :
    Calls Tryz.prog 34 #[.string s] w fun e w' => e = .returned (.pointer (some ⟨w.heap.size, 0, none⟩)) ∧ w' = w.alloc (.cells #[.bool true, .string s, .int .i64 0] 102) := by
  go_enter Tryz.func34, Tryz.ntmps34
  go_wp2
  go_ret
  exact ⟨rfl, rfl⟩

end Go.Proofs.YtfnpeiikjiffeaaGreat.Wi
