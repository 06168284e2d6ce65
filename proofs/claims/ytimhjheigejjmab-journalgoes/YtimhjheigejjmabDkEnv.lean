/- Disks beside other resources: the contracts of package disk, as the laws use them; a row of texts. -/
import Derived.Test.YtimhjheigejjmabDkJ
import Derived.Test.YtimhjheigejjmabDkLawP
namespace Go.Proofs.Ytimhjheigejjmab
open Go.RowKit Go.Maps

theorem bw_alloc (w : World) (o : Obj) : Below w.heap.size w (w.alloc o) := (Below.refl _ _).alloc (Nat.le_refl _) _
theorem bw_drew (w : World) : Below w.heap.size w w.drew := ⟨rfl, rfl, rfl, Nat.le_refl _, fun _ _ => rfl⟩
/-- A disk, and beside it what lies apart of it. -/
def ED (w W : World) (d : Nat) (S : DS) (rs : List Res) : Prop := ∃ Z, Env w W (resD d S Z :: rs)
theorem ED.bel {w W : World} {d : Nat} {S : DS} {rs : List Res} (h : ED w W d S rs) : Below w.heap.size w W := by obtain ⟨Z, h⟩ := h; exact h.bel
theorem ED.ok {w W : World} {d : Nat} {S : DS} {rs : List Res} (h : ED w W d S rs) : S.ok := by obtain ⟨Z, h⟩ := h; exact DkS.ok h.hd
theorem ED.new {w W W1 : World} {d : Nat} {S : DS} {rs : List Res} (h : ED w W d S rs) (hb : Below W.heap.size W W1) : ED w W1 d S rs := by obtain ⟨Z, h⟩ := h; exact ⟨Z, h.new hb⟩
theorem ED.drew {w W : World} {d : Nat} {S : DS} {rs : List Res} (h : ED w W d S rs) : ED w W.drew d S rs := h.new ⟨rfl, rfl, rfl, Nat.le_refl _, fun _ _ => rfl⟩
theorem ED.start {w W : World} {rs : List Res} (h : Env w W rs) (N : Nat) (h1 : 1 ≤ N) (h2 : N ≤ 4096) :
    Calls Try.prog 9 #[.int .i64 (N : Int)] W fun e W' => ∃ d, e = .returned (.tuple #[.pointer (some ⟨d, 0, none⟩), .int .i64 0]) ∧ ED w W' d (DS.new N) rs := by
  refine (new_any N W h1 h2).mono ?_
  rintro e W' ⟨d, Z, rfl, hd, hb, hn⟩
  exact ⟨d, rfl, Z, h.add (resD d (DS.new N) Z) hb hd hn⟩
theorem ED.write {w W : World} {d : Nat} {S : DS} {rs : List Res} (h : ED w W d S rs) (hn : S.cnt < 4611686018427387904) (hq : S.since.length < 4611686018427387904) (x : Int) (s : ByteArray) (hsl : s.size ≤ 140737488355328) :
    Calls Try.prog 13 #[.pointer (some ⟨d, 0, none⟩), .int .i64 x, .string s] W fun e W' => e = .returned (.int .i64 (S.write x s).2) ∧ ED w W' d (S.write x s).1 rs := by
  obtain ⟨Z, h⟩ := h
  refine (write_any (h.hd : DkS W d S Z) hn hq x s hsl).mono ?_
  rintro e W' ⟨rfl, Z', hd, hm⟩
  exact ⟨rfl, Z', h.step (r' := resD d _ Z') hm hd⟩
theorem ED.sync {w W : World} {d : Nat} {S : DS} {rs : List Res} (h : ED w W d S rs) (hn : S.cnt < 4611686018427387904) :
    Calls Try.prog 14 #[.pointer (some ⟨d, 0, none⟩)] W fun e W' => e = .returned (.int .i64 S.sync.2) ∧ ED w W' d S.sync.1 rs := by
  obtain ⟨Z, h⟩ := h
  refine (sync_any (h.hd : DkS W d S Z) hn).mono ?_
  rintro e W' ⟨rfl, Z', hd, hm⟩
  exact ⟨rfl, Z', h.step (r' := resD d _ Z') hm hd⟩
theorem ED.crash {w W : World} {d : Nat} {S : DS} {rs : List Res} (h : ED w W d S rs) (bits : Int) :
    Calls Try.prog 26 #[.pointer (some ⟨d, 0, none⟩), .int .i64 bits] W fun e W' => e = .returned (.int .i64 (S.crash bits).2) ∧ ED w W' d (S.crash bits).1 rs := by
  obtain ⟨Z, h⟩ := h
  refine (crash_any (h.hd : DkS W d S Z) bits).mono ?_
  rintro e W' ⟨rfl, Z', hd, hm⟩
  exact ⟨rfl, Z', h.step (r' := resD d _ Z') hm hd⟩
theorem ED.begin {w W : World} {d : Nat} {S : DS} {rs : List Res} (h : ED w W d S rs) :
    Calls Try.prog 27 #[.pointer (some ⟨d, 0, none⟩)] W fun e W' => e = .returned (.int .i64 S.start.2) ∧ ED w W' d S.start.1 rs := by
  obtain ⟨Z, h⟩ := h
  refine (start_any (h.hd : DkS W d S Z)).mono ?_
  rintro e W' ⟨rfl, Z', hd, hm⟩
  exact ⟨rfl, Z', h.step (r' := resD d _ Z') hm hd⟩
theorem ED.cut {w W : World} {d : Nat} {S : DS} {rs : List Res} (h : ED w W d S rs) (n bits : Int) (hn : n ≤ 9223372036854775807) :
    Calls Try.prog 24 #[.pointer (some ⟨d, 0, none⟩), .int .i64 n, .int .i64 bits] W fun e W' => e = .returned (.int .i64 (S.doCut n bits).2) ∧ ED w W' d (S.doCut n bits).1 rs := by
  obtain ⟨Z, h⟩ := h
  refine (cut_any (h.hd : DkS W d S Z) n bits hn).mono ?_
  rintro e W' ⟨rfl, Z', hd, hm⟩
  exact ⟨rfl, Z', h.step (r' := resD d _ Z') hm hd⟩
theorem ED.read {w W : World} {d : Nat} {S : DS} {rs : List Res} (h : ED w W d S rs) (x : Int) :
    Calls Try.prog 15 #[.pointer (some ⟨d, 0, none⟩), .int .i64 x] W fun e W' => e = .returned (.tuple #[.string (S.read x).1, .int .i64 (S.read x).2]) ∧ ED w W' d S rs ∧ Below W.heap.size W W' := by
  obtain ⟨Z, h⟩ := h
  refine (read_any (h.hd : DkS W d S Z) x).mono ?_
  rintro e W' ⟨rfl, hb⟩
  exact ⟨rfl, ⟨Z, h.new hb⟩, hb⟩
theorem ED.up {w W : World} {d : Nat} {S : DS} {rs : List Res} (h : ED w W d S rs) :
    Calls Try.prog 30 #[.pointer (some ⟨d, 0, none⟩)] W fun e W' => e = .returned (.bool S.up) ∧ W' = W := by
  obtain ⟨Z, h⟩ := h
  exact up_any (h.hd : DkS W d S Z)
theorem ED.len {w W : World} {d : Nat} {S : DS} {rs : List Res} (h : ED w W d S rs) :
    Calls Try.prog 53 #[.pointer (some ⟨d, 0, none⟩)] W fun e W' => e = .returned (.int .i64 (S.N : Int)) ∧ W' = W := by
  obtain ⟨Z, h⟩ := h
  exact len_any (h.hd : DkS W d S Z)
theorem ED.count {w W : World} {d : Nat} {S : DS} {rs : List Res} (h : ED w W d S rs) :
    Calls Try.prog 19 #[.pointer (some ⟨d, 0, none⟩)] W fun e W' => e = .returned (.int .i64 (S.cnt : Int)) ∧ W' = W := by
  obtain ⟨Z, h⟩ := h
  exact count_any (h.hd : DkS W d S Z)
theorem ED.unsynced {w W : World} {d : Nat} {S : DS} {rs : List Res} (h : ED w W d S rs) :
    Calls Try.prog 33 #[.pointer (some ⟨d, 0, none⟩)] W fun e W' => e = .returned (.int .i64 (S.since.length : Int)) ∧ W' = W := by
  obtain ⟨Z, h⟩ := h
  exact unsynced_any (h.hd : DkS W d S Z)

/-! A row of texts. -/
def SRow (w : World) (v : Value) (l : List ByteArray) : Prop := w.ownsRow 0 9 1 v l.length (l.map Value.string)
def resT (v : Value) (l : List ByteArray) : Res := ⟨v.ownBlock.toList, fun w => SRow w v l, fun _ _ _ h hf hd => own_keep h (fun k hk => hf.block k (World.ownsRow.lt h k hk).2 (hd k (by simpa using hk))), fun _ h x hx => (World.ownsRow.lt h x (by simpa using hx)).2⟩
theorem ED.rows {w W : World} {d : Nat} {S : DS} {rs : List Res} (h : ED w W d S rs) : ED w W d S (resT (.slice none 0 0) [] :: rs) := by
  obtain ⟨Z, h⟩ := h
  exact ⟨Z, (h.add (resT (.slice none 0 0) []) (Below.refl _ _) (World.ownsRow_nil _ _ _ _) (by simp [resT, Value.ownBlock])).swap⟩
theorem ED.row {w W : World} {d : Nat} {S : DS} {rs : List Res} {v : Value} {l : List ByteArray} (h : ED w W d S (resT v l :: rs)) : SRow W v l := by obtain ⟨Z, h⟩ := h; exact h.sd
theorem ED.push {w W W2 : World} {d : Nat} {S : DS} {rs : List Res} {v v' : Value} {l : List ByteArray} {s : ByteArray} {ob : Obj} (h : ED w W d S (resT v l :: rs)) (hown : W2.ownsRow 0 9 1 v' (l.length + 1) (l.map Value.string ++ [.string s])) (hg : (W.alloc ob).grownBy W2 v.ownBlock) (hat : v'.ownBlock = v.ownBlock ∨ v'.ownBlock = some (W.heap.size + 1)) : ED w W2 d S (resT v' (l ++ [s]) :: rs) := by
  obtain ⟨Z, h⟩ := h
  have hr : SRow W v l := h.sd
  have hlt : ∀ k, v.ownBlock = some k → k < W.heap.size := fun k hk => (World.ownsRow.lt hr k hk).2
  refine ⟨Z, (h.swap.step (r' := resT v' (l ++ [s])) ⟨?_, fun x hx => ?_⟩ ?_).swap⟩
  · have h1 : Fr v.ownBlock.toList (W.alloc ob) W2 := Fr.ofGrown hg
    exact ((Fr.refl _ W).alloc ob).tr h1
  · have hx : v'.ownBlock = some x := by simpa [resT] using hx
    rcases hat with c | c
    · left; simpa [resT] using c.symm.trans hx
    · right; rw [c] at hx; cases hx; omega
  · show SRow W2 v' (l ++ [s])
    unfold SRow
    simpa using hown
theorem SRow.cell {w : World} {v : Value} {l : List ByteArray} (h : SRow w v l) {i : Nat} {s : ByteArray} (hi : l[i]? = some s) : ∃ g cap, v = .slice (some ⟨g, 0, none⟩) l.length cap ∧ w.cell? ⟨g, i, none⟩ = some (.string s) ∧ l.length ≤ cap ∧ w.frozen? ⟨g, i, none⟩ = false := by
  have hl : 0 < l.length := by have := (List.getElem?_eq_some_iff.1 hi).1; omega
  obtain ⟨g, cap, hv, _, hc, _⟩ := own_open h hl
  refine ⟨g, cap, hv, own_cell h (by rw [hv]; rfl) (by simp [List.getElem?_map, hi]), hc, own_frozen h (by rw [hv]; rfl) i⟩

end Go.Proofs.Ytimhjheigejjmab
