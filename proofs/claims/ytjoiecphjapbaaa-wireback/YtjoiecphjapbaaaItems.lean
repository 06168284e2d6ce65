/- A list of items that came in: what its reading says of memory, and the contracts of itemsSize and Beyond. -/
import Derived.Test.YtjoiecphjapbaaaFrame
import Derived.Test.YtjoiecphjapbaaaCodec
import Derived.Deep.Slices
import Derived.Deep.Strs
import Derived.SizedLaws
namespace Go.Proofs.Ytjoiecphjapbaaa
open Go.RowKit Go.Deep

/-- An item's three cells. -/
def ItAt (w : World) (b o : Nat) (x : It) : Prop :=
  w.cell? ⟨b, o, none⟩ = some (.int .i64 x.kd) ∧ w.cell? ⟨b, o + 1, none⟩ = some (.int .i64 x.n) ∧ w.cell? ⟨b, o + 2, none⟩ = some (.string x.s)
/-- The slice at the address a holds the items l. -/
structure ItemsAt (w : World) (a : Option Addr) (l : List It) : Prop where
  len : l.length ≤ 140737488355328
  fit : ∀ x ∈ l, -9223372036854775808 ≤ x.n ∧ x.n ≤ 9223372036854775807 ∧ x.s.size ≤ 140737488355328
  cells : l = [] ∨ ∃ b off, a = some ⟨b, off, none⟩ ∧ b < w.heap.size ∧ ∀ i x, l[i]? = some x → ItAt w b (off + i * 3) x

theorem ItAt.below {w w' : World} {b o : Nat} {x : It} (h : ItAt w b o x) {B : Nat} (hb : Below B w w') (hB : b < B) : ItAt w' b o x := by
  unfold ItAt at *
  rw [hb.cell (p := ⟨b, o, none⟩) hB, hb.cell (p := ⟨b, o + 1, none⟩) hB, hb.cell (p := ⟨b, o + 2, none⟩) hB]; exact h
theorem ItemsAt.below {w w' : World} {a : Option Addr} {l : List It} (h : ItemsAt w a l) (hb : Below w.heap.size w w') : ItemsAt w' a l := by
  refine ⟨h.len, h.fit, ?_⟩
  rcases h.cells with h | ⟨b, off, ha, hB, hc⟩
  · exact Or.inl h
  · exact Or.inr ⟨b, off, ha, Nat.lt_of_lt_of_le hB hb.size, fun i x hx => (hc i x hx).below hb hB⟩

theorem mem_weightsAll {H : Type} {P : Program} {e : TypeId} {d : DataW H} {n : Nat} : ∀ {l : List (DataW H)}, d ∈ l → n ∈ d.weights P e → n ∈ DataW.weightsAll P e l
  | [], h, _ => by cases h
  | x :: r, h, hn => by
    simp only [DataW.weightsAll, List.mem_append]
    rcases List.mem_cons.1 h with rfl | h
    · exact Or.inl hn
    · exact Or.inr (mem_weightsAll h hn)

theorem bytesItem : Try.prog.bytesOf 32 = 32 := by kernel_rfl
theorem bounds64 {a : Int} (h : (Lit.int .i64 a).wf = true) : -9223372036854775808 ≤ a ∧ a ≤ 9223372036854775807 := by
  simpa [Lit.wf, IntKind.min, IntKind.max, IntKind.signed, IntKind.bits] using h

theorem open_items {H : Type} {enc : TypeId × Value → H} {W : World} {spare : Nat → Bool} {held : Bool} {a : Option Addr} {len cap : Nat} {d : DataW H} {p : List MemPlace}
    (h : DataW.Trod enc Try.prog W 0 spare held 22 (.slice a len cap) d p) (hsz : ∀ n ∈ d.weights Try.prog 22, n ≤ reachBytes) : ∃ l, l.length = len ∧ ItemsAt W a l := by
  obtain ⟨fuel, hf⟩ := h
  rcases open_slice Try.underlying22 hf with ⟨hcs, _⟩ | ⟨x, l, c, m, n, D, Pl, hcs, _, hl, hm, hmm, hx, hel⟩
  · simp [Value.cells] at hcs
    obtain ⟨rfl, rfl, rfl⟩ := hcs
    exact ⟨[], rfl, by simp, by simp, Or.inl rfl⟩
  · simp [Value.cells] at hcs
    obtain ⟨rfl, rfl, rfl⟩ := hcs
    simp only [Prod.mk.injEq] at hx
    obtain ⟨hd, _⟩ := hx
    have hlm : len ≤ m := by rw [hmm]; split <;> omega
    have each : ∀ i, i < len → ∃ y : It, (-9223372036854775808 ≤ y.n ∧ y.n ≤ 9223372036854775807 ∧ y.s.size ≤ 140737488355328) ∧ W.cell? (x.add (i * 3)) = some (.int .i64 y.kd) ∧ W.cell? (x.add (i * 3 + 1)) = some (.int .i64 y.n) ∧ W.cell? (x.add (i * 3 + 2)) = some (.string y.s) := by
      intro i hi
      obtain ⟨cs, h1, h2⟩ := hel i (by omega)
      rw [cellsItem] at h1
      obtain ⟨_, hlen, hcell⟩ := World.cells?_some h1
      obtain ⟨y0, y1, y2, n', hxy, _, g0, g1, g2⟩ := trod_struct3 Try.underlying32 h2
      match cs, hlen with
      | [v0, v1, v2], _ =>
        have i0 : Try.prog.cellsOf 3 = 1 := by kernel_rfl
        have i1 : Try.prog.cellsOf 2 = 1 := by kernel_rfl
        have i2 : Try.prog.cellsOf 9 = 1 := by kernel_rfl
        simp [i0, i1, i2] at g0 g1 g2
        obtain ⟨q0, e0, z0, _⟩ := DataW.trod_int Try.underlying3 g0
        obtain ⟨q1, e1, z1, w1⟩ := DataW.trod_int Try.underlying2 g1
        obtain ⟨q2, e2, z2, _⟩ := DataW.trod_string Try.underlying9 g2
        simp at e0 e1 e2
        subst e0 e1 e2
        have c0 := hcell 0 (by omega)
        have c1 := hcell 1 (by omega)
        have c2 := hcell 2 (by omega)
        rw [add_add] at c0 c1 c2
        simp only [Prod.mk.injEq] at hxy
        have hw : q2.size ≤ reachBytes := by
          refine hsz _ ?_
          rw [hd]
          simp only [DataW.weights, Try.underlying22]
          refine List.mem_cons_of_mem _ (List.mem_append_left _ (mem_weightsAll (d := D i) (List.mem_map.2 ⟨i, List.mem_range.2 hi, rfl⟩) ?_))
          rw [hxy.1, z0, z1, z2]
          simp [DataW.weights, DataW.weightsEach, Try.underlying32]
        have hr := reachBytes_lt
        exact ⟨⟨q0, q1, q2⟩, ⟨(bounds64 w1).1, (bounds64 w1).2, by simp at hr ⊢; omega⟩, by simpa using c0, by simpa using c1, by simpa using c2⟩
    have hlen : len ≤ 140737488355328 := by
      have := hsz ((len + (m - len)) * 32) (by
        rw [hd]; simp [DataW.weights, Try.underlying22, bytesItem])
      have hr := reachBytes_lt
      simp at hr; omega
    obtain ⟨f, hfx⟩ := @choose_lt It ⟨⟨0, 0, ⟨#[]⟩⟩⟩ len _ each
    refine ⟨(List.range len).map f, by simp, by simpa using hlen, ?_, ?_⟩
    · intro y hy
      obtain ⟨i, hi, rfl⟩ := List.mem_map.1 hy
      exact (hfx i (List.mem_range.1 hi)).1
    · rcases Nat.eq_zero_or_pos len with h0 | h0
      · subst h0; exact Or.inl rfl
      · obtain ⟨b, off, spot⟩ := x
        have k0 := (hfx 0 h0).2.1
        have hspot : spot = none := by simpa [Addr.add] using World.cell?_spot k0
        subst hspot
        refine Or.inr ⟨b, off, rfl, World.block_lt_of_cell? W _ (by simpa [Addr.add] using k0), fun i y hy => ?_⟩
        have hi : i < len := by
          rcases Nat.lt_or_ge i len with q | q
          · exact q
          · simp [q] at hy
        simp [hi] at hy
        subst hy
        obtain ⟨_, k0, k1, k2⟩ := hfx i hi
        have ea : ∀ j, (⟨b, off, none⟩ : Addr).add j = ⟨b, off + j, none⟩ := fun j => by
          unfold Addr.add; by_cases hj : j = 0 <;> simp [hj]
        rw [ea] at k0 k1 k2
        exact ⟨k0, by rw [Nat.add_assoc]; exact k1, by rw [Nat.add_assoc]; exact k2⟩

/-- How many bytes all texts have. -/
def sumS (l : List It) : Nat := (l.map (·.s.size)).sum
theorem sumS_take_succ (l : List It) (k : Nat) (x : It) (h : l[k]? = some x) : sumS (l.take (k + 1)) = sumS (l.take k) + x.s.size := by
  unfold sumS
  rw [List.take_add_one, h]
  simp

set_option maxRecDepth 100000 in
set_option maxHeartbeats 400000 in
theorem itemsSize_any (a : Option Addr) (cap : Nat) (l : List It) (w : World) (h : ItemsAt w a l) :
    Calls Try.prog 10 #[.slice a l.length cap] w fun e w' => (∃ n : Nat, e = .returned (.int .i64 n) ∧ n ≤ 281474976710656 ∧ (n ≤ 262144 → n = l.length + sumS l)) ∧ w' = w := by
  have hlen := h.len
  obtain ⟨len, hle⟩ : ∃ len, len = l.length := ⟨_, rfl⟩
  rw [← hle] at hlen ⊢
  have HL := hide hle
  clear hle
  go_enter Try.func10, Try.ntmps10
  go_wp2
  go_loop [3, 4] (fun nv iv => ∃ k N : Nat, k ≤ len ∧ iv = .int .i64 k ∧ nv = .int .i64 N ∧ N ≤ 281474976710656 ∧ Hid (N = len + sumS (l.take k))) (fun _ iv => len - (intOf iv).toNat)
  case atStart => exact ⟨0, len, Nat.zero_le _, rfl, rfl, by omega, by simp [Hid, sumS]⟩
  case round =>
    obtain ⟨k, N, hk, rfl, rfl, hN, HN⟩ := hrel
    by_cases hlt : k < len
    · by_cases hn : (N : Int) < 268435456
      · obtain ⟨x, hx⟩ : ∃ x, l[k]? = some x := ⟨_, List.getElem?_eq_getElem (by rw [← unhide HL]; exact hlt)⟩
        rcases h.cells with h0 | ⟨b, off, rfl, hB, hc⟩
        · exfalso; rw [unhide HL, h0] at hlt; simp at hlt
        · have HS := hide (sumS_take_succ l k x hx)
          have hxs := (h.fit x (List.mem_of_getElem? hx)).2.2
          have c2 := (hc k x hx).2.2
          clear hx
          go_wp2
          go_round
          case rel => exact ⟨k + 1, N + x.s.size, by omega, by go_num, by go_num, by omega, by unfold Hid; rw [unhide HS, unhide HN]; omega⟩
          case measure => simp [intOf]; omega
      · go_wp2
        go_ret
        exact ⟨⟨N, rfl, hN, fun q => by omega⟩, rfl⟩
    · go_wp2
      go_ret
      refine ⟨⟨N, rfl, hN, fun _ => ?_⟩, rfl⟩
      have := unhide HN
      rwa [List.take_of_length_le (by rw [← unhide HL]; omega)] at this

/-- Beyond of one size. -/
theorem cell_two (w : World) (x y : Value) (t : TypeId) : (w.alloc (.cells #[x, y] t)).cell? ⟨w.heap.size, 0, none⟩ = some x ∧ (w.alloc (.cells #[x, y] t)).cell? ⟨w.heap.size, 1, none⟩ = some y := by
  simp [go_sem]

set_option maxHeartbeats 400000 in
theorem beyond_one (b : Nat) (n : Nat) (c : Nat) (w : World) (hn : n ≤ 281474976710656) (h0 : w.cell? ⟨b, 0, none⟩ = some (.int .i64 n)) :
    Calls Try.prog 9 #[.slice (some ⟨b, 0, none⟩) 1 c] w fun e w' => e = .returned (.bool (decide (262144 < n))) ∧ w' = w := by
  by_cases hb : 262144 < n
  · rw [decide_eq_true hb]
    go_enter Try.func9, Try.ntmps9
    go_wp2
    refine wp_loop_rounds 1 ?_
    rw [rounds_succ]
    go_wp2
    go_ret
    exact ⟨rfl, rfl⟩
  · rw [decide_eq_false hb]
    go_enter Try.func9, Try.ntmps9
    go_wp2
    refine wp_loop_rounds 2 ?_
    rw [rounds_succ]
    go_wp2
    rw [rounds_succ]
    go_wp2
    go_ret
    exact ⟨rfl, rfl⟩

set_option maxHeartbeats 800000 in
theorem beyond_two (b : Nat) (n m : Nat) (c : Nat) (w : World) (hn : n ≤ 281474976710656) (hm : m ≤ 281474976710656) (h0 : w.cell? ⟨b, 0, none⟩ = some (.int .i64 n)) (h1 : w.cell? ⟨b, 1, none⟩ = some (.int .i64 m)) :
    Calls Try.prog 9 #[.slice (some ⟨b, 0, none⟩) 2 c] w fun e w' => e = .returned (.bool (decide (262144 < n + m))) ∧ w' = w := by
  by_cases hb : 262144 < n
  · rw [decide_eq_true (by omega)]
    go_enter Try.func9, Try.ntmps9
    go_wp2
    refine wp_loop_rounds 1 ?_
    rw [rounds_succ]
    go_wp2
    go_ret
    exact ⟨rfl, rfl⟩
  · by_cases hb2 : 262144 < m
    · rw [decide_eq_true (by omega)]
      go_enter Try.func9, Try.ntmps9
      go_wp2
      refine wp_loop_rounds 2 ?_
      rw [rounds_succ]
      go_wp2
      rw [rounds_succ]
      go_wp2
      go_ret
      exact ⟨rfl, rfl⟩
    · by_cases hb3 : (262144 : Int) < (n : Int) + (m : Int)
      · rw [decide_eq_true (by omega)]
        go_enter Try.func9, Try.ntmps9
        go_wp2
        refine wp_loop_rounds 2 ?_
        rw [rounds_succ]
        go_wp2
        rw [rounds_succ]
        go_wp2
        go_ret
        exact ⟨rfl, rfl⟩
      · rw [decide_eq_false (by omega)]
        go_enter Try.func9, Try.ntmps9
        go_wp2
        refine wp_loop_rounds 3 ?_
        rw [rounds_succ]
        go_wp2
        rw [rounds_succ]
        go_wp2
        rw [rounds_succ]
        go_wp2
        go_ret
        exact ⟨rfl, rfl⟩

/-- The bytes that a row of items leaves. -/
def itBs (l : List It) : List UInt8 := (l.map itB).flatten
theorem itBs_take_succ (l : List It) (k : Nat) (x : It) (h : l[k]? = some x) : itBs (l.take (k + 1)) = itBs (l.take k) ++ itB x := by
  unfold itBs
  rw [List.take_add_one, h]
  simp
theorem itB_length (x : It) : (itB x).length ≤ 10 + x.s.size := by
  unfold itB
  split
  · unfold itR
    have h1 := (enc_length x.n).2
    have h2 := (enc_length x.s.size).2
    split
    · simp; omega
    · split
      · omega
      · split
        · simp; omega
        · split
          · rw [List.length_append]; simp; omega
          · omega
  · simp
theorem itBs_length (l : List It) : (itBs l).length ≤ 10 * l.length + sumS l := by
  induction l with
  | nil => simp [itBs, sumS]
  | cons x l ih =>
    have := itB_length x
    unfold itBs sumS at *
    simp only [List.map_cons, List.flatten_cons, List.length_append, List.length_cons, List.sum_cons]
    omega
theorem sumS_take (l : List It) (k : Nat) : sumS (l.take k) ≤ sumS l := by
  have h : sumS l = sumS (l.take k) + sumS (l.drop k) := by
    unfold sumS; rw [← List.sum_append, ← List.map_append, List.take_append_drop]
  omega
theorem itBs_take_length (l : List It) (k : Nat) : (itBs (l.take k)).length ≤ 10 * l.length + sumS l := by
  have h1 := itBs_length (l.take k)
  have h2 := sumS_take l k
  have h3 : (l.take k).length ≤ l.length := by simp; omega
  omega

/-- A second Writer stays while one is written to, and their rows stay apart. -/
theorem WStep.other {w w' : World} {b c : Nat} {sv sv' tv : Value} {bs bs' cs : List UInt8} (h : WStep w w' b sv sv' bs') (hb : WR w b sv bs) (k : WR w c tv cs) (hbc : c ≠ b) (hd : ∀ x, sv.ownBlock = some x → tv.ownBlock ≠ some x) :
    WR w' c tv cs ∧ ∀ x, sv'.ownBlock = some x → tv.ownBlock ≠ some x := by
  have a1 : sv.ownBlock ≠ some c := by
    intro e
    obtain ⟨cur, hc⟩ := own_row hb.own e
    rw [k.blk] at hc; simp at hc
  have a2 : tv.ownBlock ≠ some b := by
    intro e
    obtain ⟨cur, hc⟩ := own_row k.own e
    rw [hb.blk] at hc; simp at hc
  refine ⟨k.keep h.fr ?_ ?_, ?_⟩
  · simp only [List.mem_cons, Option.mem_toList, not_or]; exact ⟨hbc, a1⟩
  · intro x hx
    simp only [List.mem_cons, Option.mem_toList, not_or]
    exact ⟨fun e => a2 (by rw [hx, e]), fun e => hd x e hx⟩
  · intro x hx e
    rcases h.place x hx with q | q
    · exact hd x q e
    · have := k.lt.2 x e; omega
/-- What was there ahead of all stays, while one is written to that was made since. -/
theorem WStep.belowOf {w0 w w' : World} {b B : Nat} {sv sv' : Value} {bs' : List UInt8} (h : WStep w w' b sv sv' bs') (hB : Below B w0 w) (hb : B ≤ b) (ho : ∀ x, sv.ownBlock = some x → B ≤ x) (hs : B ≤ w.heap.size) :
    Below B w0 w' ∧ ∀ x, sv'.ownBlock = some x → B ≤ x := by
  refine ⟨⟨h.fr.os.trans hB.os, h.fr.tape.trans hB.tape, h.fr.output.trans hB.output, Nat.le_trans hB.size h.fr.size, fun k hk => (h.fr.block k (by omega) ?_).trans (hB.block k hk)⟩, ?_⟩
  · simp only [List.mem_cons, Option.mem_toList, not_or]
    exact ⟨by omega, fun e => by have := ho k e; omega⟩
  · intro x hx
    rcases h.place x hx with q | q
    · exact ho x q
    · omega

end Go.Proofs.Ytjoiecphjapbaaa
