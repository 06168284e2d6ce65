/- Contracts of package journal: Open. -/
import Derived.Test.YtimhjheigejjmabJnM
import Derived.Test.YtimhjheigejjmabJnF
namespace Go.Proofs.Ytimhjheigejjmab
open Go.RowKit Go.Maps

/-- The number and the length of the newer of two heads. -/
def nwN (n0 n1 : Nat) : Nat := if n1 < n0 then n0 else n1
def nwL (n0 l0 n1 l1 : Nat) : Nat := if n1 < n0 then l0 else l1
set_option maxRecDepth 100000 in
set_option maxHeartbeats 4000000 in
theorem open_any {w W : World} {d : Nat} {S : DS} {rs : List Res} (h : ED w W d S rs) {n0 l0 n1 l1 : Nat} (hh : Heads S n0 l0 n1 l1) :
    Calls Try.prog 21 #[.pointer (some ⟨d, 0, none⟩)] W fun e W' => ∃ jb, e = .returned (.tuple #[.pointer (some ⟨jb, 0, none⟩), .int .i64 0]) ∧ ED w W' d S (jr jb d (nwN n0 n1) (txt S (nwN n0 n1) (nwL n0 l0 n1 l1)) false :: rs) ∧ Below W.heap.size W W' := by
  have hN := h.ok.n2
  have h4 := hh.N
  have hu := hh.up
  have KR := hide (h.read 0)
  rw [show S.read 0 = (S.now 0, 0) from by have := now_read (S := S) hu (k := 0) (by omega); simpa using this] at KR
  have KL := hide (fun Y (hY : ED w Y d S rs) => hY.len)
  have KN := hide (fun Y (hY : ED w Y d S rs) => newest_any hY hh)
  have hb : nwN n0 n1 < 9223372036854775807 ∧ nwL n0 l0 n1 l1 ≤ (S.N - 2) / 2 * 64 := by
    have := hh.b0; have := hh.b1; have := hh.r0; have := hh.r1
    unfold nwN nwL; split <;> exact ⟨by omega, by omega⟩
  rw [show (if n1 < n0 then n0 else n1) = nwN n0 n1 from rfl, show (if n1 < n0 then l0 else l1) = nwL n0 l0 n1 l1 from rfl] at KN
  generalize nwN n0 n1 = n at *
  generalize nwL n0 l0 n1 l1 = len at *
  have KD := hide (fun Y (hY : ED w Y d S rs) => load_any hY hu h4 n len (by omega) hb.2)
  have hnb : (n : Int) ≤ 9223372036854775806 := by omega
  have h4i : (4 : Int) ≤ (S.N : Int) := by omega
  generalize txt S n len = tx at *
  have HH := hide h
  generalize S.now 0 = s0 at *
  generalize hNN : S.N = NN at KL
  rw [hNN] at h4i
  clear hh h hN h4 hu hb hNN
  go_enter Try.func21, Try.ntmps21
  go_wp2_with fail
  refine (unhide KR).mono ?_
  rintro e y1 ⟨rfl, E1, b1⟩
  go_wp2_with (first | (go_at_call 53; refine (unhide KL y1 E1).mono ?_; rintro e w1 ⟨rfl, rfl⟩))
  refine (unhide KN _ E1).mono ?_
  rintro e y2 ⟨rfl, E2, b2⟩
  obtain ⟨X, hX⟩ : ∃ X, X = y2.alloc (.cells #[.int .i64 (n : Int), .int .i64 (len : Int)] 89) := ⟨_, rfl⟩
  have q : X.heap[y2.heap.size]? = some (.cells #[.int .i64 (n : Int), .int .i64 (len : Int)] 89 (0, 0)) := by rw [hX]; exact heap_alloc_new _ _
  have bX : Below y2.heap.size y2 X := by rw [hX]; exact bw_alloc _ _
  have EX := E2.new bX
  have HC : Hid (∀ Y, Below X.heap.size X Y → Y.cell? ⟨y2.heap.size, 0, none⟩ = some (.int .i64 (n : Int)) ∧ Y.cell? ⟨y2.heap.size, 1, none⟩ = some (.int .i64 (len : Int))) := fun Y hY => by
    have q' : Y.heap[y2.heap.size]? = _ := (hY.block _ (lt_of_blk q)).trans q
    exact ⟨by simp [World.cell?, q'], by simp [World.cell?, q']⟩
  obtain ⟨c0, c1⟩ := unhide HC X (Below.refl _ _)
  obtain ⟨d0, d1⟩ := unhide HC X.drew (bw_drew _)
  have HXe := hide hX
  have KD2 := hide (unhide KD _ EX.drew)
  have HF : Hid (∀ z, Below X.drew.heap.size X.drew z → ED w (z.alloc (.cells #[.pointer (some ⟨d, 0, none⟩), .int .i64 (n : Int), .string tx, .bool false] 67)) d S (jr z.heap.size d n tx false :: rs) ∧ Below W.heap.size W (z.alloc (.cells #[.pointer (some ⟨d, 0, none⟩), .int .i64 (n : Int), .string tx, .bool false] 67))) := fun z hz => by
    have bz : Below X.heap.size X z := bw_tr (bw_drew X) hz
    refine ⟨(EX.new bz).addBs _ (bw_alloc _ _) ?_ ?_, bw_tr (bw_tr (bw_tr b1 b2) (bw_tr bX bz)) (bw_alloc _ _)⟩
    · intro p hp; simp at hp; subst hp; exact heap_alloc_new _ _
    · intro p hp; simp at hp; subst hp; exact Nat.le_refl _
  clear KN KD KR KL HH E1 b1 E2 b2 q bX EX
  go_wp2_with fail
  rw [← unhide HXe]
  clear hX
  go_region_held3 (fun w' : World => w'.cell? ⟨y2.heap.size, 0, none⟩ = some (.int .i64 (n : Int)) ∧ w'.cell? ⟨y2.heap.size, 1, none⟩ = some (.int .i64 (len : Int))) (first | exact ⟨c0, c1⟩ | exact ⟨d0, d1⟩ | exact p5 | exact p6) (first
      | (go_at_call 55; with_reducible refine (unhide KD2).mono ?_; rintro e z ⟨rfl, bz⟩; have p5 := unhide HC z (bw_tr (bw_drew X) bz); have p6 := unhide HC (z.alloc (.cells #[.pointer (some ⟨d, 0, none⟩), .int .i64 (n : Int), .string tx, .bool false] 67)) (bw_tr (bw_tr (bw_drew X) bz) (bw_alloc _ _))))
  all_goals
    have HG := hide (unhide HF z bz)
    clear HF HC c0 c1 d0 d1 p5 p6 bz KD2
    go_wp2_with fail
    go_ret2
    exact ⟨_, rfl, (unhide HG).1, (unhide HG).2⟩
end Go.Proofs.Ytimhjheigejjmab
