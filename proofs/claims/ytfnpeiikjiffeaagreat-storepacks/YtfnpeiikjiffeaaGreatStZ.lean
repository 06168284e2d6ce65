/- The walk of StorePacks. -/
import Derived.Test.YtfnpeiikjiffeaaGreatStX
import Derived.Test.YtfnpeiikjiffeaaGreatStY
namespace Go.Proofs.YtfnpeiikjiffeaaGreat
open Go.RowKit Go.Maps

def uL (s : ByteArray) : List PP := (unpackP s).getD []
def uX (s : ByteArray) : Int := if (unpackP s).isSome = true then 0 else 4
theorem prs_nil (W : World) : PrsAt W none [] := ⟨by simp, by simp, Or.inl rfl⟩
theorem unpackP_fit {s : ByteArray} {l : List PP} (h : unpackP s = some l) : l.length ≤ 140737488355328 ∧ ∀ x ∈ l, x.n.size ≤ 140737488355328 ∧ x.t.size ≤ 140737488355328 := by
  obtain ⟨-, -, x3⟩ := unpackP_some h
  obtain ⟨q1, q2⟩ := unpackT_some x3
  exact ⟨by omega, fun x hx => by have := q2 x hx; omega⟩
theorem told_of {s : ByteArray} {W' : World} {e : Ending} (h : (unpackP s = none ∧ e = .returned (.tuple #[.slice none 0 0, .int .i64 4])) ∨ (∃ l v, unpackP s = some l ∧ e = .returned (.tuple #[v, .int .i64 0]) ∧ PRow W' v l)) :
    ∃ aa ca, e = .returned (.tuple #[.slice aa (uL s).length ca, .int .i64 (uX s)]) ∧ PrsAt W' aa (uL s) := by
  rcases h with ⟨h, rfl⟩ | ⟨l, v, h, rfl, hP⟩
  · refine ⟨none, 0, ?_, ?_⟩
    · unfold uL uX; rw [h]; rfl
    · unfold uL; rw [h]; exact prs_nil _
  · obtain ⟨f1, f2⟩ := unpackP_fit h
    obtain ⟨a, c, rfl, hA⟩ := hP.read f1 f2
    refine ⟨a, c, ?_, ?_⟩
    · unfold uL uX; rw [h]; rfl
    · unfold uL; rw [h]; exact hA
theorem unpack_told (s : ByteArray) (w : World) (hs : s.size ≤ 140737488355328) :
    Calls Tryz.prog 9 #[.string s] w fun e W' => Below w.heap.size w W' ∧ ∃ aa ca, e = .returned (.tuple #[.slice aa (uL s).length ca, .int .i64 (uX s)]) ∧ PrsAt W' aa (uL s) := by
  refine (unpack_any s w hs).mono ?_
  rintro e W' ⟨hb, h⟩
  refine ⟨hb, told_of ?_⟩
  rcases h with h | ⟨l, v, h1, h2, h3, _⟩
  · exact Or.inl h
  · exact Or.inr ⟨l, v, h1, h2, h3⟩
theorem runpack_told (s : ByteArray) (w : World) (hs : s.size ≤ 140737488355328) :
    Calls Tryz.prog 10 #[.string s] w fun e W' => Below w.heap.size w W' ∧ ∃ aa ca, e = .returned (.tuple #[.slice aa (uL s).length ca, .int .i64 (uX s)]) ∧ PrsAt W' aa (uL s) := by
  refine (runpack_go s w hs).mono ?_
  rintro e W' ⟨hb, h⟩
  exact ⟨hb, told_of h⟩
set_option maxRecDepth 100000 in
set_option maxHeartbeats 4000000 in
theorem StorePacks_walk (w : World) (a : Option Addr) (cap : Nat) (l : List PP) (hl0 : PrsAt w a l ∧ (a = none → cap = 0)) (s : ByteArray) (hs : s.size ≤ 140737488355328) :
    Calls Tryz.prog 3 #[.slice a l.length cap, .string s] w fun e w' => e = .returned (.bool true) ∧ Below w.heap.size w w' := by
  obtain ⟨hl, hz⟩ := hl0
  have HZN := hide hz
  have K1 := hide (size_any (cap := cap) hl)
  have HL := hide hl
  have HS := hide hs
  clear hl hs hz
  obtain ⟨L, hL⟩ : ∃ L, L = l.length := ⟨_, rfl⟩
  have HLe := hide hL
  rw [← hL] at K1 ⊢
  clear hL
  go_enter Tryz.func3, Tryz.ntmps3
  go_wp2_with fail
  refine (unhide K1).mono ?_
  rintro e W1 ⟨N, rfl, hN1, hN2, b1⟩
  obtain ⟨X1, hX1⟩ : ∃ X, X = W1.alloc (.cells #[.int .i64 (N : Int)] 3) := ⟨_, rfl⟩
  have q1 : X1.heap[W1.heap.size]? = some (.cells #[.int .i64 (N : Int)] 3 (0, 0)) := by rw [hX1]; exact heap_alloc_new _ _
  have KB := hide (beyond7_one W1.heap.size N 1 X1 hN2 (by simp [World.cell?, q1]))
  have HB1 : Hid (Below w.heap.size w X1) := bw_tr b1 (by rw [hX1]; exact bw_alloc _ _)
  have HX1 := hide hX1
  have HN := hide hN1
  clear K1 b1 q1 hN1 hN2
  go_wp2_with fail
  rw [← unhide HX1]
  clear hX1
  refine (unhide KB).mono ?_
  rintro e w2 ⟨rfl, rfl⟩
  clear KB HX1
  by_cases hbig : 262144 < N
  · rw [decide_eq_true hbig]
    go_wp2_with fail
    go_ret
    exact ⟨rfl, unhide HB1⟩
  rw [decide_eq_false hbig]
  have hm : ([] : List PP).length + l.length ≤ 1000000 := by have := unhide HN; have := unhide HLe; simp; omega
  clear hbig
  go_wp2_with (at_builtin; refine wpList_joinP (l := l) rfl (.tmp 18) (.tmp 19) rfl rfl (unhide HLe) rfl (qrow_empty _) ((unhide HL).bw (bw_tr (unhide HB1) (bw_alloc _ _))) (unhide HZN) hm ?nx)
  case nx =>
    intro v1 w3 Q1 F1
    have Q1 : QRow w2 w3 v1 l := Q1
    obtain ⟨a1, c1, hv1, hA1⟩ := Q1.row.read (unhide HL).len (unhide HL).fit
    have b3 := bw_tr (unhide HB1) Q1.bel
    have K2 := hide (pack_any (cap := c1) hA1)
    rw [← unhide HLe] at hv1 K2
    subst hv1
    have HA1 := hide hA1
    have HB3 := hide b3
    clear Q1 F1 hA1 b3 hm
    obtain ⟨y, hy⟩ : ∃ y, y = packX l := ⟨_, rfl⟩
    obtain ⟨ps, hps⟩ : ∃ y, y = packS l := ⟨_, rfl⟩
    have HE := hide (And.intro hy hps)
    rw [← hy, ← hps] at K2
    clear hy hps
    go_wp2_with fail
    refine (unhide K2).mono ?_
    rintro e W4 ⟨rfl, b4⟩
    have HB4 := hide (bw_tr (unhide HB3) b4)
    have HA4 := hide ((unhide HA1).bw b4)
    have K3 := hide (rpack_any (cap := cap) ((unhide HL).bw (unhide HB4)))
    rw [← unhide HLe, ← (unhide HE).1, ← (unhide HE).2] at K3
    clear K2 b4 HA1 HB3
    go_wp2_with fail
    refine (unhide K3).mono ?_
    rintro e W5 ⟨rfl, b5⟩
    have HB5 := hide (bw_tr (unhide HB4) b5)
    have HA5 := hide ((unhide HA4).bw b5)
    have K4 := hide (unpack_told s W5 (unhide HS))
    obtain ⟨u, hu⟩ : ∃ u, u = uX s := ⟨_, rfl⟩
    obtain ⟨M, hM⟩ : ∃ M, M = (uL s).length := ⟨_, rfl⟩
    have HU := hide (And.intro hu hM)
    rw [← hu, ← hM] at K4
    clear K3 b5 HA4 HB4 hu hM
    go_wp2_with fail
    refine (unhide K4).mono ?_
    rintro e W6 ⟨b6, aa, ca, rfl, hAa⟩
    have HB6 := hide (bw_tr (unhide HB5) b6)
    have HA6 := hide ((unhide HA5).bw b6)
    have HP6 := hide hAa
    have K5 := hide (runpack_told s W6 (unhide HS))
    rw [← (unhide HU).1, ← (unhide HU).2] at K5
    clear K4 b6 HA5 HB5 hAa
    go_wp2_with fail
    refine (unhide K5).mono ?_
    rintro e W7 ⟨b7, ab, cb, rfl, hAb⟩
    have HB7 := hide (bw_tr (unhide HB6) b7)
    have HA7 := hide ((unhide HA6).bw b7)
    have HP7 := hide (And.intro ((unhide HP6).bw b7) hAb)
    have K6 := hide (same7_any (ca := c1) (cb := cap) (unhide HA7) ((unhide HL).bw (unhide HB7)))
    rw [← unhide HLe] at K6
    clear K5 b7 HA6 HB6 hAb HP6
    go_wp2_with fail
    refine (unhide K6).mono ?_
    rintro e W8 ⟨z, rfl, hz, b8⟩
    obtain rfl : z = true := by simpa using hz
    have HB8 := hide (bw_tr (unhide HB7) b8)
    have K7 := hide (same7_any (ca := ca) (cb := cb) ((unhide HP7).1.bw b8) ((unhide HP7).2.bw b8))
    rw [← (unhide HU).2] at K7
    clear K6 hz b8 HA7 HB7
    go_wp2_with fail
    refine (unhide K7).mono ?_
    rintro e W9 ⟨z, rfl, hz, b9⟩
    obtain rfl : z = true := by simpa using hz
    have HB9 := hide (bw_tr (unhide HB8) b9)
    have KA := hide (alive7_any W9)
    clear K7 hz b9 HB8 HP7
    go_wp2_with (first | (go_at_call 12; refine (unhide KA).mono ?_; rintro e w3 ⟨rfl, b3⟩))
    go_ret
    exact ⟨rfl, bw_tr (unhide HB9) b3⟩
end Go.Proofs.YtfnpeiikjiffeaaGreat
