/- Contracts of package journal: sectors, and the function that it hands back. -/
import Derived.Test.YtfnpeiikjiffeaaGreatBaH
import Derived.Test.YtfnpeiikjiffeaaGreatJnLoop
namespace Go.Proofs.YtfnpeiikjiffeaaGreat
open Go.RowKit Go.Maps
attribute [local go_sem] Oper.semAt_some

theorem sectors_any (d n len : Nat) (W : World) : Calls Tryz.prog 86 #[.pointer (some ⟨d, 0, none⟩), .agg #[.int .i64 (n : Int), .int .i64 (len : Int)]] W fun e W' => e = .returned (.func (.func 106) #[] #[.pointer (some ⟨W.heap.size + 1, 0, none⟩), .pointer (some ⟨W.heap.size, 0, none⟩)]) ∧ W' = (W.alloc (.cells #[.pointer (some ⟨d, 0, none⟩)] 33)).alloc (.cells #[.int .i64 (n : Int), .int .i64 (len : Int)] 111) := by
  go_enter Tryz.func86, Tryz.ntmps86
  go_wp2_with fail
  go_ret
  exact ⟨rfl, rfl⟩
/-- Where a text of a number begins, in a disk of so many sectors. -/
def at0 (N n : Nat) : Nat := 2 + (n + 1) % 2 * ((N - 2) / 2)
def encN (N n : Nat) (i : Nat) : Array Value := #[.int .i64 ((at0 N n + i : Nat) : Int), .int .i64 ((64 * i : Nat) : Int)]
def rnds (len : Nat) : Nat := (len + 63) / 64
def boxH (hb n len : Nat) (X : World) : Prop := X.heap[hb]? = some (.cells #[.int .i64 (n : Int), .int .i64 (len : Int)] 111 (0, 0))
set_option maxRecDepth 100000 in
set_option maxHeartbeats 4000000 in
theorem seq_any {w W : World} {d : Nat} {S : DS} {rs : List Res} (h : ED w W d S rs) (h2 : 2 ≤ S.N) (hb db n len : Nat) (hn : n ≤ 9223372036854775806) (hlen : len ≤ 1000000) (hH : boxH hb n len W) (hD : W.heap[db]? = some (.cells #[.pointer (some ⟨d, 0, none⟩)] 33 (0, 0))) :
    SeqN Tryz.prog 106 #[.pointer (some ⟨hb, 0, none⟩), .pointer (some ⟨db, 0, none⟩)] (rnds len) (encN S.N n) (boxH hb n len) W := by
  intro l J Jx X hX hJ hY h0
  have HS : Hid (∀ Y, Below X.heap.size X Y → (Y.cell? ⟨hb, 0, none⟩ = some (.int .i64 (n : Int)) ∧ Y.cell? ⟨hb, 1, none⟩ = some (.int .i64 (len : Int)) ∧ Y.cell? ⟨db, 0, none⟩ = some (.pointer (some ⟨d, 0, none⟩))) ∧ boxH hb n len Y) := fun Y hYb => by
    have b := bw_tr hX hYb
    have q1 : Y.heap[hb]? = _ := (b.block hb (lt_of_blk hH)).trans hH
    have q2 : Y.heap[db]? = _ := (b.block db (lt_of_blk hD)).trans hD
    exact ⟨⟨by simp [World.cell?, q1], by simp [World.cell?, q1], by simp [World.cell?, q2]⟩, q1⟩
  have HDp := hide (fun Y (hYb : Below X.heap.size X Y) => depth_any (h.new (bw_tr hX hYb)) h2)
  have HHf := hide (fun Y => half_any n len hn Y)
  have hN := h.ok.n2
  have hq : (S.N - 2) / 2 ≤ 2047 := by omega
  have hr : (n + 1) % 2 ≤ 1 := by omega
  have HA : Hid (at0 S.N n = 2 + (n + 1) % 2 * ((S.N - 2) / 2)) := rfl
  have hab : at0 S.N n ≤ 5000 := by
    have := Nat.mul_le_mul hr hq
    rw [unhide HA]; omega
  have hmul : IntKind.i64.wrap ((((n + 1) % 2 : Nat) : Int) * (((S.N - 2) / 2 : Nat) : Int)) = (((n + 1) % 2 * ((S.N - 2) / 2) : Nat) : Int) := by
    rw [← Int.natCast_mul, wrap_i64 (by omega) (by have := Nat.mul_le_mul hr hq; omega)]
  have hadd : (2 : Int) + (((n + 1) % 2 * ((S.N - 2) / 2) : Nat) : Int) = (at0 S.N n : Int) := by rw [unhide HA]; omega
  have hmb : (((n + 1) % 2 * ((S.N - 2) / 2) : Nat) : Int) ≤ 5000 := by have := Nat.mul_le_mul hr hq; omega
  obtain ⟨⟨c0, c1, c2⟩, _⟩ := unhide HS X (Below.refl _ _)
  obtain ⟨⟨d0, d1, d2⟩, _⟩ := unhide HS X.drew (bw_drew _)
  have HN := hide hlen
  have HY := hide hY
  have HJ := hide (And.intro h0 hJ)
  have HE : Hid (∀ i, encN S.N n i = #[.int .i64 ((at0 S.N n + i : Nat) : Int), .int .i64 ((64 * i : Nat) : Int)]) := fun _ => rfl
  generalize encN S.N n = en at *
  generalize at0 S.N n = A0 at *
  generalize (S.N - 2) / 2 = dp at *
  generalize (n + 1) % 2 = hf at *
  generalize hf * dp = hd_ at *
  clear h h2 hH hD hX hY h0 hJ hN hq hr hlen HA
  have hA5 : (A0 : Int) ≤ 5000 := by omega
  refine callsIn_of_wp Tryz.func106 rfl trivial ?_ rfl
  simp only [Tryz.ntmps106, List.size_toArray, List.length_cons, List.length_nil, Nat.reduceAdd, Nat.reduceSub, Array.replicate_succ, Array.replicate_zero, List.push_toArray, List.append_toArray, List.nil_append, List.cons_append]
  refine wpIn_wide.2 ?_
  go_wp2_with fail
  go_region_held3 (fun w' : World => w'.cell? ⟨hb, 0, none⟩ = some (.int .i64 (n : Int)) ∧ w'.cell? ⟨hb, 1, none⟩ = some (.int .i64 (len : Int)) ∧ w'.cell? ⟨db, 0, none⟩ = some (.pointer (some ⟨d, 0, none⟩))) (first | exact ⟨c0, c1, c2⟩ | exact ⟨d0, d1, d2⟩ | exact ⟨v0, v1, v2⟩) (first
    | (go_at_call 108; first
      | (with_reducible refine (unhide HDp _ b2).mono ?_; rintro e z1 ⟨rfl, rfl⟩)
      | (with_reducible refine (unhide HDp _ (bw_drew _)).mono ?_; rintro e z0 ⟨rfl, rfl⟩))
    | (go_at_call 107; with_reducible refine (unhide HHf _).mono ?_; rintro e z1 ⟨rfl, b1⟩; have b2 := bw_tr (bw_drew X) b1; obtain ⟨⟨v0, v1, v2⟩, _⟩ := unhide HS z1 b2))
  all_goals
    have HB := hide b2
    have hK1 := (unhide HS _ b2).2
    have HJ1 := hide ((unhide HJ).2 0 X z1 (unhide HJ).1 b2)
    clear b1 b2 v0 v1 v2 c0 c1 c2 d0 d1 d2 HDp HHf HS
    have HK1 := hide hK1
    clear hK1
    go_wp2_with fail
    refine (wpIn_wide (n := 1)).1 ?_
    gi_loopw [4, 5] (fun av fv wr => ∃ i : Nat, i ≤ rnds len ∧ av = .int .i64 ((A0 + i : Nat) : Int) ∧ fv = .int .i64 ((64 * i : Nat) : Int) ∧ Hid (J i wr ∧ boxH hb n len wr)) (fun _ fv _ => (64 * rnds len - intOf fv).toNat)
    case atStart => exact ⟨0, by omega, by rw [wrap_i64 (by omega) (by omega)]; rfl, rfl, unhide HJ1, unhide HK1⟩
    case round =>
      clear HJ1 HK1 HB
      obtain ⟨i, hi, rfl, rfl, HR⟩ := hrel
      have hbx : wr.heap[hb]? = _ := (unhide HR).2
      have c1 : wr.cell? ⟨hb, 1, none⟩ = some (.int .i64 (len : Int)) := by simp [World.cell?, hbx]
      clear hbx
      have hlb := unhide HN
      by_cases hlt : i < rnds len
      · obtain ⟨fn, tmps, assign, body, hy, hR⟩ := unhide HY i wr hlt (unhide HR).1 (unhide HR).2
        rw [unhide HE] at hy
        have g1 : ((64 * i : Nat) : Int) < (len : Int) := by unfold rnds at hlt; omega
        have g2 : ((A0 + i : Nat) : Int) ≤ 30000 := by unfold rnds at hlt; omega
        have g3 : ((64 * i : Nat) : Int) ≤ 2000000 := by omega
        have HI := hide (And.intro hlt hlb)
        have ea : ((A0 + i : Nat) : Int) + 1 = ((A0 + (i + 1) : Nat) : Int) := by omega
        have ef : ((64 * i : Nat) : Int) + 64 = ((64 * (i + 1) : Nat) : Int) := by omega
        have HEA := hide (And.intro ea ef)
        clear HR hlt hlb hi ea ef
        generalize hav : ((A0 + i : Nat) : Int) = av at *
        generalize hfv : ((64 * i : Nat) : Int) = fv at *
        have g4 : 0 ≤ av := by omega
        have g5 : 0 ≤ fv := by omega
        have HV := hide (And.intro hav hfv)
        clear hav hfv
        gi_wp2
        refine hR.mono ?_
        rintro e W3 (⟨rfl, hJ3, hk3⟩ | ⟨rfl, hJx3⟩)
        · have HR3 : Hid (J (i + 1) W3 ∧ boxH hb n len W3) := ⟨hJ3, hk3⟩
          clear hJ3 hk3 hR hy
          gi_wp2
          go_roundw
          case rel => exact ⟨i + 1, by have := (unhide HI).1; omega, by rw [(unhide HEA).1], by rw [(unhide HEA).2], HR3⟩
          case measure => have := (unhide HI).1; have := (unhide HEA).2; have := (unhide HV).2; simp only [intOf]; omega
        · have HJ3 : Hid (Jx i W3) := hJx3
          clear hJx3 hR hy
          gi_wp2
          refine bodyPost_ret (results_none rfl _ _ _) rfl ?_
          exact ⟨⟨_, rfl⟩, Or.inr ⟨i, (unhide HI).1, unhide HJ3⟩⟩
      · obtain rfl : i = rnds len := by omega
        have g1 : ¬ (((64 * rnds len : Nat) : Int) < (len : Int)) := by unfold rnds; omega
        have HJ3 := hide (unhide HR).1
        clear HR hlt hi hlb
        gi_wp2
        go_end0
        exact ⟨⟨_, rfl⟩, Or.inl (unhide HJ3)⟩

end Go.Proofs.YtfnpeiikjiffeaaGreat
