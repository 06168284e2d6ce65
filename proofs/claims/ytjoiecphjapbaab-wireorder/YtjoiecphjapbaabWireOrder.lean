/- WireOrder: for every two numbers of 64 bits, the law answers true: unlike numbers have unlike bytes, of which none are the beginning of the others, and the greater one of two from 0 on has as many bytes at least. No condition. -/
import Derived.Test.YtjoiecphjapbaabRows
import Derived.Test.YtjoiecphjapbaabCodec
import Derived.Test.YtjoiecphjapbaabAlive
import Derived.ProofKit
import Derived.OpenShut
import Derived.ShutString
import Derived.ChangeOld
namespace Go.Proofs.Ytjoiecphjapbaab
open Go.ChangeShapes Go.WideShapes Go.ChangeAt Go.RowKit

/-- The row of one Writer is not the block of another. -/
theorem WR.apart {w : World} {b c : Nat} {sv tv : Value} {bs cs : List UInt8} (h : WR w b sv bs) (k : WR w c tv cs) : sv.ownBlock ≠ some c := by
  intro e
  obtain ⟨cur, hc⟩ := own_row h.own e
  rw [k.blk] at hc; simp at hc

set_option maxHeartbeats 1000000 in
theorem WireOrder_walk (m n : Int) (w : World) (a1 : -9223372036854775808 ≤ m) (a2 : m ≤ 9223372036854775807) (b1 : -9223372036854775808 ≤ n) (b2 : n ≤ 9223372036854775807) :
    Calls Try.prog 3 #[.int .i64 m, .int .i64 n] w fun e w' => e = .returned (.bool true) ∧ Below w.heap.size w w' := by
  have hx0 := WR.fresh w
  have hy0 := WR.fresh (w.alloc (.cells #[.bool true, .slice none 0 0] 31))
  have hx1 := hx0.new ((Fr.refl [] _).alloc (.cells #[.bool true, .slice none 0 0] 31))
  have e1 : (w.alloc (.cells #[.bool true, .slice none 0 0] 31)).heap.size = w.heap.size + 1 := by simp
  rw [e1] at hy0
  have hF : Fr [] w ((w.alloc (.cells #[.bool true, .slice none 0 0] 31)).alloc (.cells #[.bool true, .slice none 0 0] 31)) := ((Fr.refl [] _).alloc _).alloc _
  go_enter Try.func3, Try.ntmps3
  go_wp2_with (go_at_call 4; refine (newWriter_any _).mono ?_; rintro e w1 ⟨rfl, rfl⟩)
  refine (wNumber_any _ _ _ _ _ a1 a2 hx1 (by simp)).mono ?_
  rintro e w3 ⟨rfl, sv1, hst1⟩
  have hy1 := hy0.keep hst1.fr (by simp [Value.ownBlock]) (fun k hk => by cases hk)
  go_wp2_with fail
  refine (wNumber_any _ _ _ _ _ b1 b2 hy1 (by simp)).mono ?_
  rintro e w4 ⟨rfl, sv2, hst2⟩
  have hx2 := hst1.wr.keep hst2.fr (by simp [Value.ownBlock]) (fun k hk => by
    have := hst1.wr.apart hy1; simp [Value.ownBlock]; rintro rfl; exact this hk)
  have hy2 := hst2.wr
  rw [List.nil_append] at hx2 hy2
  have hF4 : Fr [] w w4 := hF.trans (S' := [w.heap.size, w.heap.size + 1]) (T := []) (hst1.fr.trans hst2.fr (fun x _ c => by simp [Value.ownBlock] at c; simp [c]) (fun x _ c => by simp [Value.ownBlock] at c; simp [c])) (fun _ _ c => c) (fun x hx c => by simp at c; omega)
  clear hst1 hst2 hy1 hF hx0 hx1 hy0 e1
  obtain ⟨sa, hsa⟩ : ∃ s, s = str (enc m) := ⟨_, rfl⟩
  obtain ⟨sb, hsb⟩ : ∃ s, s = str (enc n) := ⟨_, rfl⟩
  have K1 := wBytes_any _ _ _ _ hx2
  have K2 := wBytes_any _ _ _ _ hy2
  rw [← hsa] at K1
  rw [← hsb] at K2
  have ha := enc_length m
  rw [← size_str, ← hsa] at ha
  have hb := enc_length n
  rw [← size_str, ← hsb] at hb
  have HA := hide hsa
  have HB := hide hsb
  clear hsa hsb hx2 hy2
  go_wp2_with fail
  refine K1.mono ?_
  rintro e w5 ⟨rfl, rfl⟩
  go_wp2_with fail
  refine K2.mono ?_
  rintro e w5 ⟨rfl, rfl⟩
  clear K1 K2
  have d1 : decide ((sa.size : Int) < 1) = false := decide_eq_false (by omega)
  have d2 : decide ((10 : Int) < (sa.size : Int)) = false := decide_eq_false (by omega)
  have d3 : decide (sa.size < 1) = false := decide_eq_false (by omega)
  have d4 : decide (10 < sa.size) = false := decide_eq_false (by omega)
  by_cases hmn : m = n
  · subst hmn
    have hs : sa = sb := (unhide HA).trans (unhide HB).symm
    subst hs
    clear HB
    by_cases h0 : m < 0
    all_goals
      go_wp2_with fail
      go_quiet (fail)
      go_wp2_with fail
      refine (alive_any _).mono ?_
      rintro e w6 ⟨rfl, hb6⟩
      go_wp2
      go_ret
      exact ⟨rfl, ((hF4.drewN _).below hb6).toBelow⟩
  · have hmn' : (m == n) = false := by simp [hmn]
    have hmn2 : (m != n) = true := by simp [hmn]
    have hpre : ∀ k, k = min sa.size sb.size → sa.data.toList.take k ≠ sb.data.toList.take k := by
      intro k hk he
      rw [hk, unhide HA, unhide HB, size_str, size_str] at he
      exact hmn (enc_prefix m n a1 a2 b1 b2 he)
    have hab : (sa.toList == sb.toList) = false := by
      rw [beq_eq_false_iff_ne]
      intro he
      rw [toList_data, toList_data] at he
      exact hpre _ rfl (by rw [he])
    by_cases hle : sa.size ≤ sb.size
    · have hmin : min (sa.size : Int) (sb.size : Int) = (sa.size : Int) := by omega
      have hex : (sa.toList == (sb.extract 0 sa.size).toList) = false := by
        rw [beq_eq_false_iff_ne, extract_upto, toList_data]
        intro he
        refine hpre sa.size (by omega) ?_
        rw [← he, List.take_of_length_le (by simp)]
      clear hpre hmn
      by_cases h0 : m < 0
      · go_wp2_with fail
        go_quiet (fail)
        go_wp2_with fail
        refine (alive_any _).mono ?_
        rintro e w6 ⟨rfl, hb6⟩
        go_wp2
        go_ret
        exact ⟨rfl, ((hF4.drewN _).below hb6).toBelow⟩
      · by_cases h1 : n < m
        all_goals
          go_wp2_with fail
          go_quiet (fail)
          go_wp2_with fail
          refine (alive_any _).mono ?_
          rintro e w6 ⟨rfl, hb6⟩
          go_wp2
          go_ret
          exact ⟨rfl, ((hF4.drewN _).below hb6).toBelow⟩
    · have hmin : min (sa.size : Int) (sb.size : Int) = (sb.size : Int) := by omega
      have hex : ((sa.extract 0 sb.size).toList == sb.toList) = false := by
        rw [beq_eq_false_iff_ne, extract_upto, toList_data]
        intro he
        refine hpre sb.size (by omega) ?_
        rw [he, List.take_of_length_le (by simp)]
      have hno : m < 0 ∨ n < m := by
        rcases Int.lt_or_le m 0 with h | h
        · exact Or.inl h
        · rcases Int.lt_or_le n m with h' | h'
          · exact Or.inr h'
          · have := enc_mono m n h h'
            rw [← size_str, ← size_str, ← unhide HA, ← unhide HB] at this
            exact absurd this hle
      clear hpre hmn
      by_cases h0 : m < 0
      · clear hno
        go_wp2_with fail
        go_quiet (fail)
        go_wp2_with fail
        refine (alive_any _).mono ?_
        rintro e w6 ⟨rfl, hb6⟩
        go_wp2
        go_ret
        exact ⟨rfl, ((hF4.drewN _).below hb6).toBelow⟩
      · have h1 : n < m := by omega
        clear hno
        go_wp2_with fail
        go_quiet (fail)
        go_wp2_with fail
        refine (alive_any _).mono ?_
        rintro e w6 ⟨rfl, hb6⟩
        go_wp2
        go_ret
        exact ⟨rfl, ((hF4.drewN _).below hb6).toBelow⟩

theorem own : ownKnob Try.prog.godebug = none := by kernel_rfl
theorem bounds64 {a : Int} (h : (Lit.int .i64 a).wf = true) : -9223372036854775808 ≤ a ∧ a ≤ 9223372036854775807 := by
  simpa [Lit.wf, IntKind.min, IntKind.max, IntKind.signed, IntKind.bits] using h

set_option maxRecDepth 100000 in
theorem WireOrder_lifted (os : Os) (started : os.Started) (H : Type) (enc : TypeId × Value → H) :
    ReturnsInHanded {} Try.checked os 3 .any (Rows.wireOrderSpec.pre6 enc Try.prog Try.f3 Rows.wireOrderRow.domain false) (Rows.wireOrderSpec.post enc Try.prog Try.f3 false true false false) := by
  refine returnsInHanded_of_change (C := Try.checked) own started (by kernel_rfl) Try.func3
    (ChangeSpec.witness6 (enc := enc) (C := Try.checked) false ⟨#[], #[.int .i64 0, .int .i64 0], []⟩ 8 (by kernel_rfl) (by kernel_rfl) (by kernel_rfl) (by kernel_rfl)) ?_
  intro W base args ds gs before hval0 hW hcnd _
  have hval : ∀ (j : Nat) t v, Try.f3.params[j]? = some t → args[j]? = some v → Value.okWide Try.prog W .any base t v := hval0
  have hW' := hW
  obtain ⟨p, q, hA0, hV, rfl, hfz, hnd⟩ := hW
  have hA : DataW.TrodAll enc Try.prog W 0 (fun _ => true) true Try.f3.params.toList args.toList ds p := hA0
  rw [Try.params3] at hA hval
  obtain ⟨v0, vs0, d0, ds0, p0, q0, hargs, rfl, rfl, h0, r0⟩ := trodAll_cons hA
  obtain ⟨v1, vs1, d1, ds1, p1, q1, rfl, rfl, rfl, h1, r1⟩ := trodAll_cons r0
  obtain ⟨rfl, rfl, rfl⟩ := trodAll_nil r1
  obtain rfl : args = #[v0, v1] := by cases args; simp_all
  obtain ⟨rfl, rfl⟩ := trodVars_none hV
  obtain ⟨a0, rfl, rfl, rfl, w0⟩ := open_int Try.underlying2 (hval 0 2 v0 rfl rfl) h0
  obtain ⟨a1, rfl, rfl, rfl, w1⟩ := open_int Try.underlying2 (hval 1 2 v1 rfl rfl) h1
  clear hA0 hval0
  refine (WireOrder_walk a0 a1 W (bounds64 w0).1 (bounds64 w0).2 (bounds64 w1).1 (bounds64 w1).2).mono fun e W' ⟨he, bel⟩ => ?_
  subst he
  exact ⟨_, rfl, _, _, _, [], _, [], hW', trodAll_mk1 (shut_bool Try.underlying4 _), (trodAll_cons_mk (shut_int Try.underlying2 w0) (trodAll_cons_mk (shut_int Try.underlying2 w1) trodAll_mk0)), rfl, bel.frame _, fun h => by cases h⟩

theorem WireOrder_over : Rows.wireOrderRow.holds Try.pinned (OpenSpec.ofChange Rows.wireOrderSpec) :=
  OpenClaim.holds_of_wide 3 Try.f3 rfl rfl rfl rfl rfl rfl rfl ⟨rfl, rfl, rfl, rfl, rfl⟩ rfl rfl rfl rfl rfl (by kernel_rfl) Try.func3 (by kernel_rfl)
    (of_decide_eq_true (by kernel_rfl)) (by unfold Func.isWrapper; first | (rw [if_pos (by decide +kernel)]; kernel_rfl) | (rw [if_neg (by decide +kernel)]; exact ⟨rfl, rfl⟩))
    (fun os started H enc _ => WireOrder_lifted os started H enc)

theorem WireOrder_holds : Rows.WireOrderSaid := WireOrder_over
#print axioms WireOrder_holds

end Go.Proofs.Ytjoiecphjapbaab
