/- WireWrites: for every list of items, the law answers true: the bytes are just those that the chapter says, and what may not be is refused and leaves no byte. No condition. -/
import Derived.Test.YtjoiecphjapbaaaRows
import Derived.Test.YtjoiecphjapbaaaWritten
import Derived.Deep.RegionWith
namespace Go.Proofs.Ytjoiecphjapbaaa
open Go.ChangeShapes Go.WideShapes Go.ChangeAt Go.RowKit

/-- The Writer of the law, and the bytes that it wants. -/
structure Two (w wr : World) (b : Nat) (sv wv : Value) (xs ys : List UInt8) : Prop where
  pw : WR wr b sv xs
  own : wr.ownsRow 0 5 1 wv ys.length (ys.map B8)
  apart : ∀ k, sv.ownBlock = some k → wv.ownBlock ≠ some k
  bel : Below w.heap.size w wr
  hb : w.heap.size ≤ b
  o1 : ∀ k, sv.ownBlock = some k → w.heap.size ≤ k
  o2 : ∀ k, wv.ownBlock = some k → w.heap.size ≤ k
theorem Two.new {w wr w' : World} {b : Nat} {sv wv : Value} {xs ys : List UInt8} (h : Two w wr b sv wv xs ys) (hf : Fr [] wr w') : Two w w' b sv wv xs ys :=
  ⟨h.pw.new hf, ownsRow_of_blocks h.own fun k hk => hf.block k (by obtain ⟨c, hc⟩ := own_row h.own hk; exact lt_of_blk hc) (by simp), h.apart, h.bel.trans (hf.toBelow.mono h.bel.size), h.hb, h.o1, h.o2⟩
theorem Two.step {w wr w' : World} {b : Nat} {sv sv' wv : Value} {xs xs' ys : List UInt8} (h : Two w wr b sv wv xs ys) (s : WStep wr w' b sv sv' xs') : Two w w' b sv' wv xs' ys := by
  have a2 : wv.ownBlock ≠ some b := by
    intro e
    obtain ⟨cur, hc⟩ := own_row h.own e
    rw [h.pw.blk] at hc; simp at hc
  have hlt : ∀ k, wv.ownBlock = some k → k < wr.heap.size := fun k hk => by obtain ⟨c, hc⟩ := own_row h.own hk; exact lt_of_blk hc
  obtain ⟨b1, b2⟩ := s.belowOf h.bel h.hb h.o1 h.bel.size
  refine ⟨s.wr, ownsRow_of_blocks h.own fun k hk => s.fr.block k (hlt k hk) ?_, ?_, b1, h.hb, b2, h.o2⟩
  · simp only [List.mem_cons, Option.mem_toList, not_or]
    exact ⟨fun e => a2 (by rw [hk, e]), fun e => h.apart k e hk⟩
  · intro k hk e
    rcases s.place k hk with q | q
    · exact h.apart k q e
    · have := hlt k e; omega
theorem Two.grow {w wr w' : World} {b : Nat} {sv wv wv' : Value} {xs ys : List UInt8} {s : ByteArray} (h : Two w wr b sv wv xs ys) (hown : w'.ownsRow 0 5 1 wv' (ys.length + s.size) (ys.map B8 ++ Lib.strCells s)) (hg : wr.grownBy w' wv.ownBlock)
    (hp : ∀ k, wv'.ownBlock = some k → wv.ownBlock = some k ∨ wr.heap.size ≤ k) : Two w w' b sv wv' xs (ys ++ s.data.toList) := by
  have hf := Fr.ofGrown hg
  have a2 : wv.ownBlock ≠ some b := by
    intro e
    obtain ⟨cur, hc⟩ := own_row h.own e
    rw [h.pw.blk] at hc; simp at hc
  refine ⟨h.pw.keep hf (by simp only [Option.mem_toList]; exact a2) (fun k hk => by simp only [Option.mem_toList]; exact h.apart k hk), ?_, ?_, ?_, h.hb, h.o1, ?_⟩
  · have e : (ys ++ s.data.toList).length = ys.length + s.size := by simp
    rw [e, List.map_append]; exact hown
  · intro k hk e
    rcases hp k e with q | q
    · exact h.apart k hk q
    · have := h.pw.lt.2 k hk; omega
  · exact h.bel.grown hg h.bel.size h.o2
  · intro k hk
    rcases hp k hk with q | q
    · exact h.o2 k q
    · have := h.bel.size; omega

set_option maxRecDepth 100000 in
set_option maxHeartbeats 2000000 in
theorem WireWrites_walk (a1 : Option Addr) (c1 : Nat) (l1 : List It) (w : World) (h1 : ItemsAt w a1 l1) :
    Calls Try.prog 3 #[.slice a1 l1.length c1] w fun e w' => e = .returned (.bool true) ∧ Below w.heap.size w w' := by
  have hl1 := h1.len
  obtain ⟨i0, hi, hz0, hz1, hz2⟩ := info_parts Try.infoU8
  go_enter Try.func3, Try.ntmps3
  go_wp2_with fail
  refine (itemsSize_any _ _ _ _ h1).mono ?_
  rintro e w0 ⟨⟨n, rfl, hn, hn2⟩, rfl⟩
  have HN1 := hide hn2
  clear hn2
  have q0 : (w0.alloc (.cells #[.int .i64 n] 3)).cell? ⟨w0.heap.size, 0, none⟩ = some (.int .i64 n) := by simp [go_sem]
  have KB := beyond_one w0.heap.size n 1 _ hn q0
  go_wp2_with fail
  refine KB.mono ?_
  rintro e w1 ⟨rfl, rfl⟩
  clear KB q0
  have hbel : Below w0.heap.size w0 (w0.alloc (.cells #[.int .i64 n] 3)) := (Below.refl _ _).alloc (Nat.le_refl _) _
  by_cases hb : 262144 < n
  · have hb' : decide (262144 < n) = true := decide_eq_true hb
    go_wp2
    go_ret
    exact ⟨rfl, hbel⟩
  · have hb' : decide (262144 < n) = false := decide_eq_false hb
    have s1 := unhide HN1 (by omega)
    have HS : Hid (l1.length + sumS l1 ≤ 262144) := by unfold Hid; omega
    clear s1 HN1
    have T0 : Two w0 ((w0.alloc (.cells #[.int .i64 n] 3)).alloc (.cells #[.bool true, .slice none 0 0] 54)) (w0.heap.size + 1) (.slice none 0 0) (.slice none 0 0) [] [] := by
      have hf := WR.fresh (w0.alloc (.cells #[.int .i64 n] 3))
      have e1 : (w0.alloc (.cells #[.int .i64 n] 3)).heap.size = w0.heap.size + 1 := by simp
      rw [e1] at hf
      refine ⟨hf, World.ownsRow_nil _ _ _ _, ?_, hbel.alloc (by simp) _, by omega, ?_, ?_⟩
      · intro k hk; cases hk
      · intro k hk; cases hk
      · intro k hk; cases hk
    have Kw : ∀ (W : World) (sv wv : Value) (xs ys : List UInt8) (x : It), Two w0 W (w0.heap.size + 1) sv wv xs ys → (-9223372036854775808 ≤ x.n ∧ x.n ≤ 9223372036854775807) → xs.length ≤ 1099511627000 →
        Calls Try.prog 13 #[.pointer (some ⟨w0.heap.size + 1, 0, none⟩), .agg #[.int .i64 x.kd, .int .i64 x.n, .string x.s]] W fun e w' => e = .returned (.int .i64 (itE x)) ∧ ∃ sv', Two w0 w' (w0.heap.size + 1) sv' wv (xs ++ itB x) ys := by
      intro W sv wv xs ys x hT hx hl
      refine (write_any _ x sv xs W hx.1 hx.2 hT.pw hl).mono ?_
      rintro e w' ⟨rfl, sv', hst⟩
      exact ⟨rfl, sv', hT.step hst⟩
    have Kv : ∀ (W : World) (x : It), (-9223372036854775808 ≤ x.n ∧ x.n ≤ 9223372036854775807) →
        Calls Try.prog 12 #[.string ⟨#[]⟩, .agg #[.int .i64 x.kd, .int .i64 x.n, .string x.s]] W fun e w' => e = .returned (.tuple #[.string (str (itB x)), .int .i64 (itE x)]) ∧ Below W.heap.size W w' := fun W x hx => written_any x W hx.1 hx.2
    have HKw := hide Kw
    have HKv := hide Kv
    clear Kw Kv
    go_wp2_with (go_at_call 11; refine (newWriter_any _).mono ?_; rintro e w9 ⟨rfl, rfl⟩)
    go_loopw [4, 5] (fun wv iv wr => ∃ (k : Nat) (xs : List UInt8) (sv : Value), k ≤ l1.length ∧ iv = .int .i64 k ∧ Hid (xs = itBs (l1.take k)) ∧ Two w0 wr (w0.heap.size + 1) sv wv xs xs) (fun _ iv _ => l1.length - (intOf iv).toNat)
    case atStart => exact ⟨0, [], _, Nat.zero_le _, rfl, rfl, T0⟩
    case round =>
      obtain ⟨k, xs, sv, hk, rfl, HX, hT⟩ := hrel
      have hxl : xs.length ≤ 10995116270 := by
        have q1 := itBs_take_length l1 k
        have q2 := unhide HS
        rw [← unhide HX] at q1
        omega
      by_cases hlt : k < l1.length
      · obtain ⟨x, hx⟩ : ∃ x, l1[k]? = some x := ⟨_, List.getElem?_eq_getElem hlt⟩
        rcases h1.cells with h0 | ⟨b, off, rfl, hB, hc⟩
        · exfalso; rw [h0] at hlt; simp at hlt
        · have hxb := h1.fit x (List.mem_of_getElem? hx)
          have HC := hide (hc k x hx)
          have HX2 := hide (itBs_take_succ l1 k x hx)
          have hib : (itB x).length ≤ 10 + 140737488355328 := by have := itB_length x; omega
          clear hx hc
          obtain ⟨d0, d1, d2⟩ := (unhide HC).below hT.bel hB
          go_wp2_with fail
          refine (unhide HKv _ x ⟨hxb.1, hxb.2.1⟩).mono ?_
          rintro e w1 ⟨rfl, hb1⟩
          have hT1 := hT.new ((Fr.refl [] wr).below hb1)
          clear d0 d1 d2
          obtain ⟨d0, d1, d2⟩ := (unhide HC).below hT1.bel hB
          go_wp2_with fail
          refine (unhide HKw _ sv _ xs xs x hT1 ⟨hxb.1, hxb.2.1⟩ (by omega)).mono ?_
          rintro e w2 ⟨rfl, sv2, hT2⟩
          by_cases hE : itE x = 0
          · have hown2 := hT2.own
            go_wp2_with (at_builtin; refine wpList_append_string_place _ rfl (.tmp 39) (.tmp 40) 27 9 rfl 5 i0 Try.underlying27 Try.underlying9 hi hz0 hz1 hz2 _ xs.length _ rfl hown2 (str (itB x)) rfl ?c4 ?nx)
            case c4 => rw [size_str]; have := unhide HX2; have q1 := itBs_take_length l1 (k + 1); have q2 := unhide HS; rw [this, List.length_append, ← unhide HX] at q1; omega
            case nx =>
              intro v' w3 hown' hgrow hat
              have hT3 := hT2.grow hown' hgrow hat
              clear hown' hgrow hat
              go_wp2
              go_roundw
              case rel => exact ⟨k + 1, xs ++ itB x, sv2, by omega, by go_num, by unfold Hid; rw [unhide HX2, unhide HX], hT3⟩
              case measure => simp [intOf]; omega
          · have hE' : (itE x == 0) = false := by simp [hE]
            have HB0 := hide (itB_bad hE)
            clear hE
            go_wp2_with fail
            exact ⟨⟨k + 1, xs, sv2, by omega, by go_num, by unfold Hid; rw [unhide HX2, unhide HX, unhide HB0, List.append_nil], by have := hT2; rwa [unhide HB0, List.append_nil] at this⟩, by simp [intOf]; omega⟩
      · have hcv1 := convert_own hT.own
        have hTd := hT.new (Fr.refl [] wr).drew
        have hcv2 := convert_own hTd.own
        have KB1 := wBytes_any _ _ _ _ hTd.pw
        have heq : ((str xs).toList == (str xs).toList) = true := by simp
        go_wp2_with fail
        go_region_with (first | (go_at_call 14; refine KB1.mono ?_; rintro e w1 ⟨rfl, rfl⟩) | (go_at_call 15; refine (alive_any _).mono ?_; rintro e w2 ⟨rfl, hb2⟩))
        all_goals
          go_wp2
          go_ret
          exact ⟨rfl, hTd.bel.trans (hb2.mono hTd.bel.size)⟩

set_option maxRecDepth 100000 in
theorem WireWrites_lifted (os : Os) (started : os.Started) (H : Type) (enc : TypeId × Value → H) :
    ReturnsInHanded {} Try.checked os 3 .any (Rows.wireWritesSpec.pre6 enc Try.prog Try.f3 Rows.wireWritesRow.domain false) (Rows.wireWritesSpec.post enc Try.prog Try.f3 false true false false) := by
  refine returnsInHanded_of_change_sized (C := Try.checked) own started (by kernel_rfl) Try.func3
    (ChangeSpec.witness6 (enc := enc) (C := Try.checked) false ⟨#[], #[.slice none 0 0], []⟩ 8 (by kernel_rfl) (by kernel_rfl) (by kernel_rfl) (by kernel_rfl)) ?_
  intro W base args ds gs before hval0 hW hcnd hsz0 _
  have hval : ∀ (j : Nat) t v, Try.f3.params[j]? = some t → args[j]? = some v → Value.okWide Try.prog W .any base t v := hval0
  have hsz : (DataW.weightsEach Try.prog (Try.f3.params.toList ++ Rows.wireWritesSpec.plain.varTypes Try.prog) (ds ++ gs)).all (· ≤ reachBytes) = true := hsz0
  have hW' := hW
  obtain ⟨p, q, hA0, hV, rfl, hfz, hnd⟩ := hW
  have hA : DataW.TrodAll enc Try.prog W 0 (fun _ => true) true Try.f3.params.toList args.toList ds p := hA0
  rw [Try.params3] at hA hval hsz
  obtain ⟨v0, vs0, d0, ds0, p0, q0, hargs, rfl, rfl, h0, r0⟩ := trodAll_cons hA
  obtain ⟨rfl, rfl, rfl⟩ := trodAll_nil r0
  obtain rfl : args = #[v0] := by cases args; simp_all
  obtain ⟨rfl, rfl⟩ := trodVars_none hV
  have k0 := h0
  have lt0 : ∀ x ∈ p0, x.block < W.heap.size := by obtain ⟨m, hm⟩ := k0; exact DataW.trod_lt m _ _ _ hm
  obtain ⟨a0, len0, cap0, rfl⟩ := okWide_slice Try.underlying22 (hval 0 22 v0 rfl rfl)
  obtain ⟨l0, rfl, i0⟩ := open_items h0 (fun n hn => by simpa using List.all_eq_true.1 hsz n (DataW.weights_mem_each (j := 0) (t := 22) rfl rfl n hn))
  clear hA0 hval0
  refine (WireWrites_walk a0 cap0 l0 W i0).mono fun e W' ⟨he, bel⟩ => ?_
  subst he
  exact ⟨_, rfl, _, _, _, [], _, [], hW', trodAll_mk1 (shut_bool Try.underlying4 _), (trodAll_cons_mk (Below.trod laidOut (by kernel_rfl) (of_decide_eq_true (by kernel_rfl)) k0 bel lt0) trodAll_mk0), rfl, bel.frame _, fun h => by cases h⟩

theorem WireWrites_over : Rows.wireWritesRow.holds Try.pinned (OpenSpec.ofChange Rows.wireWritesSpec) :=
  OpenClaim.holds_of_wide 3 Try.f3 rfl rfl rfl rfl rfl rfl rfl ⟨rfl, rfl, rfl, rfl, rfl⟩ rfl rfl rfl rfl rfl (by kernel_rfl) Try.func3 (by kernel_rfl)
    (of_decide_eq_true (by kernel_rfl)) (by unfold Func.isWrapper; first | (rw [if_pos (by decide +kernel)]; kernel_rfl) | (rw [if_neg (by decide +kernel)]; exact ⟨rfl, rfl⟩))
    (fun os started H enc _ => WireWrites_lifted os started H enc)

theorem WireWrites_holds : Rows.WireWritesSaid := WireWrites_over
#print axioms WireWrites_holds

end Go.Proofs.Ytjoiecphjapbaaa
