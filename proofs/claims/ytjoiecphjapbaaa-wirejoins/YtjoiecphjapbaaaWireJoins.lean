/- WireJoins: for every two lists of items, the law answers true: the bytes of things written one behind the other are the bytes of the first ones, and then those of the others. No condition. -/
import Derived.Test.YtjoiecphjapbaaaRows
import Derived.Test.YtjoiecphjapbaaaItems
import Derived.Deep.RegionWith
namespace Go.Proofs.Ytjoiecphjapbaaa
open Go.ChangeShapes Go.WideShapes Go.ChangeAt Go.RowKit

/-- The three Writers of the law. -/
structure Tri (w wr : World) (B : Nat) (sx sy sz : Value) (xs ys zs : List UInt8) : Prop where
  wx : WR wr B sx xs
  wy : WR wr (B + 1) sy ys
  wz : WR wr (B + 2) sz zs
  dxy : ∀ k, sx.ownBlock = some k → sy.ownBlock ≠ some k
  dxz : ∀ k, sx.ownBlock = some k → sz.ownBlock ≠ some k
  dyz : ∀ k, sy.ownBlock = some k → sz.ownBlock ≠ some k
  bel : Below w.heap.size w wr
  hB : w.heap.size ≤ B
  ox : ∀ k, sx.ownBlock = some k → w.heap.size ≤ k
  oy : ∀ k, sy.ownBlock = some k → w.heap.size ≤ k
  oz : ∀ k, sz.ownBlock = some k → w.heap.size ≤ k
theorem flip {a b : Option Nat} (h : ∀ k, a = some k → b ≠ some k) : ∀ k, b = some k → a ≠ some k := fun k hb ha => h k ha hb
theorem Tri.sizes {w wr : World} {B : Nat} {sx sy sz : Value} {xs ys zs : List UInt8} (h : Tri w wr B sx sy sz xs ys zs) : w.heap.size ≤ wr.heap.size := h.bel.size
theorem Tri.stepx {w wr w' : World} {B : Nat} {sx sy sz sx' : Value} {xs ys zs xs' : List UInt8} (h : Tri w wr B sx sy sz xs ys zs) (s : WStep wr w' B sx sx' xs') : Tri w w' B sx' sy sz xs' ys zs := by
  obtain ⟨y1, y2⟩ := s.other h.wx h.wy (by omega) h.dxy
  obtain ⟨z1, z2⟩ := s.other h.wx h.wz (by omega) h.dxz
  obtain ⟨b1, b2⟩ := s.belowOf h.bel h.hB h.ox h.sizes
  exact ⟨s.wr, y1, z1, y2, z2, h.dyz, b1, h.hB, b2, h.oy, h.oz⟩
theorem Tri.stepy {w wr w' : World} {B : Nat} {sx sy sz sy' : Value} {xs ys zs ys' : List UInt8} (h : Tri w wr B sx sy sz xs ys zs) (s : WStep wr w' (B + 1) sy sy' ys') : Tri w w' B sx sy' sz xs ys' zs := by
  obtain ⟨x1, x2⟩ := s.other h.wy h.wx (by omega) (flip h.dxy)
  obtain ⟨z1, z2⟩ := s.other h.wy h.wz (by omega) h.dyz
  obtain ⟨b1, b2⟩ := s.belowOf h.bel (by have := h.hB; omega) h.oy h.sizes
  exact ⟨x1, s.wr, z1, flip x2, h.dxz, z2, b1, h.hB, h.ox, b2, h.oz⟩
theorem Tri.stepz {w wr w' : World} {B : Nat} {sx sy sz sz' : Value} {xs ys zs zs' : List UInt8} (h : Tri w wr B sx sy sz xs ys zs) (s : WStep wr w' (B + 2) sz sz' zs') : Tri w w' B sx sy sz' xs ys zs' := by
  obtain ⟨x1, x2⟩ := s.other h.wz h.wx (by omega) (flip h.dxz)
  obtain ⟨y1, y2⟩ := s.other h.wz h.wy (by omega) (flip h.dyz)
  obtain ⟨b1, b2⟩ := s.belowOf h.bel (by have := h.hB; omega) h.oz h.sizes
  exact ⟨x1, y1, s.wr, h.dxy, flip x2, flip y2, b1, h.hB, h.ox, h.oy, b2⟩
theorem Tri.new {w wr w' : World} {B : Nat} {sx sy sz : Value} {xs ys zs : List UInt8} (h : Tri w wr B sx sy sz xs ys zs) (hf : Fr [] wr w') : Tri w w' B sx sy sz xs ys zs :=
  ⟨h.wx.new hf, h.wy.new hf, h.wz.new hf, h.dxy, h.dxz, h.dyz, h.bel.trans (hf.toBelow.mono h.sizes), h.hB, h.ox, h.oy, h.oz⟩
theorem Tri.fresh (w w0 : World) (h : Below w.heap.size w w0) : Tri w (((w0.alloc (.cells #[.bool true, .slice none 0 0] 54)).alloc (.cells #[.bool true, .slice none 0 0] 54)).alloc (.cells #[.bool true, .slice none 0 0] 54)) w0.heap.size (.slice none 0 0) (.slice none 0 0) (.slice none 0 0) [] [] [] := by
  have H3 := heap3 w0 (.cells #[.bool true, .slice none 0 0] 54) (.cells #[.bool true, .slice none 0 0] 54) (.cells #[.bool true, .slice none 0 0] 54)
  have hs := h.size
  refine ⟨⟨H3.1, World.ownsRow_nil _ _ _ _⟩, ⟨H3.2.1, World.ownsRow_nil _ _ _ _⟩, ⟨H3.2.2, World.ownsRow_nil _ _ _ _⟩, ?_, ?_, ?_, ?_, hs, ?_, ?_, ?_⟩
  · intro k hk; cases hk
  · intro k hk; cases hk
  · intro k hk; cases hk
  · exact ((h.alloc hs _).alloc (by simp; omega) _).alloc (by simp; omega) _
  · intro k hk; cases hk
  · intro k hk; cases hk
  · intro k hk; cases hk

set_option maxRecDepth 100000 in
set_option maxHeartbeats 2000000 in
theorem WireJoins_walk (a1 a2 : Option Addr) (c1 c2 : Nat) (l1 l2 : List It) (w : World) (h1 : ItemsAt w a1 l1) (h2 : ItemsAt w a2 l2) :
    Calls Try.prog 8 #[.slice a1 l1.length c1, .slice a2 l2.length c2] w fun e w' => e = .returned (.bool true) ∧ Below w.heap.size w w' := by
  have hl1 := h1.len
  have hl2 := h2.len
  go_enter Try.func8, Try.ntmps8
  go_wp2_with fail
  refine (itemsSize_any _ _ _ _ h1).mono ?_
  rintro e w0 ⟨⟨n, rfl, hn, hn2⟩, rfl⟩
  have HN1 := hide hn2
  clear hn2
  go_wp2_with fail
  refine (itemsSize_any _ _ _ _ h2).mono ?_
  rintro e w0 ⟨⟨m, rfl, hm, hm2⟩, rfl⟩
  have HN2 := hide hm2
  clear hm2
  obtain ⟨q0, q1⟩ := cell_two w0 (.int .i64 n) (.int .i64 m) 3
  have KB := beyond_two w0.heap.size n m 2 _ hn hm q0 q1
  go_wp2_with fail
  refine KB.mono ?_
  rintro e w1 ⟨rfl, rfl⟩
  clear KB q0 q1
  have hbel : Below w0.heap.size w0 (w0.alloc (.cells #[.int .i64 n, .int .i64 m] 3)) := (Below.refl _ _).alloc (Nat.le_refl _) _
  by_cases hb : 262144 < n + m
  · have hb' : decide (262144 < n + m) = true := decide_eq_true hb
    go_wp2
    go_ret
    exact ⟨rfl, hbel⟩
  · have hb' : decide (262144 < n + m) = false := decide_eq_false hb
    have s1 := unhide HN1 (by omega)
    have s2 := unhide HN2 (by omega)
    have HS : Hid (l1.length + sumS l1 + (l2.length + sumS l2) ≤ 262144) := by unfold Hid; omega
    clear s1 s2 HN1 HN2
    go_wp2_with (go_at_call 11; refine (newWriter_any _).mono ?_; rintro e w9 ⟨rfl, rfl⟩)
    have T0 := Tri.fresh w0 _ hbel
    have Kx : ∀ (W : World) (sx sy sz : Value) (xs ys zs : List UInt8) (x : It), Tri w0 W (w0.heap.size + 1) sx sy sz xs ys zs → (-9223372036854775808 ≤ x.n ∧ x.n ≤ 9223372036854775807) → xs.length ≤ 1099511627000 →
        Calls Try.prog 13 #[.pointer (some ⟨w0.heap.size + 1, 0, none⟩), .agg #[.int .i64 x.kd, .int .i64 x.n, .string x.s]] W fun e w' => e = .returned (.int .i64 (itE x)) ∧ ∃ sx', Tri w0 w' (w0.heap.size + 1) sx' sy sz (xs ++ itB x) ys zs := by
      intro W sx sy sz xs ys zs x hT hx hl
      refine (write_any _ x sx xs W hx.1 hx.2 hT.wx hl).mono ?_
      rintro e w' ⟨rfl, sx', hst⟩
      exact ⟨rfl, sx', hT.stepx hst⟩
    have Ky : ∀ (W : World) (sx sy sz : Value) (xs ys zs : List UInt8) (x : It), Tri w0 W (w0.heap.size + 1) sx sy sz xs ys zs → (-9223372036854775808 ≤ x.n ∧ x.n ≤ 9223372036854775807) → ys.length ≤ 1099511627000 →
        Calls Try.prog 13 #[.pointer (some ⟨w0.heap.size + 1 + 1, 0, none⟩), .agg #[.int .i64 x.kd, .int .i64 x.n, .string x.s]] W fun e w' => e = .returned (.int .i64 (itE x)) ∧ ∃ sy', Tri w0 w' (w0.heap.size + 1) sx sy' sz xs (ys ++ itB x) zs := by
      intro W sx sy sz xs ys zs x hT hx hl
      refine (write_any _ x sy ys W hx.1 hx.2 hT.wy hl).mono ?_
      rintro e w' ⟨rfl, sx', hst⟩
      exact ⟨rfl, sx', hT.stepy hst⟩
    have Kz : ∀ (W : World) (sx sy sz : Value) (xs ys zs : List UInt8) (x : It), Tri w0 W (w0.heap.size + 1) sx sy sz xs ys zs → (-9223372036854775808 ≤ x.n ∧ x.n ≤ 9223372036854775807) → zs.length ≤ 1099511627000 →
        Calls Try.prog 13 #[.pointer (some ⟨w0.heap.size + 1 + 1 + 1, 0, none⟩), .agg #[.int .i64 x.kd, .int .i64 x.n, .string x.s]] W fun e w' => e = .returned (.int .i64 (itE x)) ∧ ∃ sz', Tri w0 w' (w0.heap.size + 1) sx sy sz' xs ys (zs ++ itB x) := by
      intro W sx sy sz xs ys zs x hT hx hl
      refine (write_any _ x sz zs W hx.1 hx.2 hT.wz hl).mono ?_
      rintro e w' ⟨rfl, sx', hst⟩
      exact ⟨rfl, sx', hT.stepz hst⟩
    obtain ⟨px, hpx⟩ : ∃ p, p = Value.pointer (some ⟨w0.heap.size + 1, 0, none⟩) := ⟨_, rfl⟩
    obtain ⟨py, hpy⟩ : ∃ p, p = Value.pointer (some ⟨w0.heap.size + 1 + 1, 0, none⟩) := ⟨_, rfl⟩
    obtain ⟨pz, hpz⟩ : ∃ p, p = Value.pointer (some ⟨w0.heap.size + 1 + 1 + 1, 0, none⟩) := ⟨_, rfl⟩
    rw [← hpx, ← hpy, ← hpz]
    rw [← hpx] at Kx
    rw [← hpy] at Ky
    rw [← hpz] at Kz
    have HPx := hide hpx
    have HPy := hide hpy
    have HPz := hide hpz
    have HKx := hide Kx
    have HKy := hide Ky
    have HKz := hide Kz
    clear Kx Ky Kz hpx hpy hpz
    go_loopw [8] (fun iv wr => ∃ (k : Nat) (xs : List UInt8) (sx sz : Value), k ≤ l1.length ∧ iv = .int .i64 k ∧ Hid (xs = itBs (l1.take k)) ∧ Tri w0 wr (w0.heap.size + 1) sx (.slice none 0 0) sz xs [] xs) (fun iv _ => l1.length - (intOf iv).toNat)
    case atStart => exact ⟨0, [], _, _, Nat.zero_le _, rfl, rfl, by simpa using T0⟩
    case round =>
      obtain ⟨k, xs, sx, sz, hk, rfl, HX, hT⟩ := hrel
      have hxl : xs.length ≤ 1099511627000 := by
        have q1 := itBs_take_length l1 k
        have q2 := unhide HS
        rw [← unhide HX] at q1
        omega
      by_cases hlt : k < l1.length
      · obtain ⟨x, hx⟩ : ∃ x, l1[k]? = some x := ⟨_, List.getElem?_eq_getElem hlt⟩
        rcases h1.cells with h0 | ⟨b, off, rfl, hB, hc⟩
        · exfalso; rw [h0] at hlt; simp at hlt
        · have hxb := h1.fit x (List.mem_of_getElem? hx)
          have HC := hide (hc k x hx)
          have HX2 := hide (itBs_take_succ l1 k x hx)
          clear hx hc
          have C := (unhide HC).below hT.bel hB
          obtain ⟨d0, d1, d2⟩ := C
          go_wp2_with fail
          go_region_with (first | (go_at_call_of 13 px; refine (unhide HKx _ sx (.slice none 0 0) sz xs [] xs x ?_ ⟨hxb.1, hxb.2.1⟩ hxl).mono ?_; exact hT.new (Fr.refl _ _).drew; rintro e w1 ⟨rfl, sx1, hT1⟩; obtain ⟨g0, g1, g2⟩ := (unhide HC).below hT1.bel hB) | (go_at_call_of 13 pz; refine (unhide HKz _ sx1 (.slice none 0 0) sz (xs ++ itB x) [] xs x ?_ ⟨hxb.1, hxb.2.1⟩ hxl).mono ?_; exact hT1; rintro e w2 ⟨rfl, sz1, hT2⟩))
          all_goals
            go_wp2_with fail
            exact ⟨⟨k + 1, xs ++ itB x, sx1, sz1, by omega, by go_num, by unfold Hid; rw [unhide HX2, unhide HX], hT2⟩, by simp [intOf]; omega⟩
      · have hk2 : k = l1.length := by omega
        subst hk2
        have HX1 : Hid (xs = itBs l1) := by have := unhide HX; rwa [List.take_length] at this
        clear HX hlt
        go_wp2_with fail
        go_loopw [9] (fun iv wr => ∃ (k : Nat) (ys : List UInt8) (sy sz : Value), k ≤ l2.length ∧ iv = .int .i64 k ∧ Hid (ys = itBs (l2.take k)) ∧ Tri w0 wr (w0.heap.size + 1) sx sy sz xs ys (xs ++ ys)) (fun iv _ => l2.length - (intOf iv).toNat)
        case atStart => exact ⟨0, [], _, _, Nat.zero_le _, rfl, rfl, by simpa using hT⟩
        case round =>
          clear hT
          obtain ⟨k, ys, sy, sz, hk, rfl, HY, hT⟩ := hrel
          have hyl : ys.length ≤ 1099511620 ∧ xs.length ≤ 1099511620 := by
            have q1 := itBs_take_length l2 k
            have q2 := unhide HS
            have q3 := itBs_length l1
            rw [← unhide HY] at q1
            rw [← unhide HX1] at q3
            omega
          have hzl : (xs ++ ys).length ≤ 1099511627000 := by rw [List.length_append]; omega
          by_cases hlt : k < l2.length
          · obtain ⟨x, hx⟩ : ∃ x, l2[k]? = some x := ⟨_, List.getElem?_eq_getElem hlt⟩
            rcases h2.cells with h0 | ⟨b, off, rfl, hB, hc⟩
            · exfalso; rw [h0] at hlt; simp at hlt
            · have hxb := h2.fit x (List.mem_of_getElem? hx)
              have HC := hide (hc k x hx)
              have HY2 := hide (itBs_take_succ l2 k x hx)
              clear hx hc
              have C := (unhide HC).below hT.bel hB
              obtain ⟨d0, d1, d2⟩ := C
              go_wp2_with fail
              go_region_with (first | (go_at_call_of 13 py; refine (unhide HKy _ sx sy sz xs ys (xs ++ ys) x ?_ ⟨hxb.1, hxb.2.1⟩ (by omega)).mono ?_; exact hT.new (Fr.refl _ _).drew; rintro e w1 ⟨rfl, sy1, hT1⟩; obtain ⟨g0, g1, g2⟩ := (unhide HC).below hT1.bel hB) | (go_at_call_of 13 pz; refine (unhide HKz _ sx sy1 sz xs (ys ++ itB x) (xs ++ ys) x ?_ ⟨hxb.1, hxb.2.1⟩ hzl).mono ?_; exact hT1; rintro e w2 ⟨rfl, sz1, hT2⟩))
              all_goals
                go_wp2_with fail
                exact ⟨⟨k + 1, ys ++ itB x, sy1, sz1, by omega, by go_num, by unfold Hid; rw [unhide HY2, unhide HY], by rw [← List.append_assoc]; exact hT2⟩, by simp [intOf]; omega⟩
          · have Bx : Calls Try.prog 14 #[px] wr fun e w' => e = .returned (.string (str xs)) ∧ w' = wr := by
              rw [unhide HPx]; exact wBytes_any _ _ _ _ hT.wx
            have By : Calls Try.prog 14 #[py] wr fun e w' => e = .returned (.string (str ys)) ∧ w' = wr := by
              rw [unhide HPy]; exact wBytes_any _ _ _ _ hT.wy
            have Bz : Calls Try.prog 14 #[pz] wr fun e w' => e = .returned (.string (str (xs ++ ys))) ∧ w' = wr := by
              rw [unhide HPz]; exact wBytes_any _ _ _ _ hT.wz
            have hsum : (str xs).size + (str ys).size ≤ 9223372036854775807 := by rw [size_str, size_str]; omega
            have hadd := fun w => run_string_add_sum (P := Try.prog) w (str xs) (str ys) hsum
            have heq : ((str xs ++ str ys).toList == (str (xs ++ ys)).toList) = true := by
              rw [beq_iff_eq, toList_str, toList_data]; simp [str]
            have heq2 : ((str xs).toList ++ (str ys).toList == (str (xs ++ ys)).toList) = true := by
              rw [beq_iff_eq, toList_str, toList_str, toList_str]
            go_wp2_with fail
            refine Bx.mono ?_
            rintro e w1 ⟨rfl, rfl⟩
            go_wp2_with fail
            refine By.mono ?_
            rintro e w1 ⟨rfl, rfl⟩
            go_wp2_with fail
            refine Bz.mono ?_
            rintro e w1 ⟨rfl, rfl⟩
            go_wp2_with fail
            refine (alive_any _).mono ?_
            rintro e w2 ⟨rfl, hb2⟩
            go_wp2
            go_ret
            exact ⟨rfl, hT.bel.trans (hb2.mono hT.sizes)⟩

set_option maxRecDepth 100000 in
theorem WireJoins_lifted (os : Os) (started : os.Started) (H : Type) (enc : TypeId × Value → H) :
    ReturnsInHanded {} Try.checked os 8 .any (Rows.wireJoinsSpec.pre6 enc Try.prog Try.f8 Rows.wireJoinsRow.domain false) (Rows.wireJoinsSpec.post enc Try.prog Try.f8 false true false false) := by
  refine returnsInHanded_of_change_sized (C := Try.checked) own started (by kernel_rfl) Try.func8
    (ChangeSpec.witness6 (enc := enc) (C := Try.checked) false ⟨#[], #[.slice none 0 0, .slice none 0 0], []⟩ 8 (by kernel_rfl) (by kernel_rfl) (by kernel_rfl) (by kernel_rfl)) ?_
  intro W base args ds gs before hval0 hW hcnd hsz0 _
  have hval : ∀ (j : Nat) t v, Try.f8.params[j]? = some t → args[j]? = some v → Value.okWide Try.prog W .any base t v := hval0
  have hsz : (DataW.weightsEach Try.prog (Try.f8.params.toList ++ Rows.wireJoinsSpec.plain.varTypes Try.prog) (ds ++ gs)).all (· ≤ reachBytes) = true := hsz0
  have hW' := hW
  obtain ⟨p, q, hA0, hV, rfl, hfz, hnd⟩ := hW
  have hA : DataW.TrodAll enc Try.prog W 0 (fun _ => true) true Try.f8.params.toList args.toList ds p := hA0
  rw [Try.params8] at hA hval hsz
  obtain ⟨v0, vs0, d0, ds0, p0, q0, hargs, rfl, rfl, h0, r0⟩ := trodAll_cons hA
  obtain ⟨v1, vs1, d1, ds1, p1, q1, rfl, rfl, rfl, h1, r1⟩ := trodAll_cons r0
  obtain ⟨rfl, rfl, rfl⟩ := trodAll_nil r1
  obtain rfl : args = #[v0, v1] := by cases args; simp_all
  obtain ⟨rfl, rfl⟩ := trodVars_none hV
  have k0 := h0
  have lt0 : ∀ x ∈ p0, x.block < W.heap.size := by obtain ⟨m, hm⟩ := k0; exact DataW.trod_lt m _ _ _ hm
  have k1 := h1
  have lt1 : ∀ x ∈ p1, x.block < W.heap.size := by obtain ⟨m, hm⟩ := k1; exact DataW.trod_lt m _ _ _ hm
  obtain ⟨a0, len0, cap0, rfl⟩ := okWide_slice Try.underlying22 (hval 0 22 v0 rfl rfl)
  obtain ⟨a1, len1, cap1, rfl⟩ := okWide_slice Try.underlying22 (hval 1 22 v1 rfl rfl)
  obtain ⟨l0, rfl, i0⟩ := open_items h0 (fun n hn => by simpa using List.all_eq_true.1 hsz n (DataW.weights_mem_each (j := 0) (t := 22) rfl rfl n hn))
  obtain ⟨l1, rfl, i1⟩ := open_items h1 (fun n hn => by simpa using List.all_eq_true.1 hsz n (DataW.weights_mem_each (j := 1) (t := 22) rfl rfl n hn))
  clear hA0 hval0
  refine (WireJoins_walk a0 a1 cap0 cap1 l0 l1 W i0 i1).mono fun e W' ⟨he, bel⟩ => ?_
  subst he
  exact ⟨_, rfl, _, _, _, [], _, [], hW', trodAll_mk1 (shut_bool Try.underlying4 _), (trodAll_cons_mk (Below.trod laidOut (by kernel_rfl) (of_decide_eq_true (by kernel_rfl)) k0 bel lt0) (trodAll_cons_mk (Below.trod laidOut (by kernel_rfl) (of_decide_eq_true (by kernel_rfl)) k1 bel lt1) trodAll_mk0)), rfl, bel.frame _, fun h => by cases h⟩

theorem WireJoins_over : Rows.wireJoinsRow.holds Try.pinned (OpenSpec.ofChange Rows.wireJoinsSpec) :=
  OpenClaim.holds_of_wide 8 Try.f8 rfl rfl rfl rfl rfl rfl rfl ⟨rfl, rfl, rfl, rfl, rfl⟩ rfl rfl rfl rfl rfl (by kernel_rfl) Try.func8 (by kernel_rfl)
    (of_decide_eq_true (by kernel_rfl)) (by unfold Func.isWrapper; first | (rw [if_pos (by decide +kernel)]; kernel_rfl) | (rw [if_neg (by decide +kernel)]; exact ⟨rfl, rfl⟩))
    (fun os started H enc _ => WireJoins_lifted os started H enc)

theorem WireJoins_holds : Rows.WireJoinsSaid := WireJoins_over
#print axioms WireJoins_holds

end Go.Proofs.Ytjoiecphjapbaaa
