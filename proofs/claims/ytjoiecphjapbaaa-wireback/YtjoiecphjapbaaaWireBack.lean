/- WireBack: for every list of items, the law answers true: what a Writer was given a Reader of its bytes takes again, thing by thing, and then there is nothing left. No condition. -/
import Derived.Test.YtjoiecphjapbaaaRows
import Derived.Test.YtjoiecphjapbaaaBackA
namespace Go.Proofs.Ytjoiecphjapbaaa
open Go.ChangeShapes Go.WideShapes Go.ChangeAt Go.RowKit

theorem cells_new3 (w : World) (x : It) (t : TypeId) : ∀ j u, (itCell x)[j]? = some u → (w.alloc (.cells #[.int .i64 x.kd, .int .i64 x.n, .string x.s] t)).cell? ((⟨w.heap.size, 0, none⟩ : Addr).add j) = some u := by
  intro j u hj
  match j, hj with
  | 0, hj => simp [itCell] at hj; subst hj; simp [Addr.add]
  | 1, hj => simp [itCell] at hj; subst hj; simp [Addr.add]
  | 2, hj => simp [itCell] at hj; subst hj; simp [Addr.add]
theorem itCell_one (x : It) : ∀ u ∈ itCell x, u.oneCell' = true := by
  intro u hu
  simp [itCell] at hu
  rcases hu with rfl | rfl | rfl <;> rfl

/-- The Reader of the law, and the items that the Writer took. -/
structure Bq (w wr : World) (c : Nat) (s : ByteArray) (k : Nat) (tv : Value) (tk : List It) : Prop where
  rd : RD wr c s k
  own : wr.ownsRow 0 32 3 tv tk.length (itCells tk)
  bel : Below w.heap.size w wr
  hc : w.heap.size ≤ c
  ne : tv.ownBlock ≠ some c
theorem Bq.lt {w wr : World} {c : Nat} {s : ByteArray} {k : Nat} {tv : Value} {tk : List It} (h : Bq w wr c s k tv tk) : c < wr.heap.size := lt_of_blk h.rd
theorem Bq.read {w wr w' : World} {c : Nat} {s : ByteArray} {k j : Nat} {tv : Value} {tk : List It} (h : Bq w wr c s k tv tk) (hf : Fr [c] wr w') (hr : RD w' c s j) : Bq w w' c s j tv tk := by
  refine ⟨hr, ownsRow3_of_blocks h.own fun k hk => hf.block k (by obtain ⟨cu, hcu⟩ := own_row3 h.own hk; exact lt_of_blk hcu) ?_, ?_, h.hc, h.ne⟩
  · simp; rintro rfl; exact h.ne hk
  · exact h.bel.trans ⟨hf.os, hf.tape, hf.output, hf.size, fun x hx => hf.block x (by have := h.bel.size; omega) (by have := h.hc; simp; omega)⟩
theorem Bq.new {w wr w' : World} {c : Nat} {s : ByteArray} {k : Nat} {tv : Value} {tk : List It} (h : Bq w wr c s k tv tk) (hf : Fr [] wr w') : Bq w w' c s k tv tk :=
  h.read (hf.mono (fun _ _ q => by cases q)) (h.rd.new hf)
def numT (l : List UInt8) (k : Nat) : Option (Value × Nat) := numO (tnum l k)
def flagT (l : List UInt8) (k : Nat) : Option (Value × Nat) := flagO (tflag l k)
def textT (l : List UInt8) (k : Nat) : Option (Value × Nat) := textO (ttext l k)
def cntT (l : List UInt8) (k : Nat) : Option (Value × Nat) := numO (tcnt l k)
theorem str_data (s : ByteArray) : str s.data.toList = s := by apply ByteArray.ext; simp [str]
theorem stands_item (tk : List It) (i : Nat) (x : It) (h : tk[i]? = some x) : Stands (itBs tk) (itBs (tk.take i)).length (itB x) := by
  have hi : i < tk.length := by
    rcases Nat.lt_or_ge i tk.length with q | q
    · exact q
    · rw [List.getElem?_eq_none q] at h; cases h
  have e : itBs tk = itBs (tk.take i) ++ itB x ++ itBs (tk.drop (i + 1)) := by
    rw [← itBs_take_succ tk i x h]
    unfold itBs
    rw [← List.flatten_append, ← List.map_append, List.take_append_drop]
  rw [e]; exact stands_mid _ _ _
theorem box3 {w w' : World} {x y z : Value} {t : TypeId} {c : Nat} (hc : c < w.heap.size) (hf : Fr [c] (w.alloc (.cells #[x, y, z] t)) w') :
    w'.cell? ⟨w.heap.size, 1, none⟩ = some y ∧ w'.cell? ⟨w.heap.size, 2, none⟩ = some z := by
  have k0 := hf.block w.heap.size (by simp) (by simp; omega)
  have hn := heap_alloc_new w (.cells #[x, y, z] t)
  rw [← k0] at hn
  simp [World.cell?, hn]

set_option maxRecDepth 100000 in
set_option maxHeartbeats 2000000 in
theorem WireBack_walk (a1 : Option Addr) (c1 : Nat) (l1 : List It) (w : World) (h1 : ItemsAt w a1 l1) :
    Calls Try.prog 5 #[.slice a1 l1.length c1] w fun e w' => e = .returned (.bool true) ∧ Below w.heap.size w w' := by
  have hl1 := h1.len
  obtain ⟨i0, hi, hz0, hz1, hz2⟩ := info_parts Try.infoItem
  go_enter Try.func5, Try.ntmps5
  go_wp2_with fail
  refine (itemsSize_any _ _ _ _ h1).mono ?_
  rintro e w0 ⟨⟨n, rfl, hn, hn2⟩, rfl⟩
  have HN1 := hide hn2
  clear hn2
  have q0 : (w0.alloc (.cells #[.int .i64 n] 3)).cell? ⟨w0.heap.size, 0, none⟩ = some (.int .i64 n) := by simp [go_sem]
  have KB := beyond_one w0.heap.size n 1 _ hn q0
  go_wp2_with fail
  refine KB.mono ?_
  rintro e w1 ⟨rfl, rfl⟩
  clear KB q0
  have hbel : Below w0.heap.size w0 (w0.alloc (.cells #[.int .i64 n] 3)) := (Below.refl _ _).alloc (Nat.le_refl _) _
  by_cases hb : 262144 < n
  · have hb' : decide (262144 < n) = true := decide_eq_true hb
    go_wp2
    go_ret
    exact ⟨rfl, hbel⟩
  · have hb' : decide (262144 < n) = false := decide_eq_false hb
    have s1 := unhide HN1 (by omega)
    have HS : Hid (l1.length + sumS l1 ≤ 262144) := by unfold Hid; omega
    clear s1 HN1
    have T0 : Bk w0 ((w0.alloc (.cells #[.int .i64 n] 3)).alloc (.cells #[.bool true, .slice none 0 0] 54)) (w0.heap.size + 1) (.slice none 0 0) (.slice none 0 0) [] [] := by
      have hf := WR.fresh (w0.alloc (.cells #[.int .i64 n] 3))
      have e1 : (w0.alloc (.cells #[.int .i64 n] 3)).heap.size = w0.heap.size + 1 := by simp
      rw [e1] at hf
      refine ⟨hf, World.ownsRow_nil _ _ _ _, hbel.alloc (by simp) _, by omega, ?_, ?_⟩
      · intro k hk; cases hk
      · intro k hk; cases hk
    have Kw : ∀ (W : World) (sv tv : Value) (xs : List UInt8) (tk : List It) (x : It), Bk w0 W (w0.heap.size + 1) sv tv xs tk → (-9223372036854775808 ≤ x.n ∧ x.n ≤ 9223372036854775807) → xs.length ≤ 1099511627000 →
        Calls Try.prog 13 #[.pointer (some ⟨w0.heap.size + 1, 0, none⟩), .agg #[.int .i64 x.kd, .int .i64 x.n, .string x.s]] W fun e w' => e = .returned (.int .i64 (itE x)) ∧ ∃ sv', Bk w0 w' (w0.heap.size + 1) sv' tv (xs ++ itB x) tk := by
      intro W sv tv xs tk x hT hx hl
      refine (write_any _ x sv xs W hx.1 hx.2 hT.pw hl).mono ?_
      rintro e w' ⟨rfl, sv', hst⟩
      exact ⟨rfl, sv', hT.step hst⟩
    have HKw := hide Kw
    clear Kw
    go_wp2_with (go_at_call 11; refine (newWriter_any _).mono ?_; rintro e w9 ⟨rfl, rfl⟩)
    go_loopw [4, 5] (fun tv iv wr => ∃ (k : Nat) (xs : List UInt8) (tk : List It) (sv : Value), k ≤ l1.length ∧ iv = .int .i64 k ∧ tk.length ≤ k ∧ Hid (xs = itBs (l1.take k) ∧ xs = itBs tk ∧ ∀ x ∈ tk, itE x = 0 ∧ -9223372036854775808 ≤ x.n ∧ x.n ≤ 9223372036854775807) ∧ Bk w0 wr (w0.heap.size + 1) sv tv xs tk) (fun _ iv _ => l1.length - (intOf iv).toNat)
    case atStart => exact ⟨0, [], [], _, Nat.zero_le _, rfl, Nat.le_refl _, ⟨rfl, rfl, by simp⟩, T0⟩
    case round =>
      obtain ⟨k, xs, tk, sv, hk, rfl, htk, HX, hT⟩ := hrel
      have hxl : xs.length ≤ 10995116270 := by
        have q1 := itBs_take_length l1 k
        have q2 := unhide HS
        rw [← (unhide HX).1] at q1
        omega
      by_cases hlt : k < l1.length
      · obtain ⟨x, hx⟩ : ∃ x, l1[k]? = some x := ⟨_, List.getElem?_eq_getElem hlt⟩
        rcases h1.cells with h0 | ⟨b, off, rfl, hB, hc⟩
        · exfalso; rw [h0] at hlt; simp at hlt
        · have hxb := h1.fit x (List.mem_of_getElem? hx)
          have HC := hide (hc k x hx)
          have HX2 := hide (itBs_take_succ l1 k x hx)
          clear hx hc
          obtain ⟨d0, d1, d2⟩ := (unhide HC).below hT.bel hB
          have hl262 : l1.length ≤ 262144 := by have := unhide HS; omega
          go_wp2_with fail
          refine (unhide HKw _ sv _ xs tk x hT ⟨hxb.1, hxb.2.1⟩ (by omega)).mono ?_
          rintro e w2 ⟨rfl, sv2, hT2⟩
          clear d0 d1 d2
          obtain ⟨d0, d1, d2⟩ := (unhide HC).below hT2.bel hB
          by_cases hE : itE x = 0
          · have hown2 := hT2.own
            go_wp2_with (at_builtin; refine wpList_append_own_at _ rfl (.tmp 41) (.tmp 46) 22 rfl 0 32 i0 (.agg #[.int .i64 0, .int .i64 0, .string ByteArray.empty]) 3 32 Try.underlying22 hi hz0 hz1 hz2 rfl (by decide) _ tk.length _ rfl (hown2.alloc _) ⟨w2.heap.size, 0, none⟩ 1 1 (itCell x) rfl rfl (cells_new3 _ x _) ?c2 ?c3 ?c4 ?c5 ?nx)
            case c2 => exact itCell_one x
            case c3 => unfold maxLen; omega
            case c4 => omega
            case c5 => omega
            case nx =>
              intro v' w3 hown' hgrow _ hat
              have hT3 := hT2.grow (x := x) hown' hgrow hat
              clear hown' hgrow hat
              have HB0 := hide (itB_ok hE)
              go_wp2
              go_roundw
              case rel => exact ⟨k + 1, xs ++ itB x, tk ++ [x], sv2, by omega, by go_num, by simp; omega, ⟨by rw [unhide HX2, (unhide HX).1], by rw [(unhide HX).2.1]; simp [itBs], fun y hy => by
                  rcases List.mem_append.1 hy with q | q
                  · exact (unhide HX).2.2 y q
                  · simp at q; subst q; exact ⟨hE, hxb.1, hxb.2.1⟩⟩, hT3⟩
              case measure => simp [intOf]; omega
          · have hE' : (itE x == 0) = false := by simp [hE]
            have HB0 := hide (itB_bad hE)
            clear hE
            go_wp2_with fail
            exact ⟨⟨k + 1, xs, tk, sv2, by omega, by go_num, by omega, ⟨by rw [unhide HX2, (unhide HX).1, unhide HB0, List.append_nil], (unhide HX).2.1, (unhide HX).2.2⟩, by have := hT2; rwa [unhide HB0, List.append_nil] at this⟩, by simp [intOf]; omega⟩
      · go_wp2_with fail
        refine (wBytes_any _ _ _ _ hT.pw).mono ?_
        rintro e w2 ⟨rfl, rfl⟩
        go_wp2_with (go_at_call 16; refine (newReader_any _ _).mono ?_; rintro e w9 ⟨rfl, rfl⟩)
        have hT2 := hT
        have hxl2 : xs.length = (itBs tk).length := by rw [← (unhide HX).2.1]
        have hss : (str xs).size ≤ 140737488355328 := by rw [size_str]; omega
        obtain ⟨ao, cap, rfl, hao⟩ : ∃ ao cap, u4 = .slice ao tk.length cap ∧ (tk = [] ∨ ∃ g, ao = some ⟨g, 0, none⟩) := by
          rcases hT.own.2 with ⟨q1, q2⟩ | ⟨g, cap, cur, q1, _⟩
          · exact ⟨none, 0, by rw [q1, q2], Or.inl (List.eq_nil_of_length_eq_zero q2)⟩
          · exact ⟨_, _, q1, Or.inr ⟨g, rfl⟩⟩
        have Q0 : Bq w0 (w2.alloc (.cells #[.bool true, .string (str xs), .int .i64 0] 56)) w2.heap.size (str xs) 0 (.slice ao tk.length cap) tk := by
          refine ⟨RD.fresh w2 (str xs), ownsRow3_of_blocks hT.own fun k hk => Below.heap_alloc _ _ _ (hT.tlt k hk).1, hT.bel.alloc hT.bel.size _, hT.bel.size, ?_⟩
          intro q; have := (hT.tlt _ q).1; omega
        have HX3 := hide (unhide HX).2.1
        have HX4 := hide (unhide HX).2.2
        clear HX hT hT2
        go_loopw [8] (fun iv wr => ∃ (i k : Nat), i ≤ tk.length ∧ iv = .int .i64 i ∧ Hid (k = (itBs (tk.take i)).length) ∧ Bq w0 wr w2.heap.size (str xs) k (.slice ao tk.length cap) tk) (fun iv _ => tk.length - (intOf iv).toNat)
        case atStart => exact ⟨0, 0, Nat.zero_le _, rfl, rfl, Q0⟩
        case round =>
          clear Q0
          obtain ⟨i, k, hi2, rfl, HK, hQ⟩ := hrel
          by_cases hlt2 : i < tk.length
          · obtain ⟨x, hx⟩ : ∃ x, tk[i]? = some x := ⟨_, List.getElem?_eq_getElem hlt2⟩
            rcases hao with h0 | ⟨g, rfl⟩
            · exfalso; rw [h0] at hlt2; simp at hlt2
            · obtain ⟨hE, hx1, hx2⟩ := unhide HX4 x (List.mem_of_getElem? hx)
              have hst : Stands xs k (itB x) := by rw [unhide HX3, unhide HK]; exact stands_item tk i x hx
              have HK2 : Hid ((itBs (tk.take (i + 1))).length = (itBs (tk.take i)).length + (itB x).length) := by unfold Hid; rw [itBs_take_succ tk i x hx, List.length_append]
              obtain ⟨p0, p1, p2⟩ := itCells_at tk i x hx
              have d0 : wr.cell? ⟨g, i * 3, none⟩ = some (.int .i64 x.kd) := by have := hQ.own.cells (g := g) rfl _ _ p0; rwa [Addr.add_lit, Nat.zero_add] at this
              have d1 : wr.cell? ⟨g, i * 3 + 1, none⟩ = some (.int .i64 x.n) := by have := hQ.own.cells (g := g) rfl _ _ p1; rwa [Addr.add_lit, Nat.zero_add] at this
              have d2 : wr.cell? ⟨g, i * 3 + 2, none⟩ = some (.string x.s) := by have := hQ.own.cells (g := g) rfl _ _ p2; rwa [Addr.add_lit, Nat.zero_add] at this
              clear hx p0 p1 p2
              have hBR := itB_ok hE
              obtain ⟨kd, nn, sx⟩ := x
              simp only at d0 d1 d2 hx1 hx2
              by_cases k0 : kd = 0
              · subst k0
                have hR : itB ⟨0, nn, sx⟩ = [UInt8.ofNat nn.toNat] := by rw [hBR]; simp [itR]
                have hn0 : 0 ≤ nn ∧ nn ≤ 255 := by
                  by_cases q : nn < 0 ∨ 255 < nn
                  · exfalso; simp [itE, q] at hE
                  · omega
                clear hBR hE
                have hres : tbyte xs k = some (.int .i64 nn, k + (itB ⟨0, nn, sx⟩).length) := by rw [hR] at hst ⊢; exact back0 hn0.1 hn0.2 hst
                have K1 : Calls Try.prog 20 #[.pointer (some ⟨w2.heap.size, 0, none⟩)] (wr.alloc (.cells #[.int .i64 0, .int .i64 nn, .string sx] 32)) (Tried (wr.alloc (.cells #[.int .i64 0, .int .i64 nn, .string sx] 32)) w2.heap.size (str xs) k (.int .i64 0) (tbyte xs k)) := rByte_any w2.heap.size k (str xs) _ (hQ.new ((Fr.refl [] wr).alloc _)).rd hss
                rw [hres] at K1
                clear hres
                go_wp2_with (go_at_call 20; refine K1.mono ?_; rintro e w3 ⟨hf3, rfl, hr3⟩; obtain ⟨g1, g2⟩ := box3 hQ.lt hf3)
                exact ⟨⟨i + 1, _, by omega, by go_num, by unfold Hid; rw [unhide HK2, unhide HK], (hQ.new ((Fr.refl [] wr).alloc _)).read hf3 hr3⟩, by simp [intOf]; omega⟩
              by_cases k1 : kd = 1
              · subst k1
                have hR : itB ⟨1, nn, sx⟩ = enc nn := by rw [hBR]; simp [itR]
                clear hBR hE
                have hres : numT xs k = some (.int .i64 nn, k + (itB ⟨1, nn, sx⟩).length) := by unfold numT; rw [hR] at hst ⊢; rw [back1 hx1 hx2 hst]; rfl
                have K1 : Calls Try.prog 21 #[.pointer (some ⟨w2.heap.size, 0, none⟩)] (wr.alloc (.cells #[.int .i64 1, .int .i64 nn, .string sx] 32)) (Tried (wr.alloc (.cells #[.int .i64 1, .int .i64 nn, .string sx] 32)) w2.heap.size (str xs) k (.int .i64 0) (numT xs k)) := rNumber_any w2.heap.size k (str xs) _ (hQ.new ((Fr.refl [] wr).alloc _)).rd hss
                rw [hres] at K1
                clear hres
                go_wp2_with (go_at_call 21; refine K1.mono ?_; rintro e w3 ⟨hf3, rfl, hr3⟩; obtain ⟨g1, g2⟩ := box3 hQ.lt hf3)
                exact ⟨⟨i + 1, _, by omega, by go_num, by unfold Hid; rw [unhide HK2, unhide HK], (hQ.new ((Fr.refl [] wr).alloc _)).read hf3 hr3⟩, by simp [intOf]; omega⟩
              by_cases k2 : kd = 2
              · subst k2
                by_cases hp : 0 < nn
                · have hR : itB ⟨2, nn, sx⟩ = [if true then 1 else 0] := by rw [hBR]; simp [itR, hp]
                  clear hBR hE
                  have hres : flagT xs k = some (.bool true, k + (itB ⟨2, nn, sx⟩).length) := by unfold flagT; rw [hR] at hst ⊢; rw [back2 hst]; rfl
                  have K1 : Calls Try.prog 22 #[.pointer (some ⟨w2.heap.size, 0, none⟩)] (wr.alloc (.cells #[.int .i64 2, .int .i64 nn, .string sx] 32)) (Tried (wr.alloc (.cells #[.int .i64 2, .int .i64 nn, .string sx] 32)) w2.heap.size (str xs) k (.bool false) (flagT xs k)) := rFlag_any w2.heap.size k (str xs) _ (hQ.new ((Fr.refl [] wr).alloc _)).rd hss
                  rw [hres] at K1
                  clear hres
                  go_wp2_with (go_at_call 22; refine K1.mono ?_; rintro e w3 ⟨hf3, rfl, hr3⟩; obtain ⟨g1, g2⟩ := box3 hQ.lt hf3)
                  exact ⟨⟨i + 1, _, by omega, by go_num, by unfold Hid; rw [unhide HK2, unhide HK], (hQ.new ((Fr.refl [] wr).alloc _)).read hf3 hr3⟩, by simp [intOf]; omega⟩
                · have hR : itB ⟨2, nn, sx⟩ = [if false then 1 else 0] := by rw [hBR]; simp [itR, hp]
                  clear hBR hE
                  have hres : flagT xs k = some (.bool false, k + (itB ⟨2, nn, sx⟩).length) := by unfold flagT; rw [hR] at hst ⊢; rw [back2 hst]; rfl
                  have K1 : Calls Try.prog 22 #[.pointer (some ⟨w2.heap.size, 0, none⟩)] (wr.alloc (.cells #[.int .i64 2, .int .i64 nn, .string sx] 32)) (Tried (wr.alloc (.cells #[.int .i64 2, .int .i64 nn, .string sx] 32)) w2.heap.size (str xs) k (.bool false) (flagT xs k)) := rFlag_any w2.heap.size k (str xs) _ (hQ.new ((Fr.refl [] wr).alloc _)).rd hss
                  rw [hres] at K1
                  clear hres
                  go_wp2_with (go_at_call 22; refine K1.mono ?_; rintro e w3 ⟨hf3, rfl, hr3⟩; obtain ⟨g1, g2⟩ := box3 hQ.lt hf3)
                  exact ⟨⟨i + 1, _, by omega, by go_num, by unfold Hid; rw [unhide HK2, unhide HK], (hQ.new ((Fr.refl [] wr).alloc _)).read hf3 hr3⟩, by simp [intOf]; omega⟩
              by_cases k3 : kd = 3
              · subst k3
                have hR : itB ⟨3, nn, sx⟩ = enc (sx.data.toList.length : Nat) ++ sx.data.toList := by rw [hBR]; simp [itR]
                have hsz : sx.data.toList.length ≤ 65536 := by
                  by_cases q : 65536 < sx.size
                  · exfalso; simp [itE, q] at hE
                  · simp; omega
                clear hBR hE
                have hres : textT xs k = some (.string sx, k + (itB ⟨3, nn, sx⟩).length) := by unfold textT; rw [hR] at hst ⊢; rw [back3 hsz hst, ← str_data sx]; rfl
                have K1 : Calls Try.prog 23 #[.pointer (some ⟨w2.heap.size, 0, none⟩)] (wr.alloc (.cells #[.int .i64 3, .int .i64 nn, .string sx] 32)) (Tried (wr.alloc (.cells #[.int .i64 3, .int .i64 nn, .string sx] 32)) w2.heap.size (str xs) k (.string ⟨#[]⟩) (textT xs k)) := rText_any w2.heap.size k (str xs) _ (hQ.new ((Fr.refl [] wr).alloc _)).rd hss
                rw [hres] at K1
                clear hres
                go_wp2_with (go_at_call 23; refine K1.mono ?_; rintro e w3 ⟨hf3, rfl, hr3⟩; obtain ⟨g1, g2⟩ := box3 hQ.lt hf3)
                exact ⟨⟨i + 1, _, by omega, by go_num, by unfold Hid; rw [unhide HK2, unhide HK], (hQ.new ((Fr.refl [] wr).alloc _)).read hf3 hr3⟩, by simp [intOf]; omega⟩
              · have t0 : (kd == 0) = false := by simp; omega
                have t1 : (kd == 1) = false := by simp; omega
                have t2 : (kd == 2) = false := by simp; omega
                have t3 : (kd == 3) = false := by simp; omega
                have hR : itB ⟨kd, nn, sx⟩ = enc nn := by rw [hBR]; unfold itR; rw [if_neg k0, if_neg k1, if_neg k2, if_neg k3]
                have hn0 : 0 ≤ nn ∧ nn ≤ 65536 := by
                  unfold itE at hE
                  rw [if_neg k0, if_neg k1, if_neg k2, if_neg k3] at hE
                  by_cases q : nn < 0
                  · rw [if_pos q] at hE; cases hE
                  · rw [if_neg q] at hE
                    by_cases q2 : 65536 < nn
                    · rw [if_pos q2] at hE; cases hE
                    · omega
                clear hBR hE
                have hres : cntT xs k = some (.int .i64 nn, k + (itB ⟨kd, nn, sx⟩).length) := by unfold cntT; rw [hR] at hst ⊢; rw [back4 hn0.1 hn0.2 hst]; rfl
                have K1 : Calls Try.prog 24 #[.pointer (some ⟨w2.heap.size, 0, none⟩)] (wr.alloc (.cells #[.int .i64 kd, .int .i64 nn, .string sx] 32)) (Tried (wr.alloc (.cells #[.int .i64 kd, .int .i64 nn, .string sx] 32)) w2.heap.size (str xs) k (.int .i64 0) (cntT xs k)) := rList_any w2.heap.size k (str xs) _ (hQ.new ((Fr.refl [] wr).alloc _)).rd hss
                rw [hres] at K1
                clear hres
                go_wp2_with (go_at_call 24; refine K1.mono ?_; rintro e w3 ⟨hf3, rfl, hr3⟩; obtain ⟨g1, g2⟩ := box3 hQ.lt hf3)
                exact ⟨⟨i + 1, _, by omega, by go_num, by unfold Hid; rw [unhide HK2, unhide HK], (hQ.new ((Fr.refl [] wr).alloc _)).read hf3 hr3⟩, by simp [intOf]; omega⟩
          · have hk2 : k = (str xs).size := by
              have q := unhide HK
              rw [List.take_of_length_le (by omega)] at q
              rw [q, size_str, hxl2]
            go_wp2_with fail
            refine (end_done _ _ _ _ hQ.rd (by omega)).mono ?_
            rintro e w4 ⟨rfl, n4, rfl⟩
            have hQ4 := hQ.new ((Fr.refl [] wr).drewN n4)
            have hkk : ((k : Int) == ((str xs).size : Int)) = true := by simp; omega
            have HK4 := hide hk2
            clear hk2
            go_wp2_with fail
            refine (at_any _ _ _ _ hQ4.rd).mono ?_
            rintro e w5 ⟨rfl, rfl⟩
            go_wp2_with fail
            refine (alive_any _).mono ?_
            rintro e w6 ⟨rfl, hb6⟩
            go_wp2
            go_ret
            exact ⟨rfl, hQ4.bel.trans (hb6.mono hQ4.bel.size)⟩

set_option maxRecDepth 100000 in
theorem WireBack_lifted (os : Os) (started : os.Started) (H : Type) (enc : TypeId × Value → H) :
    ReturnsInHanded {} Try.checked os 5 .any (Rows.wireBackSpec.pre6 enc Try.prog Try.f5 Rows.wireBackRow.domain false) (Rows.wireBackSpec.post enc Try.prog Try.f5 false true false false) := by
  refine returnsInHanded_of_change_sized (C := Try.checked) own started (by kernel_rfl) Try.func5
    (ChangeSpec.witness6 (enc := enc) (C := Try.checked) false ⟨#[], #[.slice none 0 0], []⟩ 8 (by kernel_rfl) (by kernel_rfl) (by kernel_rfl) (by kernel_rfl)) ?_
  intro W base args ds gs before hval0 hW hcnd hsz0 _
  have hval : ∀ (j : Nat) t v, Try.f5.params[j]? = some t → args[j]? = some v → Value.okWide Try.prog W .any base t v := hval0
  have hsz : (DataW.weightsEach Try.prog (Try.f5.params.toList ++ Rows.wireBackSpec.plain.varTypes Try.prog) (ds ++ gs)).all (· ≤ reachBytes) = true := hsz0
  have hW' := hW
  obtain ⟨p, q, hA0, hV, rfl, hfz, hnd⟩ := hW
  have hA : DataW.TrodAll enc Try.prog W 0 (fun _ => true) true Try.f5.params.toList args.toList ds p := hA0
  rw [Try.params5] at hA hval hsz
  obtain ⟨v0, vs0, d0, ds0, p0, q0, hargs, rfl, rfl, h0, r0⟩ := trodAll_cons hA
  obtain ⟨rfl, rfl, rfl⟩ := trodAll_nil r0
  obtain rfl : args = #[v0] := by cases args; simp_all
  obtain ⟨rfl, rfl⟩ := trodVars_none hV
  have k0 := h0
  have lt0 : ∀ x ∈ p0, x.block < W.heap.size := by obtain ⟨m, hm⟩ := k0; exact DataW.trod_lt m _ _ _ hm
  obtain ⟨a0, len0, cap0, rfl⟩ := okWide_slice Try.underlying22 (hval 0 22 v0 rfl rfl)
  obtain ⟨l0, rfl, i0⟩ := open_items h0 (fun n hn => by simpa using List.all_eq_true.1 hsz n (DataW.weights_mem_each (j := 0) (t := 22) rfl rfl n hn))
  clear hA0 hval0
  refine (WireBack_walk a0 cap0 l0 W i0).mono fun e W' ⟨he, bel⟩ => ?_
  subst he
  exact ⟨_, rfl, _, _, _, [], _, [], hW', trodAll_mk1 (shut_bool Try.underlying4 _), (trodAll_cons_mk (Below.trod laidOut (by kernel_rfl) (of_decide_eq_true (by kernel_rfl)) k0 bel lt0) trodAll_mk0), rfl, bel.frame _, fun h => by cases h⟩

theorem WireBack_over : Rows.wireBackRow.holds Try.pinned (OpenSpec.ofChange Rows.wireBackSpec) :=
  OpenClaim.holds_of_wide 5 Try.f5 rfl rfl rfl rfl rfl rfl rfl ⟨rfl, rfl, rfl, rfl, rfl⟩ rfl rfl rfl rfl rfl (by kernel_rfl) Try.func5 (by kernel_rfl)
    (of_decide_eq_true (by kernel_rfl)) (by unfold Func.isWrapper; first | (rw [if_pos (by decide +kernel)]; kernel_rfl) | (rw [if_neg (by decide +kernel)]; exact ⟨rfl, rfl⟩))
    (fun os started H enc _ => WireBack_lifted os started H enc)

theorem WireBack_holds : Rows.WireBackSaid := WireBack_over
#print axioms WireBack_holds

end Go.Proofs.Ytjoiecphjapbaaa
