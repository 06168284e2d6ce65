/- Contracts of the document's own bytes that are put together and taken apart: Out's List, Text and Bytes, In's List and Text. -/
import Derived.Test.YtfnpeiikjiffeaaGreatWiRef
import Derived.Test.YtfnpeiikjiffeaaGreatWiRefTakeB
namespace Go.Proofs.YtfnpeiikjiffeaaGreat.Wi
open Go.RowKit

/-- An Out at block b, with the slice sv, in which stand the bytes bs; nothing went wrong. -/
structure OR (w : World) (b : Nat) (sv : Value) (bs : List UInt8) : Prop where
  blk : w.heap[b]? = some (.cells #[sv, .int .i64 0] 61 (0, 0))
  own : w.ownsRow 0 5 1 sv bs.length (bs.map B8)
structure OStep (w w' : World) (b : Nat) (sv sv' : Value) (bs' : List UInt8) : Prop where
  wr : OR w' b sv' bs'
  fr : Fr (b :: sv.ownBlock.toList) w w'
  place : ∀ k, sv'.ownBlock = some k → sv.ownBlock = some k ∨ w.heap.size ≤ k
set_option maxRecDepth 100000 in
theorem OR.ne {w : World} {b : Nat} {sv : Value} {bs : List UInt8} (h : OR w b sv bs) : sv.ownBlock ≠ some b := by
  intro c
  obtain ⟨cur, hc⟩ := own_row h.own c
  rw [h.blk] at hc; simp at hc
set_option maxRecDepth 100000 in
theorem OR.keep {w w' : World} {b : Nat} {sv : Value} {bs : List UInt8} {S : List Nat} (h : OR w b sv bs) (hf : Fr S w w') (hb : b ∉ S) (hs : ∀ k, sv.ownBlock = some k → k ∉ S) : OR w' b sv bs :=
  ⟨by rw [hf.block b (lt_of_blk h.blk) hb]; exact h.blk,
   ownsRow_of_blocks h.own fun k hk => hf.block k (by obtain ⟨c, hc⟩ := own_row h.own hk; exact lt_of_blk hc) (hs k hk)⟩
set_option maxRecDepth 100000 in
theorem OR.new {w w' : World} {b : Nat} {sv : Value} {bs : List UInt8} (h : OR w b sv bs) (hf : Fr [] w w') : OR w' b sv bs := h.keep hf (by simp) (by simp)
set_option maxRecDepth 100000 in
theorem OStep.before {w w0 w1 : World} {b : Nat} {sv sv1 : Value} {bs1 : List UInt8} (h : Fr [] w w0) (k : OStep w0 w1 b sv sv1 bs1) : OStep w w1 b sv sv1 bs1 :=
  ⟨k.wr, h.trans k.fr (fun _ _ c => by cases c) (fun _ _ c => c), fun x hx => (k.place x hx).imp id (fun c => Nat.le_trans h.size c)⟩
set_option maxRecDepth 100000 in
theorem OR.storedStr {w w1 : World} {b : Nat} {sv sv' : Value} {bs : List UInt8} {s : ByteArray} (h : OR w b sv bs) (hown : w1.ownsRow 0 5 1 sv' (bs.length + s.size) (bs.map B8 ++ Lib.strCells s))
    (hg : w.grownBy w1 sv.ownBlock) (hp : ∀ k, sv'.ownBlock = some k → sv.ownBlock = some k ∨ w.heap.size ≤ k) :
    (∃ a n cap, sv' = .slice a n cap) ∧ OStep w (w1.setCell ⟨b, 0, none⟩ sv') b sv sv' (bs ++ s.data.toList) ∧ w1.cell? ⟨b, 0, none⟩ = some sv ∧ w1.frozen? ⟨b, 0, none⟩ = false := by
  have hb1 : w1.heap[b]? = some (.cells #[sv, .int .i64 0] 61 (0, 0)) := by
    rw [hg.block b (lt_of_blk h.blk) (fun c => h.ne c.symm)]; exact h.blk
  have hne : sv'.ownBlock ≠ some b := by
    intro c
    obtain ⟨cur, hc⟩ := own_row hown c
    rw [hb1] at hc; simp at hc
  refine ⟨?_, ⟨⟨?_, ?_⟩, ?_, hp⟩, by simp [World.cell?, hb1], by simp [World.frozen?, hb1]⟩
  · rcases hown.2 with ⟨h, _⟩ | ⟨g, cap, _, h, _⟩
    · exact ⟨_, _, _, h⟩
    · exact ⟨_, _, _, h⟩
  · simp [World.setCell, Array.getElem?_modify, hb1]
  · have e : (bs ++ s.data.toList).length = bs.length + s.size := by simp
    rw [e, List.map_append]
    exact ownsRow_of_blocks (xs := bs.map B8 ++ Lib.strCells s) hown fun k hk => Below.heap_setCell _ _ _ _ (fun c => hne (by rw [hk, c]))
  · exact (((Fr.refl [] w).trans (T := b :: sv.ownBlock.toList) (Fr.ofGrown hg) (fun _ _ c => by cases c) (fun x _ c => by simp at c ⊢; exact Or.inr c))).setCell (Or.inr (by simp)) _
set_option maxHeartbeats 800000 in
set_option maxRecDepth 100000 in
theorem oput_any (b : Nat) (s : ByteArray) (sv : Value) (bs : List UInt8) (w : World) (hw : OR w b sv bs) (hl : bs.length + s.size ≤ 1099511627776) :
    Calls Tryz.prog 53 #[.pointer (some ⟨b, 0, none⟩), .string s, .int .i64 0] w fun e w' => e = .returned (.tuple #[]) ∧ ∃ sv', OStep w w' b sv sv' (bs ++ s.data.toList) := by
  have c0 : w.cell? ⟨b, 0, none⟩ = some sv := by simp [World.cell?, hw.blk]
  have c1 : w.cell? ⟨b, 1, none⟩ = some (.int .i64 0) := by simp [World.cell?, hw.blk]
  have hown := hw.own
  obtain ⟨i0, hi, hz0, hz1, hz2⟩ := info_parts Tryz.infoU8
  go_enter Tryz.func53, Tryz.ntmps53
  go_wp2_with (at_builtin; refine wpList_append_string_place _ rfl (.tmp 23) (.tmp 24) 59 9 rfl 5 i0 Tryz.underlying59 Tryz.underlying9 hi hz0 hz1 hz2 sv bs.length _ rfl hown s rfl ?c4 ?nx)
  case c4 => omega
  case nx =>
    intro v' w1 hown' hgrow hat
    obtain ⟨⟨g, m, cap, rfl⟩, R1, R2, R3⟩ := hw.storedStr hown' hgrow hat
    clear hown' hgrow hat
    go_wp2
    go_end0
    exact ⟨rfl, _, R1⟩
set_option maxHeartbeats 800000 in
set_option maxRecDepth 100000 in
theorem oText_ok (b : Nat) (s : ByteArray) (sv : Value) (bs : List UInt8) (w : World) (h : s.size ≤ 65536) (hw : OR w b sv bs) (hl : bs.length ≤ 1099511000000) :
    Calls Tryz.prog 31 #[.pointer (some ⟨b, 0, none⟩), .string s] w fun e w' => e = .returned (.tuple #[]) ∧ ∃ sv', OStep w w' b sv sv' (bs ++ (enc s.size ++ s.data.toList)) := by
  have K := refText_ok s w h
  have HL : Hid ((str (enc s.size ++ s.data.toList)).size ≤ s.size + 10) := by
    have := enc_length s.size
    unfold Hid; rw [size_str, List.length_append]; simp; omega
  have HD : Hid ((str (enc s.size ++ s.data.toList)).data.toList = enc s.size ++ s.data.toList) := by unfold Hid; simp [str]
  generalize str (enc s.size ++ s.data.toList) = t at *
  go_enter Tryz.func31, Tryz.ntmps31
  go_wp2_with (first | (go_at_call 55; refine K.mono ?_; rintro e w1 ⟨rfl, hb⟩))
  refine (oput_any b t sv bs w1 (hw.new ⟨hb.os, hb.tape, hb.output, hb.size, fun k hk _ => hb.block k hk⟩) (by have := HL.out; omega)).mono ?_
  rintro e w2 ⟨rfl, sv', hst⟩
  rw [HD.out] at hst
  have R := OStep.before (w := w) ⟨hb.os, hb.tape, hb.output, hb.size, fun k hk _ => hb.block k hk⟩ hst
  have HR : Hid (∃ sv', OStep w w2 b sv sv' (bs ++ (enc s.size ++ s.data.toList))) := ⟨sv', R⟩
  clear R hst hb
  go_wp2
  go_end0
  exact ⟨rfl, HR.out⟩
set_option maxHeartbeats 800000 in
set_option maxRecDepth 100000 in
theorem oList_ok (b : Nat) (n : Nat) (sv : Value) (bs : List UInt8) (w : World) (h : n ≤ 65536) (hw : OR w b sv bs) (hl : bs.length ≤ 1099511000000) :
    Calls Tryz.prog 29 #[.pointer (some ⟨b, 0, none⟩), .int .i64 (n : Int)] w fun e w' => e = .returned (.tuple #[]) ∧ ∃ sv', OStep w w' b sv sv' (bs ++ enc n) := by
  have K := refList_ok (n : Int) w (by omega) (by omega)
  have HL : Hid ((str (enc n)).size ≤ 10) := by
    have := enc_length (n : Int)
    unfold Hid; rw [size_str]; omega
  have HD : Hid ((str (enc n)).data.toList = enc n) := by unfold Hid; simp [str]
  generalize str (enc n) = t at *
  go_enter Tryz.func29, Tryz.ntmps29
  go_wp2_with (first | (go_at_call 54; refine K.mono ?_; rintro e w1 ⟨rfl, hb⟩))
  refine (oput_any b t sv bs w1 (hw.new ⟨hb.os, hb.tape, hb.output, hb.size, fun k hk _ => hb.block k hk⟩) (by have := HL.out; omega)).mono ?_
  rintro e w2 ⟨rfl, sv', hst⟩
  rw [HD.out] at hst
  have R := OStep.before (w := w) ⟨hb.os, hb.tape, hb.output, hb.size, fun k hk _ => hb.block k hk⟩ hst
  have HR : Hid (∃ sv', OStep w w2 b sv sv' (bs ++ enc n)) := ⟨sv', R⟩
  clear R hst hb
  go_wp2
  go_end0
  exact ⟨rfl, HR.out⟩
set_option maxHeartbeats 800000 in
set_option maxRecDepth 100000 in
theorem oBytes_any (b : Nat) (sv : Value) (bs : List UInt8) (w : World) (hw : OR w b sv bs) :
    Calls Tryz.prog 32 #[.pointer (some ⟨b, 0, none⟩)] w fun e w' => e = .returned (.string (str bs)) ∧ w' = w := by
  have c0 : w.cell? ⟨b, 0, none⟩ = some sv := by simp [World.cell?, hw.blk]
  have hc := convert_own hw.own
  go_enter Tryz.func32, Tryz.ntmps32
  go_wp2
  go_ret
  exact ⟨rfl, rfl⟩

/-- An In at block b, at the place k of the bytes s; what went wrong. -/
def IR (w : World) (b : Nat) (s : ByteArray) (k : Nat) (x : Int) : Prop := w.heap[b]? = some (.cells #[.string s, .int .i64 (k : Int), .int .i64 x] 69 (0, 0))
set_option maxHeartbeats 800000 in
set_option maxRecDepth 100000 in
theorem ikeep_any (b k j : Nat) (s : ByteArray) (x e y : Int) (w : World) (h : (x = 0 ∧ e = 0 ∧ y = 0) ∨ (x = 0 ∧ e = 4 ∧ y = 4) ∨ (x = 4 ∧ e = 4 ∧ y = 4)) (hw : IR w b s k x) :
    Calls Tryz.prog 59 #[.pointer (some ⟨b, 0, none⟩), .int .i64 (j : Int), .int .i64 e] w fun r w' => r = .returned (.tuple #[]) ∧ IR w' b s j y ∧ Fr [b] w w' := by
  unfold IR at hw
  have c1 : w.cell? ⟨b, 1, none⟩ = some (.int .i64 (k : Int)) := by simp [World.cell?, hw]
  have f1 : w.frozen? ⟨b, 1, none⟩ = false := by simp [World.frozen?, hw]
  have c2 : w.cell? ⟨b, 2, none⟩ = some (.int .i64 x) := by simp [World.cell?, hw]
  have f2 : w.frozen? ⟨b, 2, none⟩ = false := by simp [World.frozen?, hw]
  obtain ⟨X, hX⟩ : ∃ X, X = w.setCell ⟨b, 1, none⟩ (.int .i64 (j : Int)) := ⟨_, rfl⟩
  have hb : X.heap[b]? = some (.cells #[.string s, .int .i64 (j : Int), .int .i64 x] 69 (0, 0)) := by rw [hX]; simp [World.setCell, Array.getElem?_modify, hw]
  have HX : Hid (w.setCell ⟨b, 1, none⟩ (.int .i64 (j : Int)) = X) := hX.symm
  have HF : Hid (Fr [b] w X) := by unfold Hid; rw [hX]; exact (Fr.refl [b] w).setCell (Or.inr (by simp)) _
  have HB : Hid (X.heap[b]? = some (.cells #[.string s, .int .i64 (j : Int), .int .i64 x] 69 (0, 0))) := hb
  have HF2 : Hid (IR (X.setCell ⟨b, 2, none⟩ (.int .i64 4)) b s j 4 ∧ Fr [b] w (X.setCell ⟨b, 2, none⟩ (.int .i64 4))) := by
    refine ⟨?_, HF.out.setCell (Or.inr (by simp)) _⟩
    unfold IR; simp [World.setCell, Array.getElem?_modify, hb]
  clear hX hb hw
  rcases h with ⟨rfl, rfl, rfl⟩ | ⟨rfl, rfl, rfl⟩ | ⟨rfl, rfl, rfl⟩
  · go_enter Tryz.func59, Tryz.ntmps59
    go_wp2
    go_end0
    rw [HX.out]
    exact ⟨rfl, HB.out, HF.out⟩
  · go_enter Tryz.func59, Tryz.ntmps59
    go_wp2
    go_end0
    rw [HX.out]
    exact ⟨rfl, HF2.out.1, HF2.out.2⟩
  · go_enter Tryz.func59, Tryz.ntmps59
    go_wp2
    go_end0
    rw [HX.out]
    exact ⟨rfl, HB.out, HF.out⟩
theorem IR.fr {w w' : World} {b k : Nat} {s : ByteArray} {x : Int} (h : IR w b s k x) (hf : Fr [] w w') : IR w' b s k x := by
  unfold IR at *
  rw [hf.block b (lt_of_blk h) (by simp)]; exact h
set_option maxHeartbeats 800000 in
set_option maxRecDepth 100000 in
theorem iText_ok (b k j : Nat) (s : ByteArray) (a : List UInt8) (w : World) (hs : s.size ≤ 140737488355328) (hk : k ≤ s.size) (ht : ttext s.data.toList k = some (a, j)) (hw : IR w b s k 0) :
    Calls Tryz.prog 36 #[.pointer (some ⟨b, 0, none⟩)] w fun e w' => e = .returned (.string (str a)) ∧ IR w' b s j 0 ∧ Fr [b] w w' := by
  have KT : ∀ W, Calls Tryz.prog 60 #[.string s, .int .i64 (k : Int)] W fun e w' => e = .returned (.tuple #[.string (str a), .int .i64 (j : Int), .int .i64 0]) ∧ w' = W := fun W => by
    have := refTakeText_any s k W hs hk
    rw [ht] at this; exact this
  generalize str a = t at *
  have c0 : w.cell? ⟨b, 0, none⟩ = some (.string s) := by unfold IR at hw; simp [World.cell?, hw]
  have c1 : w.cell? ⟨b, 1, none⟩ = some (.int .i64 (k : Int)) := by unfold IR at hw; simp [World.cell?, hw]
  have HW : Hid (IR w b s k 0) := hw
  clear hw ht
  go_enter Tryz.func36, Tryz.ntmps36
  go_wp2_with fail
  go_quiet (first | (go_at_call 60; exact Calls.quiet_of_same (KT _)))
  all_goals
    have bV : Below w.heap.size w (w.drewN nq) := below_drewN (Below.refl _ _) _
    have KK := ikeep_any b k j s 0 0 0 (w.drewN nq) (Or.inl ⟨rfl, rfl, rfl⟩) (HW.out.fr ⟨bV.os, bV.tape, bV.output, bV.size, fun k hk _ => bV.block k hk⟩)
    have HV : Hid (Fr [b] w (w.drewN nq)) := ⟨bV.os, bV.tape, bV.output, bV.size, fun k hk _ => bV.block k hk⟩
    clear bV
    generalize w.drewN nq = V at *
    go_wp2_with fail
    refine KK.mono ?_
    rintro e V2 ⟨rfl, I2, F2⟩
    have HE : Hid (IR V2 b s j 0 ∧ Fr [b] w V2) := ⟨I2, HV.out.tr F2⟩
    clear I2 F2 KK
    go_wp2_with fail
    go_ret
    exact ⟨rfl, HE.out⟩
set_option maxHeartbeats 800000 in
set_option maxRecDepth 100000 in
theorem iText_bad (b k : Nat) (s : ByteArray) (x : Int) (w : World) (hs : s.size ≤ 140737488355328) (hk : k ≤ s.size) (ht : ttext s.data.toList k = none) (hx : x = 0 ∨ x = 4) (hw : IR w b s k x) :
    Calls Tryz.prog 36 #[.pointer (some ⟨b, 0, none⟩)] w fun e w' => e = .returned (.string ⟨#[]⟩) ∧ IR w' b s k 4 ∧ Fr [b] w w' := by
  have KT : ∀ W, Calls Tryz.prog 60 #[.string s, .int .i64 (k : Int)] W fun e w' => e = .returned (.tuple #[.string ⟨#[]⟩, .int .i64 (k : Int), .int .i64 4]) ∧ w' = W := fun W => by
    have := refTakeText_any s k W hs hk
    rw [ht] at this; exact this
  have c0 : w.cell? ⟨b, 0, none⟩ = some (.string s) := by unfold IR at hw; simp [World.cell?, hw]
  have c1 : w.cell? ⟨b, 1, none⟩ = some (.int .i64 (k : Int)) := by unfold IR at hw; simp [World.cell?, hw]
  have HW : Hid (IR w b s k x) := hw
  have HXX : Hid (x = 0 ∨ x = 4) := hx
  clear hw ht hx
  go_enter Tryz.func36, Tryz.ntmps36
  go_wp2_with fail
  go_quiet (first | (go_at_call 60; exact Calls.quiet_of_same (KT _)))
  all_goals
    have bV : Below w.heap.size w (w.drewN nq) := below_drewN (Below.refl _ _) _
    have KK := ikeep_any b k k s x 4 4 (w.drewN nq) (by rcases HXX.out with h | h; exact Or.inr (Or.inl ⟨h, rfl, rfl⟩); exact Or.inr (Or.inr ⟨h, rfl, rfl⟩)) (HW.out.fr ⟨bV.os, bV.tape, bV.output, bV.size, fun k hk _ => bV.block k hk⟩)
    have HV : Hid (Fr [b] w (w.drewN nq)) := ⟨bV.os, bV.tape, bV.output, bV.size, fun k hk _ => bV.block k hk⟩
    clear bV
    generalize w.drewN nq = V at *
    go_wp2_with fail
    refine KK.mono ?_
    rintro e V2 ⟨rfl, I2, F2⟩
    have HE : Hid (IR V2 b s k 4 ∧ Fr [b] w V2) := ⟨I2, HV.out.tr F2⟩
    clear I2 F2 KK
    go_wp2_with fail
    go_ret
    exact ⟨rfl, HE.out⟩
set_option maxHeartbeats 800000 in
set_option maxRecDepth 100000 in
theorem iList_ok (b k j : Nat) (s : ByteArray) (n : Int) (w : World) (hs : s.size ≤ 140737488355328) (hk : k ≤ s.size) (ht : tcnt s.data.toList k = some (n, j)) (hw : IR w b s k 0) :
    Calls Tryz.prog 35 #[.pointer (some ⟨b, 0, none⟩)] w fun e w' => e = .returned (.int .i64 n) ∧ IR w' b s j 0 ∧ Fr [b] w w' := by
  have KT : ∀ W, Calls Tryz.prog 58 #[.string s, .int .i64 (k : Int)] W fun e w' => e = .returned (.tuple #[.int .i64 n, .int .i64 (j : Int), .int .i64 0]) ∧ w' = W := fun W => by
    have := refTakeList_any s k W hs hk
    rw [ht] at this; exact this
  have c0 : w.cell? ⟨b, 0, none⟩ = some (.string s) := by unfold IR at hw; simp [World.cell?, hw]
  have c1 : w.cell? ⟨b, 1, none⟩ = some (.int .i64 (k : Int)) := by unfold IR at hw; simp [World.cell?, hw]
  have HW : Hid (IR w b s k 0) := hw
  clear hw ht
  go_enter Tryz.func35, Tryz.ntmps35
  go_wp2_with fail
  go_quiet (first | (go_at_call 58; exact Calls.quiet_of_same (KT _)))
  all_goals
    have bV : Below w.heap.size w (w.drewN nq) := below_drewN (Below.refl _ _) _
    have KK := ikeep_any b k j s 0 0 0 (w.drewN nq) (Or.inl ⟨rfl, rfl, rfl⟩) (HW.out.fr ⟨bV.os, bV.tape, bV.output, bV.size, fun k hk _ => bV.block k hk⟩)
    have HV : Hid (Fr [b] w (w.drewN nq)) := ⟨bV.os, bV.tape, bV.output, bV.size, fun k hk _ => bV.block k hk⟩
    clear bV
    generalize w.drewN nq = V at *
    go_wp2_with fail
    refine KK.mono ?_
    rintro e V2 ⟨rfl, I2, F2⟩
    have HE : Hid (IR V2 b s j 0 ∧ Fr [b] w V2) := ⟨I2, HV.out.tr F2⟩
    have z2 : V2.cell? ⟨b, 2, none⟩ = some (.int .i64 0) := by unfold IR at I2; simp [World.cell?, I2]
    clear I2 F2 KK
    go_wp2_with fail
    go_ret
    exact ⟨rfl, HE.out⟩
set_option maxHeartbeats 800000 in
set_option maxRecDepth 100000 in
theorem iList_bad (b k : Nat) (s : ByteArray) (w : World) (hs : s.size ≤ 140737488355328) (hk : k ≤ s.size) (ht : tcnt s.data.toList k = none) (hw : IR w b s k 0) :
    Calls Tryz.prog 35 #[.pointer (some ⟨b, 0, none⟩)] w fun e w' => e = .returned (.int .i64 0) ∧ IR w' b s k 4 ∧ Fr [b] w w' := by
  have KT : ∀ W, Calls Tryz.prog 58 #[.string s, .int .i64 (k : Int)] W fun e w' => e = .returned (.tuple #[.int .i64 0, .int .i64 (k : Int), .int .i64 4]) ∧ w' = W := fun W => by
    have := refTakeList_any s k W hs hk
    rw [ht] at this; exact this
  have c0 : w.cell? ⟨b, 0, none⟩ = some (.string s) := by unfold IR at hw; simp [World.cell?, hw]
  have c1 : w.cell? ⟨b, 1, none⟩ = some (.int .i64 (k : Int)) := by unfold IR at hw; simp [World.cell?, hw]
  have HW : Hid (IR w b s k 0) := hw
  clear hw ht
  go_enter Tryz.func35, Tryz.ntmps35
  go_wp2_with fail
  go_quiet (first | (go_at_call 58; exact Calls.quiet_of_same (KT _)))
  all_goals
    have bV : Below w.heap.size w (w.drewN nq) := below_drewN (Below.refl _ _) _
    have KK := ikeep_any b k k s 0 4 4 (w.drewN nq) (Or.inr (Or.inl ⟨rfl, rfl, rfl⟩)) (HW.out.fr ⟨bV.os, bV.tape, bV.output, bV.size, fun k hk _ => bV.block k hk⟩)
    have HV : Hid (Fr [b] w (w.drewN nq)) := ⟨bV.os, bV.tape, bV.output, bV.size, fun k hk _ => bV.block k hk⟩
    clear bV
    generalize w.drewN nq = V at *
    go_wp2_with fail
    refine KK.mono ?_
    rintro e V2 ⟨rfl, I2, F2⟩
    have HE : Hid (IR V2 b s k 4 ∧ Fr [b] w V2) := ⟨I2, HV.out.tr F2⟩
    have z2 : V2.cell? ⟨b, 2, none⟩ = some (.int .i64 4) := by unfold IR at I2; simp [World.cell?, I2]
    clear I2 F2 KK
    go_wp2_with fail
    go_ret
    exact ⟨rfl, HE.out⟩
end Go.Proofs.YtfnpeiikjiffeaaGreat.Wi
