/- Texts joined: WiRdA WiRdB WiClone WiRdC. -/
import Derived.Test.YtfnpeiikjiffeaaGreatBaA
import Derived.Deep.QuietTactic
import Derived.BigQuiet
import Derived.Shelf.LaysM
import Derived.Shelf.Strconv.Clone
import Derived.Deep.RegionWith
/- Contracts of the Reader's smallest functions, of one that was made. -/
namespace Go.Proofs.YtfnpeiikjiffeaaGreat.Wi
open Go.RowKit

/-- A Reader that was made, at block b, of the bytes s, of which k were taken. -/
def RD (w : World) (b : Nat) (s : ByteArray) (k : Nat) : Prop := w.heap[b]? = some (.cells #[.bool true, .string s, .int .i64 k] 102 (0, 0))

set_option maxRecDepth 100000 in
theorem RD.c0 {w : World} {b : Nat} {s : ByteArray} {k : Nat} (h : RD w b s k) : w.cell? ⟨b, 0, none⟩ = some (.bool true) := by unfold RD at h; simp [World.cell?, h]
set_option maxRecDepth 100000 in
theorem RD.c1 {w : World} {b : Nat} {s : ByteArray} {k : Nat} (h : RD w b s k) : w.cell? ⟨b, 1, none⟩ = some (.string s) := by unfold RD at h; simp [World.cell?, h]
set_option maxRecDepth 100000 in
theorem RD.c2 {w : World} {b : Nat} {s : ByteArray} {k : Nat} (h : RD w b s k) : w.cell? ⟨b, 2, none⟩ = some (.int .i64 k) := by unfold RD at h; simp [World.cell?, h]
set_option maxRecDepth 100000 in
theorem RD.f2 {w : World} {b : Nat} {s : ByteArray} {k : Nat} (h : RD w b s k) : w.frozen? ⟨b, 2, none⟩ = false := by unfold RD at h; simp [World.frozen?, h]
set_option maxRecDepth 100000 in
theorem RD.set {w : World} {b : Nat} {s : ByteArray} {k : Nat} (h : RD w b s k) (j : Nat) : RD (w.setCell ⟨b, 2, none⟩ (.int .i64 j)) b s j := by
  unfold RD at h ⊢; simp [World.setCell, Array.getElem?_modify, h]
set_option maxRecDepth 100000 in
theorem RD.keep {w w' : World} {b : Nat} {s : ByteArray} {k : Nat} {S : List Nat} (h : RD w b s k) (hf : Fr S w w') (hb : b ∉ S) : RD w' b s k := by
  unfold RD at h ⊢; rw [hf.block b (lt_of_blk h) hb]; exact h
set_option maxRecDepth 100000 in
theorem RD.new {w w' : World} {b : Nat} {s : ByteArray} {k : Nat} (h : RD w b s k) (hf : Fr [] w w') : RD w' b s k := h.keep hf (by simp)

set_option maxRecDepth 100000 in
theorem rmiss_nil (w : World) : Calls Tryz.prog 95 #[.pointer none] w fun e w' => e = .returned (.bool true) ∧ w' = w := by
  go_enter Tryz.func95, Tryz.ntmps95
  go_wp2
  go_ret
  exact ⟨rfl, rfl⟩
set_option maxRecDepth 100000 in
theorem rmiss_at (w : World) (b : Nat) (m : Bool) (c0 : w.cell? ⟨b, 0, none⟩ = some (.bool m)) :
    Calls Tryz.prog 95 #[.pointer (some ⟨b, 0, none⟩)] w fun e w' => e = .returned (.bool (!m)) ∧ w' = w := by
  go_enter Tryz.func95, Tryz.ntmps95
  go_wp2
  go_ret
  exact ⟨rfl, rfl⟩

set_option maxRecDepth 100000 in
theorem ret_pair {a b c d : Value} (h : a = b) (h2 : c = d) : Ending.returned (.tuple #[a, c]) = .returned (.tuple #[b, d]) := by rw [h, h2]
set_option maxRecDepth 100000 in
theorem wrap_byte (c : UInt8) : wrap64 (c.toNat : Int) = c.toNat := by have := c.toNat_lt; unfold wrap64; omega

set_option maxHeartbeats 400000 in
set_option maxRecDepth 100000 in
theorem takeByte_none (b k : Nat) (s : ByteArray) (w : World) (h : RD w b s k) (hk : s.size ≤ k) :
    Calls Tryz.prog 112 #[.pointer (some ⟨b, 0, none⟩)] w fun e w' => e = .returned (.tuple #[.int .i64 0, .int .i64 4]) ∧ RD w' b s k ∧ Fr [b] w w' := by
  have c1 := h.c1
  have c2 := h.c2
  go_enter Tryz.func112, Tryz.ntmps112
  go_wp2
  go_quiet (fail)
  go_wp2
  go_ret2
  exact ⟨rfl, h.new ((Fr.refl _ _).drewN _), (Fr.refl _ _).drewN _⟩

set_option maxHeartbeats 400000 in
set_option maxRecDepth 100000 in
theorem takeByte_some (b k : Nat) (s : ByteArray) (w : World) (h : RD w b s k) (hk : k < s.size) (hs : s.size ≤ 140737488355328) :
    Calls Tryz.prog 112 #[.pointer (some ⟨b, 0, none⟩)] w fun e w' => e = .returned (.tuple #[.int .i64 s[k].toNat, .int .i64 0]) ∧ RD w' b s (k + 1) ∧ Fr [b] w w' := by
  have c1 := h.c1
  have c2 := h.c2
  have f2 := h.f2
  go_enter Tryz.func112, Tryz.ntmps112
  go_wp2
  go_quiet (fail)
  go_wp2
  go_quiet (fail)
  go_wp2
  go_ret2
  exact ⟨ret_pair (congrArg (Value.int .i64) (wrap_byte _)) rfl, (h.new ((Fr.refl _ _).drewN _)).set (k + 1), ((Fr.refl _ _).drewN _).setCell (Or.inr (by simp)) _⟩

end Go.Proofs.YtfnpeiikjiffeaaGreat.Wi

/- The contract of takeNumber. -/
namespace Go.Proofs.YtfnpeiikjiffeaaGreat.Wi
open Go.RowKit

/-- What taking something leaves: o says what stands there, and the place behind it. -/
def Took (w : World) (b : Nat) (s : ByteArray) (zero : Value) (o : Option (Value × Nat)) (e : Ending) (w' : World) : Prop :=
  Fr [b] w w' ∧ match o with
    | some (v, j) => e = .returned (.tuple #[v, .int .i64 0]) ∧ RD w' b s j
    | none => e = .returned (.tuple #[zero, .int .i64 4]) ∧ ∃ j, RD w' b s j
def numO (o : Option (Int × Nat)) : Option (Value × Nat) := o.map fun p => (.int .i64 p.1, p.2)

set_option maxRecDepth 100000 in
theorem took_none {w w' : World} {b : Nat} {s : ByteArray} {o : Option (Int × Nat)} {e : Ending} (ho : o = none) (hf : Fr [b] w w') {j : Nat} (hr : RD w' b s j) (he : e = .returned (.tuple #[.int .i64 0, .int .i64 4])) :
    Took w b s (.int .i64 0) (numO o) e w' := by
  subst ho; exact ⟨hf, he, j, hr⟩
set_option maxRecDepth 100000 in
theorem took_some {w w' : World} {b : Nat} {s : ByteArray} {o : Option (Int × Nat)} {e : Ending} {n : Int} {j : Nat} (ho : o = some (n, j)) (hf : Fr [b] w w') (hr : RD w' b s j) (he : e = .returned (.tuple #[.int .i64 n, .int .i64 0])) :
    Took w b s (.int .i64 0) (numO o) e w' := by
  subst ho; exact ⟨hf, he, hr⟩

set_option maxRecDepth 100000 in
set_option maxHeartbeats 1600000 in
set_option maxRecDepth 100000 in
theorem takeNumber_any (b k : Nat) (s : ByteArray) (w : World) (h : RD w b s k) (hs : s.size ≤ 140737488355328) :
    Calls Tryz.prog 97 #[.pointer (some ⟨b, 0, none⟩)] w (Took w b s (.int .i64 0) (numO (tnum s.data.toList k))) := by
  go_enter Tryz.func97, Tryz.ntmps97
  go_wp2_with fail
  go_loopw [4, 8] (fun zv iv wr => ∃ (z i : Nat), i ≤ 9 ∧ zv = .int .u64 z ∧ iv = .int .i64 i ∧ z < 128 ^ i ∧ Hid (tnum s.data.toList k = tn s.data.toList (9 - i + 1) i (k + i) z) ∧ RD wr b s (k + i) ∧ Fr [b] w wr) (fun _ iv _ => 10 - (intOf iv).toNat)
  case atStart => exact ⟨0, 0, by omega, rfl, rfl, by decide, rfl, h, Fr.refl _ _⟩
  case round =>
    obtain ⟨z, i, hi, rfl, rfl, hz, htn, hr, hf⟩ := hrel
    by_cases hlt : k + i < s.size
    · obtain ⟨c, hc⟩ : ∃ c, c = s[k + i] := ⟨_, rfl⟩
      have HC : Hid (s.data.toList[k + i]? = some c) := by rw [hc]; exact byte_at s _ hlt
      have hcl := c.toNat_lt
      have K := takeByte_some b (k + i) s wr hr hlt hs
      rw [← hc] at K
      clear hc
      by_cases h1 : i = 9 ∧ 1 < c.toNat
      · obtain ⟨rfl, h1⟩ := h1
        go_wp2_with (go_at_call 112; refine K.mono ?_; rintro e w1 ⟨rfl, hr1, hf1⟩)
        go_ret2
        exact took_none (htn.out.trans (tn_nine _ _ _ _ c HC.out h1)) (hf.tr hf1) hr1 rfl
      · by_cases h2 : 0 < i ∧ c.toNat = 0
        · obtain ⟨h2, h2c⟩ := h2
          have hc0 : ((c.toNat : Int) == 0) = true := by simp [h2c]
          have hc1 : ¬ (1 : Int) < (c.toNat : Int) := by omega
          have HN := hide (htn.out.trans (tn_zero _ _ _ _ _ c HC.out h2 h2c))
          clear h1
          by_cases hi9 : i = 9
          · subst hi9
            go_wp2_with (go_at_call 112; refine K.mono ?_; rintro e w1 ⟨rfl, hr1, hf1⟩)
            go_ret2
            exact took_none (unhide HN) (hf.tr hf1) hr1 rfl
          · have hi9' : ((i : Int) == 9) = false := by simp; omega
            go_wp2_with (go_at_call 112; refine K.mono ?_; rintro e w1 ⟨rfl, hr1, hf1⟩)
            go_ret2
            exact took_none (unhide HN) (hf.tr hf1) hr1 rfl
        · have hor := or_step z i c.toNat hz hi (by omega)
          have hst := step_lt z i c.toNat hz hi (by omega)
          have hpw := step_pow z i c.toNat hz
          by_cases h128 : c.toNat < 128
          · have HN := hide (htn.out.trans (tn_last _ _ _ _ _ c HC.out h1 h2 h128))
            have HO := hide hor
            clear hor
            by_cases hi9 : i = 9
            · have hc0 : ((c.toNat : Int) == 0) = false := by simp; omega
              have hc1 : ¬ (1 : Int) < (c.toNat : Int) := by omega
              clear h1 h2
              subst hi9
              go_wp2_with (go_at_call 112; refine K.mono ?_; rintro e w1 ⟨rfl, hr1, hf1⟩)
              rw [or_step9 z _ hz (by omega)]
              refine (unfold_any _ _ hst.1).mono ?_
              rintro e w1 ⟨rfl, rfl⟩
              go_wp2
              go_ret2
              exact took_some (unhide HN) (hf.tr hf1) hr1 rfl
            · have hi9' : ((i : Int) == 9) = false := by simp; omega
              by_cases hi0 : i = 0
              · clear h1 h2
                subst hi0
                go_wp2_with (go_at_call 112; refine K.mono ?_; rintro e w1 ⟨rfl, hr1, hf1⟩)
                rw [or_step0 z _ hz]
                refine (unfold_any _ _ hst.1).mono ?_
                rintro e w1 ⟨rfl, rfl⟩
                go_wp2
                go_ret2
                exact took_some (unhide HN) (hf.tr hf1) hr1 (ret_pair (congrArg (fun x => Value.int .i64 (uz x)) (show z + c.toNat % 128 = z + c.toNat % 128 * 128 ^ 0 by simp)) rfl)
              · have hc0 : ((c.toNat : Int) == 0) = false := by simp; omega
                have hi1 : (0 : Int) < (i : Int) := by omega
                clear h1 h2
                go_wp2_with (go_at_call 112; refine K.mono ?_; rintro e w1 ⟨rfl, hr1, hf1⟩)
                rw [unhide HO]
                refine (unfold_any _ _ hst.1).mono ?_
                rintro e w1 ⟨rfl, rfl⟩
                go_wp2
                go_ret2
                exact took_some (unhide HN) (hf.tr hf1) hr1 rfl
          · have HN := hide (htn.out.trans (tn_more _ _ _ _ _ c HC.out h1 h2 h128))
            have HO := hide hor
            clear hor
            have hi9 : i ≠ 9 := by omega
            have hi9' : ((i : Int) == 9) = false := by simp; omega
            have hc0 : ((c.toNat : Int) == 0) = false := by simp; omega
            clear h1 h2
            by_cases hi0 : i = 0
            · subst hi0
              go_wp2_with (go_at_call 112; refine K.mono ?_; rintro e w1 ⟨rfl, hr1, hf1⟩)
              go_roundw
              case rel => exact ⟨z + c.toNat % 128 * 128 ^ 0, 1, by omega, congrArg (Value.int .u64) (or_step0 z _ hz), by go_num, hpw, unhide HN, hr1, hf.tr hf1⟩
              case measure => simp [intOf]
            · have hi1 : (0 : Int) < (i : Int) := by omega
              have ei : 9 - i = 9 - (i + 1) + 1 := by omega
              rw [ei] at HN
              go_wp2_with (go_at_call 112; refine K.mono ?_; rintro e w1 ⟨rfl, hr1, hf1⟩)
              go_roundw
              case rel => exact ⟨z + c.toNat % 128 * 128 ^ i, i + 1, by omega, congrArg (Value.int .u64) (unhide HO), by go_num, hpw, unhide HN, hr1, hf.tr hf1⟩
              case measure => simp [intOf]; omega
    · have K := takeByte_none b (k + i) s wr hr (by omega)
      have HN := hide (htn.out.trans (tn_end _ _ _ _ _ (byte_past s (k + i) (by omega))))
      go_wp2_with (go_at_call 112; refine K.mono ?_; rintro e w1 ⟨rfl, hr1, hf1⟩)
      go_ret2
      exact took_none (unhide HN) (hf.tr hf1) hr1 rfl
end Go.Proofs.YtfnpeiikjiffeaaGreat.Wi

/- strings.Clone returns the bytes that it was given; of what was there nothing turns. -/
namespace Go.Proofs.YtfnpeiikjiffeaaGreat.Wi
open Go.Shelf Go.RowKit
def renClone : Go.Shelf.Ren := ⟨fun | 316 => 110 | n => n, fun | 9 => 9 | 3 => 3 | 4 => 4 | 37 => 59 | 0 => 0 | 127 => 162 | 5 => 5 | n => n, fun | n => n⟩
set_option maxRecDepth 100000 in
theorem laysClone : Go.Proofs.LaysM.n316 Tryz.prog renClone := {
  mixed := by kernel_rfl
  f316 := Tryz.func110.trans (congrArg some (by kernel_rfl))
  t0 := Tryz.underlying0
  a0 := Tryz.isAgg0
  z0 := Tryz.sizeOf0
  v0 := Tryz.zeroValue0
  t3 := Tryz.underlying3
  a3 := Tryz.isAgg3
  z3 := Tryz.sizeOf3
  v3 := Tryz.zeroValue3
  t4 := Tryz.underlying4
  a4 := Tryz.isAgg4
  z4 := Tryz.sizeOf4
  v4 := Tryz.zeroValue4
  t9 := Tryz.underlying9
  a9 := Tryz.isAgg9
  z9 := Tryz.sizeOf9
  v9 := Tryz.zeroValue9
  t37 := Tryz.underlying59
  a37 := Tryz.isAgg59
  z37 := Tryz.sizeOf59
  v37 := Tryz.zeroValue59
  t127 := Tryz.underlying162
  a127 := Tryz.isAgg162
  z127 := Tryz.sizeOf162
  v127 := Tryz.zeroValue162
  t5 := Tryz.underlying5
  a5 := Tryz.isAgg5
  z5 := Tryz.sizeOf5
  v5 := Tryz.zeroValue5
  i0 := by kernel_rfl
  i3 := by kernel_rfl
  i4 := by kernel_rfl
  i5 := by kernel_rfl
  i9 := by kernel_rfl
  i37 := by kernel_rfl
  i127 := by kernel_rfl }
set_option maxRecDepth 100000 in
theorem liteClone_any (s : ByteArray) (w : World) (hlim : s.size ≤ 281474976710656) :
    Calls Tryz.prog 110 #[.string s] w fun e w' => e = .returned (.string s) ∧ Below w.heap.size w w' := Any.stringslite_Clone laysClone s w hlim
set_option maxRecDepth 100000 in
theorem clone_any (s : ByteArray) (w : World) (hlim : s.size ≤ 281474976710656) :
    Calls Tryz.prog 91 #[.string s] w fun e w' => e = .returned (.string s) ∧ Below w.heap.size w w' := by
  go_enter Tryz.func91, Tryz.ntmps91
  go_wp2_with (go_at_call 110; refine (liteClone_any _ _ hlim).mono ?_; rintro e w' ⟨rfl, hb⟩)
  go_ret
  exact ⟨rfl, hb⟩
end Go.Proofs.YtfnpeiikjiffeaaGreat.Wi

/- Contracts of takeFlag, takeCount, takeText. -/
namespace Go.Proofs.YtfnpeiikjiffeaaGreat.Wi
open Go.RowKit

def tbyte (l : List UInt8) (k : Nat) : Option (Value × Nat) := (l[k]?).map fun c => (.int .i64 c.toNat, k + 1)
def tflag (l : List UInt8) (k : Nat) : Option (Bool × Nat) := match l[k]? with
  | some c => if 1 < c.toNat then none else some (decide (c.toNat = 1), k + 1)
  | none => none
def tcnt (l : List UInt8) (k : Nat) : Option (Int × Nat) := match tnum l k with
  | some (n, j) => if n < 0 ∨ 65536 < n then none else some (n, j)
  | none => none
def ttext (l : List UInt8) (k : Nat) : Option (List UInt8 × Nat) := match tcnt l k with
  | some (n, j) => if l.length < j + n.toNat then none else some ((l.drop j).take n.toNat, j + n.toNat)
  | none => none
def flagO (o : Option (Bool × Nat)) : Option (Value × Nat) := o.map fun p => (.bool p.1, p.2)
def textO (o : Option (List UInt8 × Nat)) : Option (Value × Nat) := o.map fun p => (.string (str p.1), p.2)

set_option maxRecDepth 100000 in
theorem takeByte_any (b k : Nat) (s : ByteArray) (w : World) (h : RD w b s k) (hs : s.size ≤ 140737488355328) :
    Calls Tryz.prog 112 #[.pointer (some ⟨b, 0, none⟩)] w (Took w b s (.int .i64 0) (tbyte s.data.toList k)) := by
  by_cases hk : k < s.size
  · refine (takeByte_some b k s w h hk hs).mono ?_
    rintro e w' ⟨rfl, hr, hf⟩
    unfold tbyte; rw [byte_at s k hk]; exact ⟨hf, rfl, hr⟩
  · refine (takeByte_none b k s w h (by omega)).mono ?_
    rintro e w' ⟨rfl, hr, hf⟩
    unfold tbyte; rw [byte_past s k (by omega)]; exact ⟨hf, rfl, k, hr⟩

set_option maxHeartbeats 400000 in
set_option maxRecDepth 100000 in
theorem takeCount_any (b k : Nat) (s : ByteArray) (w : World) (h : RD w b s k) (hs : s.size ≤ 140737488355328) :
    Calls Tryz.prog 77 #[.pointer (some ⟨b, 0, none⟩)] w (Took w b s (.int .i64 0) (numO (tcnt s.data.toList k))) := by
  have K := takeNumber_any b k s w h hs
  cases ho : tnum s.data.toList k with
  | none =>
    rw [ho] at K
    have HT : Hid (tcnt s.data.toList k = none) := by unfold Hid tcnt; rw [ho]
    clear ho
    go_enter Tryz.func77, Tryz.ntmps77
    go_wp2_with (go_at_call 97; refine K.mono ?_; rintro e w1 ⟨hf1, rfl, j, hr1⟩)
    go_ret2
    rw [HT.out]
    exact ⟨hf1, rfl, _, hr1⟩
  | some p =>
    obtain ⟨n, j⟩ := p
    rw [ho] at K
    by_cases hn : n < 0 ∨ 65536 < n
    · have HT : Hid (tcnt s.data.toList k = none) := by unfold Hid tcnt; rw [ho]; simp only [if_pos hn]
      clear ho
      by_cases hn0 : n < 0
      · clear hn
        go_enter Tryz.func77, Tryz.ntmps77
        go_wp2_with (go_at_call 97; refine K.mono ?_; rintro e w1 ⟨hf1, rfl, hr1⟩)
        go_ret2
        rw [HT.out]
        exact ⟨hf1, rfl, _, hr1⟩
      · have hn1 : 65536 < n := by omega
        clear hn
        go_enter Tryz.func77, Tryz.ntmps77
        go_wp2_with (go_at_call 97; refine K.mono ?_; rintro e w1 ⟨hf1, rfl, hr1⟩)
        go_ret2
        rw [HT.out]
        exact ⟨hf1, rfl, _, hr1⟩
    · have HT : Hid (tcnt s.data.toList k = some (n, j)) := by unfold Hid tcnt; rw [ho]; simp only [if_neg hn]
      have hn0 : ¬ n < 0 := by omega
      have hn1 : ¬ 65536 < n := by omega
      clear ho hn
      go_enter Tryz.func77, Tryz.ntmps77
      go_wp2_with (go_at_call 97; refine K.mono ?_; rintro e w1 ⟨hf1, rfl, hr1⟩)
      go_ret2
      rw [HT.out]
      exact ⟨hf1, rfl, hr1⟩

set_option maxRecDepth 100000 in
theorem tcnt_place {l : List UInt8} {k : Nat} {n : Int} {j : Nat} (h : tcnt l k = some (n, j)) : k < j ∧ j ≤ k + 10 ∧ j ≤ l.length ∧ 0 ≤ n ∧ n ≤ 65536 := by
  unfold tcnt at h
  cases ho : tnum l k with
  | none => rw [ho] at h; cases h
  | some p =>
    obtain ⟨m, i⟩ := p
    rw [ho] at h
    have := tnum_place ho
    simp only at h
    split at h
    · cases h
    · simp at h; omega

set_option maxRecDepth 100000 in
theorem extract_str (s : ByteArray) (j m : Nat) : s.extract j (j + m) = str ((s.data.toList.drop j).take m) := by
  apply ByteArray.ext
  apply Array.ext'
  simp [str]

set_option maxHeartbeats 800000 in
set_option maxRecDepth 100000 in
theorem takeText_any (b k : Nat) (s : ByteArray) (w : World) (h : RD w b s k) (hs : s.size ≤ 140737488355328) :
    Calls Tryz.prog 79 #[.pointer (some ⟨b, 0, none⟩)] w (Took w b s (.string ⟨#[]⟩) (textO (ttext s.data.toList k))) := by
  have K := takeCount_any b k s w h hs
  cases ho : tcnt s.data.toList k with
  | none =>
    rw [ho] at K
    have HT : Hid (ttext s.data.toList k = none) := by unfold Hid ttext; rw [ho]
    clear ho
    go_enter Tryz.func79, Tryz.ntmps79
    go_wp2_with (go_at_call 77; refine K.mono ?_; rintro e w1 ⟨hf1, rfl, j, hr1⟩)
    go_ret2
    rw [HT.out]
    exact ⟨hf1, rfl, _, hr1⟩
  | some p =>
    obtain ⟨n, j⟩ := p
    rw [ho] at K
    obtain ⟨hkj, hj10, hjl, hn0, hn1⟩ := tcnt_place ho
    have hjs : j ≤ s.size := by simpa using hjl
    obtain ⟨m, rfl⟩ := Int.eq_ofNat_of_zero_le hn0
    by_cases hb : s.size < j + m
    · have HT : Hid (ttext s.data.toList k = none) := by unfold Hid ttext; rw [ho]; simp only; rw [if_pos (by simpa using hb)]
      clear ho
      have hb' : (s.size : Int) - (j : Int) < (m : Int) := by omega
      go_enter Tryz.func79, Tryz.ntmps79
      go_wp2_with (go_at_call 77; refine K.mono ?_; rintro e w1 ⟨hf1, rfl, hr1⟩; have c1 := hr1.c1; have c2 := hr1.c2)
      go_quiet (fail)
      go_wp2
      go_ret2
      rw [HT.out]
      exact ⟨hf1.drewN _, rfl, _, hr1.new ((Fr.refl _ _).drewN _)⟩
    · have HT : Hid (ttext s.data.toList k = some ((s.data.toList.drop j).take m, j + m)) := by unfold Hid ttext; rw [ho]; simp only; rw [if_neg (by simpa using hb)]; simp
      clear ho
      have hb' : (m : Int) ≤ (s.size : Int) - (j : Int) := by omega
      go_enter Tryz.func79, Tryz.ntmps79
      go_wp2_with (go_at_call 77; refine K.mono ?_; rintro e w1 ⟨hf1, rfl, hr1⟩; have c1 := hr1.c1; have c2 := hr1.c2; have f2 := hr1.f2)
      go_quiet (fail)
      go_wp2
      obtain ⟨W, hW⟩ : ∃ W : World, W = (w1.drewN nq).setCell ⟨b, 2, none⟩ (.int .i64 ((j : Int) + (m : Int))) := ⟨_, rfl⟩
      have hrW : RD W b s (j + m) := by
        have := (hr1.new ((Fr.refl _ w1).drewN nq)).set (j + m)
        rw [Int.natCast_add] at this; rw [hW]; exact this
      have hfW : Fr [b] w1 W := by rw [hW]; exact ((Fr.refl _ _).drewN _).setCell (Or.inr (by simp)) _
      rw [← hW]
      clear hW c1 c2 f2
      have c1 := hrW.c1
      have c2 := hrW.c2
      have hxs : (s.extract j (j + m)).size ≤ 281474976710656 := by rw [ByteArray.size_extract]; omega
      go_region_with (go_at_call 91; refine (clone_any _ _ hxs).mono ?_; rintro e w2 ⟨rfl, hb2⟩)
      all_goals
        try go_wp2
        go_ret2
        rw [HT.out]
        have hfB : Fr [] W w2 := ((Fr.refl [] W).drew).below hb2
        exact ⟨(hf1.tr hfW).trans hfB (fun _ _ c => c) (fun _ _ c => by cases c), ret_pair (congrArg Value.string (extract_str s j m)) rfl, hrW.new hfB⟩
end Go.Proofs.YtfnpeiikjiffeaaGreat.Wi
