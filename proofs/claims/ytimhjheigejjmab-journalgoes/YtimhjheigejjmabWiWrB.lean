/- Contracts of the Writer's methods, of one that was made. -/
import Derived.Test.YtimhjheigejjmabWiWrA
import Derived.Laws.BytesString
namespace Go.Proofs.Ytimhjheigejjmab.Wi
open Go.RowKit

def str (bs : List UInt8) : ByteArray := ⟨bs.toArray⟩

set_option maxHeartbeats 400000 in
set_option maxRecDepth 100000 in
theorem wByte_bad (b : Nat) (n : Int) (sv : Value) (bs : List UInt8) (w : World) (h : n < 0 ∨ 255 < n) (hw : WR w b sv bs) :
    Calls Try.prog 90 #[.pointer (some ⟨b, 0, none⟩), .int .i64 n] w fun e w' => e = .returned (.int .i64 1) ∧ w' = w := by
  have c0 := cell0_of_WR hw
  rcases h with h | h
  · go_enter Try.func90, Try.ntmps90
    go_wp2_with (go_at_call 96; refine (wmiss_at _ _ _ c0).mono ?_; rintro e w ⟨rfl, rfl⟩)
    go_ret
    exact ⟨rfl, rfl⟩
  · have h' : ¬ n < 0 := by omega
    go_enter Try.func90, Try.ntmps90
    go_wp2_with (go_at_call 96; refine (wmiss_at _ _ _ c0).mono ?_; rintro e w ⟨rfl, rfl⟩)
    go_ret
    exact ⟨rfl, rfl⟩

set_option maxHeartbeats 400000 in
set_option maxRecDepth 100000 in
theorem wByte_ok (b : Nat) (n : Int) (sv : Value) (bs : List UInt8) (w : World) (h0 : 0 ≤ n) (h255 : n ≤ 255) (hw : WR w b sv bs) (hl : bs.length ≤ 1099511627776) :
    Calls Try.prog 90 #[.pointer (some ⟨b, 0, none⟩), .int .i64 n] w fun e w' => e = .returned (.int .i64 0) ∧ ∃ sv', WStep w w' b sv sv' (bs ++ [UInt8.ofNat n.toNat]) := by
  have c0 := cell0_of_WR hw
  have c1 := cell1_of_WR hw
  have f1 := froz1_of_WR hw
  have hown := hw.own
  obtain ⟨i0, hi, hz0, hz1, hz2⟩ := info_parts Try.infoU8
  go_enter Try.func90, Try.ntmps90
  go_wp2_with (first | (go_at_call 96; refine (wmiss_at _ _ _ c0).mono ?_; rintro e w ⟨rfl, rfl⟩) | (at_builtin; refine wpList_append_own_at _ rfl (.tmp 17) (.tmp 20) 76 rfl 0 5 i0 (.int .u8 0) 1 1 Try.underlying76 hi hz0 hz1 hz2 rfl (by decide) sv bs.length _ rfl (hown.alloc _) ⟨w.heap.size, 0, none⟩ 1 1 [_] rfl rfl (cell_one_new _ _ _) ?c2 ?c3 ?c4 ?c5 ?nx))
  case c2 => intro u hu; simp at hu; subst hu; rfl
  case c3 => unfold maxLen; omega
  case c4 => omega
  case c5 => omega
  case nx =>
    intro v' w1 hown' hgrow _ hat
    obtain ⟨⟨g, cap, rfl⟩, R1, R2, R3⟩ := hw.stored1 (UInt8.ofNat n.toNat) hown' (by simp [B8]; omega) hgrow hat
    clear hown' hgrow hat
    go_wp2
    go_ret
    exact ⟨rfl, _, R1⟩

set_option maxRecDepth 100000 in
theorem WR.storedStr {w w1 : World} {b : Nat} {sv sv' : Value} {bs : List UInt8} {s : ByteArray} (h : WR w b sv bs) (hown : w1.ownsRow 0 5 1 sv' (bs.length + s.size) (bs.map B8 ++ Lib.strCells s))
    (hg : w.grownBy w1 sv.ownBlock) (hp : ∀ k, sv'.ownBlock = some k → sv.ownBlock = some k ∨ w.heap.size ≤ k) :
    (∃ a n cap, sv' = .slice a n cap) ∧ WStep w (w1.setCell ⟨b, 1, none⟩ sv') b sv sv' (bs ++ s.data.toList) ∧ w1.cell? ⟨b, 1, none⟩ = some sv ∧ w1.frozen? ⟨b, 1, none⟩ = false := by
  refine ⟨?_, h.stored (Fr.refl [] w) ?_ hg hp⟩
  · rcases hown.2 with ⟨h, _⟩ | ⟨g, cap, _, h, _⟩
    · exact ⟨_, _, _, h⟩
    · exact ⟨_, _, _, h⟩
  · have e : (bs ++ s.data.toList).length = bs.length + s.size := by simp
    rw [e, List.map_append]; exact hown

set_option maxRecDepth 100000 in
theorem foldl_push (l : List UInt8) : ∀ a : ByteArray, (l.map (fun c => (c.toNat : Int))).foldl (fun r n => r.push (UInt8.ofNat n.toNat)) a = ⟨(a.data.toList ++ l).toArray⟩ := by
  induction l with
  | nil => intro a; simp
  | cons c l ih =>
    intro a
    simp only [List.map_cons, List.foldl_cons, ih]
    simp [ByteArray.push]

set_option maxRecDepth 100000 in
theorem convert_own {w : World} {sv : Value} {bs : List UInt8} (h : w.ownsRow 0 5 1 sv bs.length (bs.map B8)) :
    (convert 76 9 sv).run Try.prog w = .ok (.string (str bs)) w := by
  rcases h.2 with ⟨rfl, hn⟩ | ⟨g, cap, cur, rfl, h0, hg, r⟩
  · rw [run_convert_bytes_string w _ _ 5 _ _ _ Try.underlying76 Try.underlying5 Try.underlying9]
    have : bs = [] := List.eq_nil_of_length_eq_zero hn
    subst this
    simp [Conv.bytesToString, str, Sem.run_pure]
    rfl
  · rw [run_convert_bytes_string w _ _ 5 _ _ _ Try.underlying76 Try.underlying5 Try.underlying9]
    have hl : (loadCells ⟨g, 0, none⟩ bs.length).run Try.prog w = .ok ((bs.map (fun c => (c.toNat : Int))).map (Value.int .u8)).toArray w := by
      have e : bs.map B8 = (bs.map (fun c => (c.toNat : Int))).map (Value.int .u8) := by simp [B8]
      rw [← e]
      have := run_loadCells_list (P := Try.prog) (w := w) ⟨g, 0, none⟩ (bs.map B8) (h.cells (g := g) rfl)
      rw [List.length_map] at this
      exact this
    rw [run_bytesToString w _ _ _ _ hl, foldl_push]
    simp [str]

set_option maxHeartbeats 400000 in
set_option maxRecDepth 100000 in
theorem wBytes_any (b : Nat) (sv : Value) (bs : List UInt8) (w : World) (hw : WR w b sv bs) :
    Calls Try.prog 92 #[.pointer (some ⟨b, 0, none⟩)] w fun e w' => e = .returned (.string (str bs)) ∧ w' = w := by
  have c0 := cell0_of_WR hw
  have c1 := cell1_of_WR hw
  have hc := convert_own hw.own
  go_enter Try.func92, Try.ntmps92
  go_wp2_with (go_at_call 96; refine (wmiss_at _ _ _ c0).mono ?_; rintro e w ⟨rfl, rfl⟩)
  go_ret
  exact ⟨rfl, rfl⟩

set_option maxHeartbeats 400000 in
set_option maxRecDepth 100000 in
theorem newWriter_any (w : World) :
    Calls Try.prog 89 #[] w fun e w' => e = .returned (.pointer (some ⟨w.heap.size, 0, none⟩)) ∧ w' = w.alloc (.cells #[.bool true, .slice none 0 0] 137) := by
  go_enter Try.func89, Try.ntmps89
  go_wp2
  go_ret
  exact ⟨rfl, rfl⟩

end Go.Proofs.Ytimhjheigejjmab.Wi
