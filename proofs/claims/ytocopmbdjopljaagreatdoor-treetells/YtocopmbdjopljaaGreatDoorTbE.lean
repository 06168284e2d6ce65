/- The contract of lookNumber over held lists that are all marks. -/
import Derived.Test.YtocopmbdjopljaaGreatDoorTbD
namespace Go.Proofs.YtocopmbdjopljaaGreatDoor
open Go.RowKit

theorem isNumber_any (x : Int) (i : Nat) (w : World) (hi : i ≤ 100) : Calls Tryz.prog 181 #[.int .i64 x, .int .i64 (i : Int)] w fun e w' => e = .returned (.bool (x == mk i)) ∧ w' = w := by
  have K := mark_any i w hi
  generalize mk i = m at *
  go_enter Tryz.func181, Tryz.ntmps181
  go_wp2_with fail
  refine K.mono ?_
  rintro e w1 ⟨rfl, rfl⟩
  go_wp2
  go_ret
  exact ⟨rfl, rfl⟩

theorem heap_keep {w w' : World} (hb : Below w.heap.size w w') {k : Nat} {o : Obj} (h : w.heap[k]? = some o) : w'.heap[k]? = some o := by
  rw [hb.block k]
  · exact h
  · rcases Nat.lt_or_ge k w.heap.size with h1 | h1
    · exact h1
    · rw [Array.getElem?_eq_none h1] at h; cases h
theorem Hl.bw {B : Nat} {w w' : World} {b : Nat} {lv : Value} {vs : List Value} {ls : List (List Int)} (h : Hl B w b lv vs ls) (hb : Below w.heap.size w w') : Hl B w' b lv vs ls := by
  refine ⟨⟨heap_keep hb h.bk.blk, ?_⟩, h.len, fun i v l hv hl => (h.row i v l hv hl).bw hb, h.apart⟩
  refine ⟨h.bk.own.1, ?_⟩
  rcases h.bk.own.2 with h2 | ⟨g, cap, cur, q, q0, hg, r⟩
  · exact Or.inl h2
  · exact Or.inr ⟨g, cap, cur, q, q0, heap_keep hb hg, r⟩

set_option maxRecDepth 100000 in
set_option maxHeartbeats 4000000 in
theorem look_any (B b : Nat) (lv : Value) (vs : List Value) (ls : List (List Int)) (w : World) (h : Hl B w b lv vs ls) (h0 : 0 < vs.length) (h100 : vs.length ≤ 100) (hm : ∀ (i : Nat) (l : List Int), ls[i]? = some l → ∀ z ∈ l, z = mk i) :
    Calls Tryz.prog 122 #[.pointer (some ⟨b, 0, none⟩)] w fun e w' => e = .returned (.bool true) ∧ Below w.heap.size w w' := by
  have c2 := h.bk.cell.2.2.1
  obtain ⟨g, cap, hlv, hgB⟩ : ∃ g cap, lv = .slice (some ⟨g, 0, none⟩) vs.length cap ∧ B ≤ g := by
    obtain ⟨g, cap, h1, h2, _⟩ := h.bk.entry 0 (vs[0]) (List.getElem?_eq_getElem h0)
    exact ⟨g, cap, h1, h2⟩
  subst hlv
  obtain ⟨N, hN⟩ : ∃ N, vs.length = N := ⟨_, rfl⟩
  have hlen := h.len
  rw [hN] at c2 h100 h0 h hlen
  have HN := hide hN
  have HL := hide (And.intro hlen (And.intro hm h))
  clear hN hlen hm h
  go_enter Tryz.func122, Tryz.ntmps122
  go_wp2_with fail
  go_loopw [12] (fun iv wr => ∃ i : Nat, iv = .int .i64 i ∧ i ≤ N ∧ Below w.heap.size w wr) (fun iv _ => (N - intOf iv).toNat)
  case atStart => exact ⟨0, rfl, by omega, Below.refl _ _⟩
  case round =>
    obtain ⟨i, rfl, hi, hbel⟩ := hrel
    by_cases hin : i < N
    · have hH := (unhide HL).2.2.bw hbel
      obtain ⟨v, hv⟩ : ∃ v, vs[i]? = some v := ⟨_, List.getElem?_eq_getElem (by have := unhide HN; omega)⟩
      obtain ⟨l, hl⟩ : ∃ l, ls[i]? = some l := ⟨_, List.getElem?_eq_getElem (by have := (unhide HL).1; omega)⟩
      have hI := hH.row i v l hv hl
      have hnum := hI.nums
      obtain ⟨⟨p, cp, rfl⟩, hmax⟩ := hnum.form
      obtain ⟨d1, d2⟩ := entry2 hH.bk (by rw [unhide HN]) i _ hv
      have hmk := (unhide HL).2.1 i l hl
      have hiN : (i : Int) < (N : Int) := by omega
      have K := fun x w' => isNumber_any x i w' (by omega)
      obtain ⟨M, hM⟩ : ∃ M, l.length = M := ⟨_, rfl⟩
      rw [hM] at d1 hmax
      unfold maxLen at hmax
      have HV := hide (And.intro hM (And.intro hnum hmk))
      clear hM hnum hmk hI hH hv hl
      go_wp2_with fail
      go_loopw [19] (fun kv wq => ∃ k : Nat, kv = .int .i64 k ∧ k ≤ M ∧ wq = wr.alloc (.cells #[.slice p M cp, .int .i64 (i : Int)] 128)) (fun kv _ => (M - intOf kv).toNat)
      case atStart => exact ⟨0, rfl, by omega, rfl⟩
      case round =>
        obtain ⟨k, rfl, hk, rfl⟩ := hrel
        by_cases hkM : k < M
        · have hkM' : (k : Int) < (M : Int) := by omega
          obtain ⟨z, hz⟩ : ∃ z, l[k]? = some z := ⟨_, List.getElem?_eq_getElem (by have := (unhide HV).1; omega)⟩
          have hzm := (unhide HV).2.2 z (List.mem_of_getElem? hz)
          obtain ⟨gv, o, cp', hp, hcell⟩ := (unhide HV).2.1.open (by have := (unhide HV).1; omega)
          obtain ⟨hp1, hp2⟩ : p = some ⟨gv, o, none⟩ ∧ cp = cp' := by cases hp; exact ⟨rfl, rfl⟩
          subst hp1
          have cz := hcell k z hz
          have hgw : gv < wr.heap.size := by
            rcases Nat.lt_or_ge gv wr.heap.size with h1 | h1
            · exact h1
            · simp [World.cell?, Array.getElem?_eq_none h1] at cz
          have cza : (wr.alloc (.cells #[.slice (some ⟨gv, o, none⟩) M cp, .int .i64 (i : Int)] 128)).cell? ⟨gv, o + k, none⟩ = some (.int .i64 z) := by
            rw [World.cell?_of_block (w := wr) (Below.heap_alloc _ _ _ hgw)]; exact cz
          have K2 := fun w' => K z w'
          have hb : (z == mk i) = true := by rw [hzm]; simp
          simp only [hb] at K2
          clear hp hp2 hcell hz hzm cz K hb
          go_wp2_with fail
          refine (K2 _).mono ?_
          rintro e w5 ⟨rfl, rfl⟩
          go_wp2_with fail
          go_roundw
          case rel => exact ⟨k + 1, by go_num, by omega, by first | rfl | trivial⟩
          case measure => simp only [intOf]; omega
        · have hke : k = M := by omega
          subst hke
          go_wp2_with fail
          go_roundw
          case rel => exact ⟨i + 1, by go_num, by omega, hbel.alloc hbel.size _⟩
          case measure => simp only [intOf]; omega
    · have hie : i = N := by omega
      subst hie
      go_wp2_with fail
      go_ret
      exact ⟨rfl, hbel⟩

end Go.Proofs.YtocopmbdjopljaaGreatDoor
