/- The contract of lookTerm over held lists that are all marks. -/
import Derived.Test.YtfpimmbjjcpobaaGreatDoorBkTD
namespace Go.Proofs.YtfpimmbjjcpobaaGreatDoor
open Go.RowKit Go.Maps

set_option maxRecDepth 100000 in
set_option maxHeartbeats 4000000 in
theorem look_any (B b : Nat) (lv : Value) (vs : List Value) (ls : List (List Tm)) (w : World) (h : Hl B w b lv vs ls) (h0 : 0 < vs.length) (h100 : vs.length ≤ 100) (hls : ∀ l ∈ ls, l.length ≤ 2000000) (hm : ∀ (i : Nat) (l : List Tm), ls[i]? = some l → ∀ z ∈ l, z = mkT i) :
    Calls Tryz.prog 94 #[.pointer (some ⟨b, 0, none⟩)] w fun e w' => e = .returned (.bool true) ∧ Below w.heap.size w w' := by
  have c2 := h.bk.cell.2.2.1
  obtain ⟨g, cap, hlv, hgB⟩ : ∃ g cap, lv = .slice (some ⟨g, 0, none⟩) vs.length cap ∧ B ≤ g := by
    obtain ⟨g, cap, h1, h2, _⟩ := h.bk.entry 0 (vs[0]) (List.getElem?_eq_getElem h0)
    exact ⟨g, cap, h1, h2⟩
  subst hlv
  obtain ⟨N, hN⟩ : ∃ N, vs.length = N := ⟨_, rfl⟩
  have hlen := h.len
  rw [hN] at c2 h100 h0 h hlen
  have HN := hide hN
  have HL := hide (And.intro hlen (And.intro hm (And.intro h hls)))
  clear hN hlen hm h hls hgB
  go_enter Tryz.func94, Tryz.ntmps94
  go_wp2_with fail
  go_loopw [12] (fun iv wr => ∃ i : Nat, iv = .int .i64 i ∧ i ≤ N ∧ Below w.heap.size w wr) (fun iv _ => (N - intOf iv).toNat)
  case atStart => exact ⟨0, rfl, by omega, Below.refl _ _⟩
  case round =>
    obtain ⟨i, rfl, hi, hbel⟩ := hrel
    by_cases hin : i < N
    · have hH := (unhide HL).2.2.1.bw hbel
      obtain ⟨v, hv⟩ : ∃ v, vs[i]? = some v := ⟨_, List.getElem?_eq_getElem (by have := unhide HN; omega)⟩
      obtain ⟨l, hl⟩ : ∃ l, ls[i]? = some l := ⟨_, List.getElem?_eq_getElem (by have := (unhide HL).1; omega)⟩
      have hI := hH.row i v l hv hl
      obtain ⟨p, cp, rfl⟩ : ∃ p cp, v = .slice p l.length cp := by
        rcases hI.form with ⟨e1, e2⟩ | ⟨g', c', e1, _⟩
        · exact ⟨none, 0, by rw [e1, e2]; rfl⟩
        · exact ⟨_, _, e1⟩
      obtain ⟨d1, d2⟩ := entry2 hH.bk (by rw [unhide HN]) i _ hv
      have hmk := (unhide HL).2.1 i l hl
      have hiN : (i : Int) < (N : Int) := by omega
      have K := fun w' => isT_any i w' (by omega)
      obtain ⟨M, hM⟩ : ∃ M, l.length = M := ⟨_, rfl⟩
      have hMb : (M : Int) ≤ 2000000 := by have := (unhide HL).2.2.2 l (List.mem_of_getElem? hl); omega
      rw [hM] at d1
      obtain ⟨m2, hm2⟩ : ∃ m2 : Int, m2 = -1000 - (i : Int) := ⟨_, rfl⟩
      rw [← hm2] at K
      have HV := hide (And.intro hM (And.intro hI (And.intro hmk (And.intro hm2 hbel))))
      have HK := hide K
      have start : Hid (Below wr.heap.size wr (wr.alloc (.cells #[.slice p M cp, .int .i64 (i : Int)] 99)) ∧ (wr.alloc (.cells #[.slice p M cp, .int .i64 (i : Int)] 99)).cell? ⟨wr.heap.size, 1, none⟩ = some (.int .i64 (i : Int))) := by
        refine ⟨bw_al _ _, ?_⟩
        unfold World.cell?; rw [heap_alloc_new]; rfl
      clear hM hmk hI hH hv hl hm2 K
      go_wp2_with fail
      rename World => wo
      go_loopw [19] (fun kv wq => ∃ k : Nat, kv = .int .i64 k ∧ k ≤ M ∧ Hid (Below wo.heap.size wo wq ∧ wq.cell? ⟨wo.heap.size, 1, none⟩ = some (.int .i64 (i : Int)))) (fun kv _ => (M - intOf kv).toNat)
      case atStart => exact ⟨0, rfl, by omega, start⟩
      case round =>
        clear start
        obtain ⟨k, rfl, hk, HR⟩ := hrel
        by_cases hkM : k < M
        · have hkM' : (k : Int) < (M : Int) := by omega
          obtain ⟨hM, hI, hmk, hm2, hbel⟩ := unhide HV
          obtain ⟨z, hz⟩ : ∃ z, l[k]? = some z := ⟨_, List.getElem?_eq_getElem (by omega)⟩
          have hzm := hmk z (List.mem_of_getElem? hz)
          obtain ⟨gv, cp', hp⟩ : ∃ gv cp', Value.slice p l.length cp = .slice (some ⟨gv, 0, none⟩) l.length cp' := by
            rcases hI.form with ⟨_, e2⟩ | ⟨g', c', e1, _⟩
            · rw [e2] at hz; simp at hz
            · exact ⟨g', c', e1⟩
          obtain ⟨rfl, rfl⟩ : p = some ⟨gv, 0, none⟩ ∧ cp = cp' := by cases hp; exact ⟨rfl, rfl⟩
          obtain ⟨t0, t1, t2, t3⟩ := (hI.bw (unhide HR).1).at rfl hz
          rw [hzm] at t0 t1 t2 t3
          simp only [mkT] at t0 t1 t2 t3
          rw [← hm2] at t2
          have c1 := (unhide HR).2
          have X : Hid (∀ W, Below wr.heap.size wr W → Below wo.heap.size wo W ∧ W.cell? ⟨wo.heap.size, 1, none⟩ = some (.int .i64 (i : Int))) := fun W hb => ⟨bw_tr (unhide HR).1 hb, by rw [World.cell?_of_block (w := wr) (hb.block _ (lt_of_cell c1))]; exact c1⟩
          have hb1 := bw_al wr (.cells #[.int .u8 0, .int .i64 0, .int .i64 m2, .int .i64 0] 69)
          have KI := unhide HK (wr.alloc (.cells #[.int .u8 0, .int .i64 0, .int .i64 m2, .int .i64 0] 69))
          have hwl := lt_of_cell c1
          have hgl := lt_of_cell t0
          clear hM hI hmk hm2 hbel hz hzm hp HR
          go_wp2_with fail
          refine KI.mono ?_
          rintro e w5 ⟨rfl, b5⟩
          have X5 := hide (unhide X _ (bw_tr hb1 b5))
          clear KI b5 X t0 t1 t2 t3 c1
          go_wp2_with fail
          go_roundw
          case rel => exact ⟨k + 1, by go_num, by omega, X5⟩
          case measure => simp only [intOf]; omega
        · have hke : k = M := by omega
          subst hke
          have hb9 := (unhide HV).2.2.2.2.trans (bw_mono (unhide HR).1 (unhide HV).2.2.2.2.size)
          clear HR
          go_wp2_with fail
          go_roundw
          case rel => exact ⟨i + 1, by go_num, by omega, hb9⟩
          case measure => simp only [intOf]; omega
    · have hie : i = N := by omega
      subst hie
      go_wp2_with fail
      go_ret
      exact ⟨rfl, hbel⟩

end Go.Proofs.YtfpimmbjjcpobaaGreatDoor
