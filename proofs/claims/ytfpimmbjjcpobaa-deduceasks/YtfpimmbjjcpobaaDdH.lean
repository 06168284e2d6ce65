/- The contract of Follows; what is known beside its store and other things; the chapter's example. -/
import Derived.Test.YtfpimmbjjcpobaaDdG
import Derived.Test.YtfpimmbjjcpobaaTmBuild
namespace Go.Proofs.Ytfpimmbjjcpobaa
open Go.RowKit Go.Maps

theorem thr_or (L : List Tm) (x : Int) : thr L.length x = true ∨ thr L.length x = false := by cases thr L.length x <;> simp

set_option maxRecDepth 100000 in
set_option maxHeartbeats 4000000 in
theorem kFollows_any (b : Nat) (sv : Value) (mb : Nat) (L : List Tm) (a : Option Addr) (cap : Nat) (l : List Int) (x : Int) (w : World) (hS : St w b sv mb L) (h : NIs w (.slice a l.length cap) l) (hl : l.length ≤ 65536) :
    Calls Try.prog 13 #[.pointer (some ⟨b, 0, none⟩), .slice a l.length cap, .int .i64 x] w fun e w' => ∃ r q, e = .returned (.tuple #[.bool r, .int .i64 q]) ∧ Below w.heap.size w w' ∧ ((newE L l = 1 ∧ r = false ∧ q = 1) ∨ (newE L l = 0 ∧ thr L.length x = false ∧ r = false ∧ q = 1) ∨ (newE L l = 0 ∧ thr L.length x = true ∧ r = hasB L (fun m => (m : Int) ∈ l) x ∧ q = 0)) := by
  have K0 := kNew_any b sv mb L a cap l w hS h hl
  have HS := hide hS
  generalize l.length = N at *
  clear h hl hS
  go_enter Try.func13, Try.ntmps13
  go_wp2_with fail
  refine K0.mono ?_
  rintro e w1 ⟨p, rfl, b1, hp⟩
  clear K0
  rcases hp with ⟨e1, rfl⟩ | ⟨e1, kb, Z, rfl, hk, hz⟩
  · rw [e1]
    go_wp2_with fail
    refine bodyPost_ret (v := .tuple #[.bool false, .int .i64 1]) (by simp [results, Try.results13, go_sem]) rfl ⟨_, _, rfl, b1, Or.inl ⟨e1, rfl, rfl⟩⟩
  · rw [e1]
    have hS1 := (unhide HS).bw b1
    have KG := get_any b sv mb L x w1 hS1
    have HE1 := hide e1
    clear e1
    rcases thr_or L x with hx | hx
    · rw [hx] at KG
      have HK := hide (And.intro hk (And.intro hz (And.intro hS1 hx)))
      have HB := hide b1
      clear hk hz hS1 hx b1
      generalize getT L x = t at *
      go_wp2_with fail
      refine KG.mono ?_
      rintro e w2 ⟨rfl, b2⟩
      have b3 := b2.alloc b2.size (.cells #[.int .u8 t.kd, .int .i64 t.n, .int .i64 t.a, .int .i64 t.b] 46)
      obtain ⟨hk, hz, hS1, hx⟩ := unhide HK
      have KH := kHas_any kb b sv mb L _ Z x _ (hk.keep (Fr.ofBelow b3) (by simp)) (hS1.bw b3) (fun y hy c => by have := hz y hy; have := (unhide HS).lt y c; omega)
      obtain ⟨rb, hrb⟩ : ∃ rb, rb = hasB L (fun m => (m : Int) ∈ l) x := ⟨_, rfl⟩
      rw [← hrb] at KH
      have HRB := hide hrb
      have HF : Hid (∀ W Z', Mv (w2.alloc (.cells #[.int .u8 t.kd, .int .i64 t.n, .int .i64 t.a, .int .i64 t.b] 46)) W Z Z' → Below w.heap.size w W) := fun W Z' hm => Fr.toBase (bw_tr (unhide HB) b3) hm.fr hz
      clear KG hk hz hS1 hx b2 b3 hrb
      go_wp2_with fail
      refine KH.mono ?_
      rintro e w3 ⟨rfl, Z', _, m3⟩
      have b4 := unhide HF _ _ m3
      clear KH m3
      go_wp2_with fail
      refine bodyPost_ret (v := .tuple #[.bool rb, .int .i64 0]) (by simp [results, Try.results13, go_sem]) rfl ⟨_, _, rfl, b4, Or.inr (Or.inr ⟨unhide HE1, (unhide HK).2.2.2, unhide HRB, rfl⟩)⟩
    · rw [hx] at KG
      have HX := hide hx
      clear hk hz hS1 hx
      generalize getT L x = t at *
      go_wp2_with fail
      refine KG.mono ?_
      rintro e w2 ⟨rfl, b2⟩
      have b3 := bw_tr b1 (b2.alloc b2.size (.cells #[.int .u8 t.kd, .int .i64 t.n, .int .i64 t.a, .int .i64 t.b] 46))
      clear KG
      go_wp2_with fail
      refine bodyPost_ret (v := .tuple #[.bool false, .int .i64 1]) (by simp [results, Try.results13, go_sem]) rfl ⟨_, _, rfl, b3, Or.inr (Or.inl ⟨unhide HE1, unhide HX, rfl, rfl⟩)⟩

/-! The chapter's example. -/
def chap : List Tm := [⟨1, 1, 0, 0⟩, ⟨5, 0, 1, 0⟩, ⟨1, 2, 0, 0⟩, ⟨6, 0, 2, 3⟩, ⟨1, 3, 0, 0⟩, ⟨6, 0, 3, 5⟩, ⟨3, 0, 4, 6⟩, ⟨7, 0, 5, 0⟩]
theorem chap_fill : fillL [] chap = chap := by decide +kernel
theorem chap_good : Good chap := by
  have h : ∀ l L, Good L → Good (fillL L l) := by
    intro l
    induction l with
    | nil => intro L h; exact h
    | cons t l ih => intro L h; exact ih _ (h.made t)
  have := h chap [] good_nil
  rw [chap_fill] at this
  exact this
theorem chap_yes : Fol chap (fun m => (m : Int) ∈ [7, 1]) 5 := by
  have k7 : Fol chap (fun m => (m : Int) ∈ [(7 : Int), 1]) 7 := .known (by decide) (by decide) (by decide)
  have k1 : Fol chap (fun m => (m : Int) ∈ [(7 : Int), 1]) 1 := .known (by decide) (by decide) (by decide)
  have k4 : Fol chap (fun m => (m : Int) ∈ [(7 : Int), 1]) 4 := .pairA k7 (by decide)
  have k6 : Fol chap (fun m => (m : Int) ∈ [(7 : Int), 1]) 6 := .pairB k7 (by decide)
  have k3 : Fol chap (fun m => (m : Int) ∈ [(7 : Int), 1]) 3 := .opens k4 (by decide) k1
  exact .opens k6 (by decide) k3
theorem chap_no : ¬ Fol chap (fun m => (m : Int) ∈ [7]) 5 := by
  intro h
  have rg : ∀ m, 1 ≤ m → m ≤ chap.length → m ∈ [1, 2, 3, 4, 5, 6, 7, 8] := by
    intro m h1 h2
    have : m ≤ 8 := h2
    simp; omega
  have hc : Clo chap (fun m => m ∈ [4, 6, 7]) := by
    refine ⟨fun m h1 h2 => ?_, fun m h1 h2 => ?_, fun m h1 h2 => ?_, fun m h1 h2 => ?_⟩
    · exact (by decide : ∀ m ∈ [1, 2, 3, 4, 5, 6, 7, 8], kdOf chap m ≠ 1 → (pA chap m ≠ 0 → pA chap m ∈ [4, 6, 7]) → (pB chap m ≠ 0 → pB chap m ∈ [4, 6, 7]) → m ∈ [4, 6, 7]) m (rg m h1 h2)
    · exact (by decide : ∀ m ∈ [1, 2, 3, 4, 5, 6, 7, 8], m ∈ [4, 6, 7] → kdOf chap m = 3 → pA chap m ∈ [4, 6, 7]) m (rg m h1 h2)
    · exact (by decide : ∀ m ∈ [1, 2, 3, 4, 5, 6, 7, 8], m ∈ [4, 6, 7] → kdOf chap m = 3 → pB chap m ∈ [4, 6, 7]) m (rg m h1 h2)
    · exact (by decide : ∀ m ∈ [1, 2, 3, 4, 5, 6, 7, 8], m ∈ [4, 6, 7] → kdOf chap m = 6 → opn chap m ∈ [4, 6, 7] → pB chap m ∈ [4, 6, 7]) m (rg m h1 h2)
  have := h.least chap_good hc (fun m h1 h2 hk => by simp at hk; simp; omega)
  revert this; decide
theorem chap_facts : newE chap [7, 1] = 0 ∧ newE chap [7] = 0 ∧ thr chap.length 5 = true ∧ hasB chap (fun m => (m : Int) ∈ [7, 1]) 5 = true ∧ hasB chap (fun m => (m : Int) ∈ [7]) 5 = false := by
  refine ⟨by decide, by decide, by decide, hasB_iff.2 ⟨by decide, chap_yes⟩, ?_⟩
  cases e : hasB chap (fun m => (m : Int) ∈ [7]) 5
  · rfl
  · exact absurd (hasB_iff.1 e).2 chap_no

end Go.Proofs.Ytfpimmbjjcpobaa
