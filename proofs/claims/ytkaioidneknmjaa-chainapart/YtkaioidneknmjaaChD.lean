/- The contracts of goOn's closure and of AllOrNone of a stretch. -/
import Derived.Test.YtkaioidneknmjaaChC
import Derived.Deep.RegionHeld3
namespace Go.Proofs.Ytkaioidneknmjaa.Tn
open Go.RowKit Go.Maps

theorem own_monoT {B B' : Nat} {w : World} {e : TypeId} {c : Nat} {v : Value} {n : Nat} {xs : List Value} (h : w.ownsRow B e c v n xs) (hb : B' ≤ B) : w.ownsRow B' e c v n xs := by
  refine ⟨h.1, ?_⟩
  rcases h.2 with h | ⟨g, cap, cur, hv, h0, r⟩
  · exact Or.inl h
  · exact Or.inr ⟨g, cap, cur, hv, Nat.le_trans hb h0, r⟩
/-- What the walk of a stretch leaves. -/
def StrP (w w' : World) (b : Nat) (sv : Value) (mb : Nat) (p : List Tm × Nat) (n : Nat) (a : Option Addr) (cap : Nat) : Prop := ∃ sv', SStep w w' b sv sv' mb (wkS p n).1 ∧ NRow w.heap.size w' (.slice a n cap) (wkK p n)
theorem StrP.later {w w0 w' : World} {b : Nat} {sv : Value} {mb : Nat} {p : List Tm × Nat} {n : Nat} {a : Option Addr} {cap : Nat} (h : StrP w0 w' b sv mb p n a cap) (hs : SStep w w0 b sv sv mb p.1) (hw : w.heap.size ≤ w0.heap.size) : StrP w w' b sv mb p n a cap := by
  obtain ⟨sv', s, r⟩ := h
  exact ⟨sv', hs.trans s, own_monoT r hw⟩
theorem StrP.put {w w' : World} {b : Nat} {sv : Value} {mb : Nat} {p : List Tm × Nat} {n : Nat} {a : Option Addr} {cap : Nat} (h : StrP w w' b sv mb p n a cap) {k : Nat} {a0 a1 : Value} (hk : w'.heap[k]? = some (.cells #[a0, a1] 95 (0, 0))) (hw : w.heap.size ≤ k) (v0 v1 : Value) :
    StrP w ((w'.setCell ⟨k, 0, none⟩ v0).setCell ⟨k, 1, none⟩ v1) b sv mb p n a cap ∧ ((w'.setCell ⟨k, 0, none⟩ v0).setCell ⟨k, 1, none⟩ v1).heap[k]? = some (.cells #[v0, v1] 95 (0, 0)) ∧ ∀ j, j ≠ k → ((w'.setCell ⟨k, 0, none⟩ v0).setCell ⟨k, 1, none⟩ v1).heap[j]? = w'.heap[j]? := by
  obtain ⟨sv', s, r⟩ := h
  obtain ⟨h1, h2, h3⟩ := s.two hk (by decide) (by decide) hw v0 v1
  exact ⟨⟨sv', h1, r.other hk (by decide) h3⟩, h2, h3⟩
theorem StrP.kept {w w' : World} {b : Nat} {sv : Value} {mb : Nat} {p : List Tm × Nat} {n : Nat} {a : Option Addr} {cap : Nat} {L : List Tm} (h : StrP w w' b sv mb p n a cap) (hs : St w b sv mb L) {k : Nat} {cs : Array Value} {t : TypeId} (hk : w.heap[k]? = some (.cells cs t (0, 0))) (h1 : t ≠ 87) (h2 : t ≠ 40) : w'.heap[k]? = some (.cells cs t (0, 0)) := by
  obtain ⟨sv', s, r⟩ := h
  exact kept_fr hk hs s.fr h1 h2
set_option maxRecDepth 100000 in
set_option maxHeartbeats 4000000 in
theorem go1_any {b : Nat} {sv : Value} {mb : Nat} {w : World} (p : List Tm × Nat) (n : Nat) (h : St w b sv mb p.1) (hg : Gd p) (hn : n ≤ 100000) (hl : p.1.length + 2 * n ≤ 1048576) (p1 p2 c lm nx : Nat)
    (k1 : w.heap[p1]? = some (.cells #[.pointer (some ⟨c, 0, none⟩)] 41 (0, 0))) (k2 : w.heap[c]? = some (.cells (chC b lm nx p.2) 71 (0, 0))) (k3 : w.heap[p2]? = some (.cells #[.int .i64 (n : Int)] 3 (0, 0))) :
    Calls Try.prog 51 #[.func (.func 19) #[.pointer (some ⟨b, 0, none⟩)] #[], .pointer (some ⟨p1, 0, none⟩), .pointer (some ⟨p2, 0, none⟩)] w fun e w' => ∃ a cap, e = .returned (.tuple #[.agg #[.slice a n cap, .int .i64 ((wkS p n).2 : Nat)], .int .i64 0]) ∧ StrP w w' b sv mb p n a cap := by
  obtain ⟨w0, hw0⟩ : ∃ w0, w0 = w.alloc (.cells #[.slice none 0 0, .int .i64 0] 95) := ⟨_, rfl⟩
  have x0 : Below w.heap.size w w0 := by rw [hw0]; exact bwA' _ _
  have r0 : w0.heap[w.heap.size]? = some (.cells #[.slice none 0 0, .int .i64 0] 95 (0, 0)) := by rw [hw0]; exact heap_alloc_new _ _
  have HW := hide hw0
  have xd : Below w.heap.size w w0.drew := x0.drew
  have S0 : Hid (SStep w w0.drew b sv sv mb p.1) := SStep.same h xd
  have KW := hide (walk_any p n (unhide S0).st hg hn hl)
  have HC : Hid (∀ W : World, (∀ (k : Nat) (cs : Array Value) (t : TypeId), w0.drew.heap[k]? = some (.cells cs t (0, 0)) → t ≠ 87 → t ≠ 40 → W.heap[k]? = some (.cells cs t (0, 0))) → (W.cell? ⟨p1, 0, none⟩ = some (.pointer (some ⟨c, 0, none⟩)) ∧ W.cell? ⟨c, 3, none⟩ = some (.int .i64 (p.2 : Nat)) ∧ W.cell? ⟨p2, 0, none⟩ = some (.int .i64 (n : Int))) ∧ W.heap[w.heap.size]? = some (.cells #[.slice none 0 0, .int .i64 0] 95 (0, 0))) := fun W hk => by
    have q1 := hk p1 _ _ (kept_blk k1 xd) (by decide) (by decide)
    have q2 := hk c _ _ (kept_blk k2 xd) (by decide) (by decide)
    have q3 := hk p2 _ _ (kept_blk k3 xd) (by decide) (by decide)
    exact ⟨⟨blk_cell q1 rfl, blk_cell q2 rfl, blk_cell q3 rfl⟩, hk _ _ _ r0 (by decide) (by decide)⟩
  have D0 := (unhide HC w0.drew (fun k cs t e _ _ => e)).1
  have D00 : (w0.cell? ⟨p1, 0, none⟩ = some (.pointer (some ⟨c, 0, none⟩)) ∧ w0.cell? ⟨c, 3, none⟩ = some (.int .i64 (p.2 : Nat)) ∧ w0.cell? ⟨p2, 0, none⟩ = some (.int .i64 (n : Int))) := D0
  have HNE : Hid (p1 ≠ w.heap.size ∧ c ≠ w.heap.size ∧ p2 ≠ w.heap.size) := by have h1 := lt_of_blk k1; have h2 := lt_of_blk k2; have h3 := lt_of_blk k3; unfold Hid; omega
  have HRB : Hid (∀ W a cap, StrP w0.drew W b sv mb p n a cap → StrP w W b sv mb p n a cap ∧ (∀ (k : Nat) (cs : Array Value) (t : TypeId), w0.drew.heap[k]? = some (.cells cs t (0, 0)) → t ≠ 87 → t ≠ 40 → W.heap[k]? = some (.cells cs t (0, 0)))) := fun W a cap s => ⟨s.later (unhide S0) x0.size, fun k cs t e h1 h2 => s.kept (unhide S0).st e h1 h2⟩
  obtain ⟨x, hx⟩ : ∃ x : Nat, x = p.2 := ⟨_, rfl⟩
  obtain ⟨y, hy⟩ : ∃ y : Nat, y = (wkS p n).2 := ⟨_, rfl⟩
  rw [← hx, ← hy] at KW
  rw [← hy]
  rw [← hx] at D0 D00 HC
  clear h hg hn hl hw0 x0 r0 k1 k2 k3 xd S0 hx hy
  go_enter Try.func51, Try.ntmps51
  go_upto_region 1 with fail
  rw [← unhide HW]
  go_region_held3 (fun w' : World => w'.cell? ⟨p1, 0, none⟩ = some (.pointer (some ⟨c, 0, none⟩)) ∧ w'.cell? ⟨c, 3, none⟩ = some (.int .i64 (x : Nat)) ∧ w'.cell? ⟨p2, 0, none⟩ = some (.int .i64 (n : Int))) (first | with_reducible exact D00 | with_reducible exact D0 | with_reducible exact D1 | with_reducible exact D2) (first
      | (go_at_call 52; refine (unhide KW).mono ?_; rintro e z1 ⟨a, cap, rfl, sv', s1, r1⟩; obtain ⟨T1, kp⟩ := unhide HRB z1 a cap ⟨sv', s1, r1⟩; obtain ⟨D1, rb1⟩ := unhide HC z1 kp; obtain ⟨T2, rb2, o2⟩ := T1.put rb1 (Nat.le_refl _) (.slice a n cap) (.int .i64 (y : Nat)); have f0 : z1.cell? ⟨w.heap.size, 0, none⟩ = some (.slice none 0 0) := blk_cell rb1 rfl; have f1 : z1.cell? ⟨w.heap.size, 1, none⟩ = some (.int .i64 0) := blk_cell rb1 rfl; have fz := fun j => blk_froz (i := j) rb1; have D2 : (((z1.setCell ⟨w.heap.size, 0, none⟩ (.slice a n cap)).setCell ⟨w.heap.size, 1, none⟩ (.int .i64 (y : Nat))).cell? ⟨p1, 0, none⟩ = some (.pointer (some ⟨c, 0, none⟩)) ∧ ((z1.setCell ⟨w.heap.size, 0, none⟩ (.slice a n cap)).setCell ⟨w.heap.size, 1, none⟩ (.int .i64 (y : Nat))).cell? ⟨c, 3, none⟩ = some (.int .i64 (x : Nat)) ∧ ((z1.setCell ⟨w.heap.size, 0, none⟩ (.slice a n cap)).setCell ⟨w.heap.size, 1, none⟩ (.int .i64 (y : Nat))).cell? ⟨p2, 0, none⟩ = some (.int .i64 (n : Int))) := ⟨(World.cell?_of_block (o2 p1 (unhide HNE).1)).trans D1.1, (World.cell?_of_block (o2 c (unhide HNE).2.1)).trans D1.2.1, (World.cell?_of_block (o2 p2 (unhide HNE).2.2)).trans D1.2.2⟩)
      | fail)
  all_goals
    go_wp2
    generalize (z1.setCell ⟨w.heap.size, 0, none⟩ (.slice a n cap)).setCell ⟨w.heap.size, 1, none⟩ (.int .i64 (y : Nat)) = V at T2 rb2 o2 D2 ⊢
    have g0 := blk_cell (i := 0) rb2 rfl
    have g1 := blk_cell (i := 1) rb2 rfl
    exact bodyPost_ret (v := .tuple #[.agg #[.slice a n cap, .int .i64 (y : Int)], .int .i64 0]) (by simp [results, Try.results51, go_sem, g0, g1]) rfl ⟨a, cap, rfl, T2⟩
end Go.Proofs.Ytkaioidneknmjaa.Tn
