/- Texts joined: ChD ChE ChF ChG. -/
import Derived.Test.YtkaioidneknmjaaGreatDoorZ07
import Derived.Deep.RegionHeld3
import Derived.Test.YtkaioidneknmjaaGreatDoorZ02
import Derived.BigQuiet
/- The contracts of goOn's closure and of AllOrNone of a stretch. -/
namespace Go.Proofs.YtkaioidneknmjaaGreatDoor.Tn
open Go.RowKit Go.Maps

theorem own_monoT {B B' : Nat} {w : World} {e : TypeId} {c : Nat} {v : Value} {n : Nat} {xs : List Value} (h : w.ownsRow B e c v n xs) (hb : B' ≤ B) : w.ownsRow B' e c v n xs := by
  refine ⟨h.1, ?_⟩
  rcases h.2 with h | ⟨g, cap, cur, hv, h0, r⟩
  · exact Or.inl h
  · exact Or.inr ⟨g, cap, cur, hv, Nat.le_trans hb h0, r⟩
/-- What the walk of a stretch leaves. -/
def StrP (w w' : World) (b : Nat) (sv : Value) (mb : Nat) (p : List Tm × Nat) (n : Nat) (a : Option Addr) (cap : Nat) : Prop := ∃ sv', SStep w w' b sv sv' mb (wkS p n).1 ∧ NRow w.heap.size w' (.slice a n cap) (wkK p n)
theorem StrP.later {w w0 w' : World} {b : Nat} {sv : Value} {mb : Nat} {p : List Tm × Nat} {n : Nat} {a : Option Addr} {cap : Nat} (h : StrP w0 w' b sv mb p n a cap) (hs : SStep w w0 b sv sv mb p.1) (hw : w.heap.size ≤ w0.heap.size) : StrP w w' b sv mb p n a cap := by
  obtain ⟨sv', s, r⟩ := h
  exact ⟨sv', hs.trans s, own_monoT r hw⟩
theorem StrP.put {w w' : World} {b : Nat} {sv : Value} {mb : Nat} {p : List Tm × Nat} {n : Nat} {a : Option Addr} {cap : Nat} (h : StrP w w' b sv mb p n a cap) {k : Nat} {a0 a1 : Value} (hk : w'.heap[k]? = some (.cells #[a0, a1] 130 (0, 0))) (hw : w.heap.size ≤ k) (v0 v1 : Value) :
    StrP w ((w'.setCell ⟨k, 0, none⟩ v0).setCell ⟨k, 1, none⟩ v1) b sv mb p n a cap ∧ ((w'.setCell ⟨k, 0, none⟩ v0).setCell ⟨k, 1, none⟩ v1).heap[k]? = some (.cells #[v0, v1] 130 (0, 0)) ∧ ∀ j, j ≠ k → ((w'.setCell ⟨k, 0, none⟩ v0).setCell ⟨k, 1, none⟩ v1).heap[j]? = w'.heap[j]? := by
  obtain ⟨sv', s, r⟩ := h
  obtain ⟨h1, h2, h3⟩ := s.two hk (by decide) (by decide) hw v0 v1
  exact ⟨⟨sv', h1, r.other hk (by decide) h3⟩, h2, h3⟩
theorem StrP.kept {w w' : World} {b : Nat} {sv : Value} {mb : Nat} {p : List Tm × Nat} {n : Nat} {a : Option Addr} {cap : Nat} {L : List Tm} (h : StrP w w' b sv mb p n a cap) (hs : St w b sv mb L) {k : Nat} {cs : Array Value} {t : TypeId} (hk : w.heap[k]? = some (.cells cs t (0, 0))) (h1 : t ≠ 120) (h2 : t ≠ 89) : w'.heap[k]? = some (.cells cs t (0, 0)) := by
  obtain ⟨sv', s, r⟩ := h
  exact kept_fr hk hs s.fr h1 h2
set_option maxRecDepth 100000 in
set_option maxHeartbeats 4000000 in
theorem go1_any {b : Nat} {sv : Value} {mb : Nat} {w : World} (p : List Tm × Nat) (n : Nat) (h : St w b sv mb p.1) (hg : Gd p) (hn : n ≤ 100000) (hl : p.1.length + 2 * n ≤ 1048576) (p1 p2 c lm nx : Nat)
    (k1 : w.heap[p1]? = some (.cells #[.pointer (some ⟨c, 0, none⟩)] 28 (0, 0))) (k2 : w.heap[c]? = some (.cells (chC b lm nx p.2) 39 (0, 0))) (k3 : w.heap[p2]? = some (.cells #[.int .i64 (n : Int)] 3 (0, 0))) :
    Calls Tryz.prog 146 #[.func (.func 18) #[.pointer (some ⟨b, 0, none⟩)] #[], .pointer (some ⟨p1, 0, none⟩), .pointer (some ⟨p2, 0, none⟩)] w fun e w' => ∃ a cap, e = .returned (.tuple #[.agg #[.slice a n cap, .int .i64 ((wkS p n).2 : Nat)], .int .i64 0]) ∧ StrP w w' b sv mb p n a cap := by
  obtain ⟨w0, hw0⟩ : ∃ w0, w0 = w.alloc (.cells #[.slice none 0 0, .int .i64 0] 130) := ⟨_, rfl⟩
  have x0 : Below w.heap.size w w0 := by rw [hw0]; exact bwA' _ _
  have r0 : w0.heap[w.heap.size]? = some (.cells #[.slice none 0 0, .int .i64 0] 130 (0, 0)) := by rw [hw0]; exact heap_alloc_new _ _
  have HW := hide hw0
  have xd : Below w.heap.size w w0.drew := x0.drew
  have S0 : Hid (SStep w w0.drew b sv sv mb p.1) := SStep.same h xd
  have KW := hide (walk_any p n (unhide S0).st hg hn hl)
  have HC : Hid (∀ W : World, (∀ (k : Nat) (cs : Array Value) (t : TypeId), w0.drew.heap[k]? = some (.cells cs t (0, 0)) → t ≠ 120 → t ≠ 89 → W.heap[k]? = some (.cells cs t (0, 0))) → (W.cell? ⟨p1, 0, none⟩ = some (.pointer (some ⟨c, 0, none⟩)) ∧ W.cell? ⟨c, 3, none⟩ = some (.int .i64 (p.2 : Nat)) ∧ W.cell? ⟨p2, 0, none⟩ = some (.int .i64 (n : Int))) ∧ W.heap[w.heap.size]? = some (.cells #[.slice none 0 0, .int .i64 0] 130 (0, 0))) := fun W hk => by
    have q1 := hk p1 _ _ (kept_blk k1 xd) (by decide) (by decide)
    have q2 := hk c _ _ (kept_blk k2 xd) (by decide) (by decide)
    have q3 := hk p2 _ _ (kept_blk k3 xd) (by decide) (by decide)
    exact ⟨⟨blk_cell q1 rfl, blk_cell q2 rfl, blk_cell q3 rfl⟩, hk _ _ _ r0 (by decide) (by decide)⟩
  have D0 := (unhide HC w0.drew (fun k cs t e _ _ => e)).1
  have D00 : (w0.cell? ⟨p1, 0, none⟩ = some (.pointer (some ⟨c, 0, none⟩)) ∧ w0.cell? ⟨c, 3, none⟩ = some (.int .i64 (p.2 : Nat)) ∧ w0.cell? ⟨p2, 0, none⟩ = some (.int .i64 (n : Int))) := D0
  have HNE : Hid (p1 ≠ w.heap.size ∧ c ≠ w.heap.size ∧ p2 ≠ w.heap.size) := by have h1 := lt_of_blk k1; have h2 := lt_of_blk k2; have h3 := lt_of_blk k3; unfold Hid; omega
  have HRB : Hid (∀ W a cap, StrP w0.drew W b sv mb p n a cap → StrP w W b sv mb p n a cap ∧ (∀ (k : Nat) (cs : Array Value) (t : TypeId), w0.drew.heap[k]? = some (.cells cs t (0, 0)) → t ≠ 120 → t ≠ 89 → W.heap[k]? = some (.cells cs t (0, 0)))) := fun W a cap s => ⟨s.later (unhide S0) x0.size, fun k cs t e h1 h2 => s.kept (unhide S0).st e h1 h2⟩
  obtain ⟨x, hx⟩ : ∃ x : Nat, x = p.2 := ⟨_, rfl⟩
  obtain ⟨y, hy⟩ : ∃ y : Nat, y = (wkS p n).2 := ⟨_, rfl⟩
  rw [← hx, ← hy] at KW
  rw [← hy]
  rw [← hx] at D0 D00 HC
  clear h hg hn hl hw0 x0 r0 k1 k2 k3 xd S0 hx hy
  go_enter Tryz.func146, Tryz.ntmps146
  go_upto_region 1 with fail
  rw [← unhide HW]
  go_region_held3 (fun w' : World => w'.cell? ⟨p1, 0, none⟩ = some (.pointer (some ⟨c, 0, none⟩)) ∧ w'.cell? ⟨c, 3, none⟩ = some (.int .i64 (x : Nat)) ∧ w'.cell? ⟨p2, 0, none⟩ = some (.int .i64 (n : Int))) (first | with_reducible exact D00 | with_reducible exact D0 | with_reducible exact D1 | with_reducible exact D2) (first
      | (go_at_call 147; refine (unhide KW).mono ?_; rintro e z1 ⟨a, cap, rfl, sv', s1, r1⟩; obtain ⟨T1, kp⟩ := unhide HRB z1 a cap ⟨sv', s1, r1⟩; obtain ⟨D1, rb1⟩ := unhide HC z1 kp; obtain ⟨T2, rb2, o2⟩ := T1.put rb1 (Nat.le_refl _) (.slice a n cap) (.int .i64 (y : Nat)); have f0 : z1.cell? ⟨w.heap.size, 0, none⟩ = some (.slice none 0 0) := blk_cell rb1 rfl; have f1 : z1.cell? ⟨w.heap.size, 1, none⟩ = some (.int .i64 0) := blk_cell rb1 rfl; have fz := fun j => blk_froz (i := j) rb1; have D2 : (((z1.setCell ⟨w.heap.size, 0, none⟩ (.slice a n cap)).setCell ⟨w.heap.size, 1, none⟩ (.int .i64 (y : Nat))).cell? ⟨p1, 0, none⟩ = some (.pointer (some ⟨c, 0, none⟩)) ∧ ((z1.setCell ⟨w.heap.size, 0, none⟩ (.slice a n cap)).setCell ⟨w.heap.size, 1, none⟩ (.int .i64 (y : Nat))).cell? ⟨c, 3, none⟩ = some (.int .i64 (x : Nat)) ∧ ((z1.setCell ⟨w.heap.size, 0, none⟩ (.slice a n cap)).setCell ⟨w.heap.size, 1, none⟩ (.int .i64 (y : Nat))).cell? ⟨p2, 0, none⟩ = some (.int .i64 (n : Int))) := ⟨(World.cell?_of_block (o2 p1 (unhide HNE).1)).trans D1.1, (World.cell?_of_block (o2 c (unhide HNE).2.1)).trans D1.2.1, (World.cell?_of_block (o2 p2 (unhide HNE).2.2)).trans D1.2.2⟩)
      | fail)
  all_goals
    go_wp2
    generalize (z1.setCell ⟨w.heap.size, 0, none⟩ (.slice a n cap)).setCell ⟨w.heap.size, 1, none⟩ (.int .i64 (y : Nat)) = V at T2 rb2 o2 D2 ⊢
    have g0 := blk_cell (i := 0) rb2 rfl
    have g1 := blk_cell (i := 1) rb2 rfl
    exact bodyPost_ret (v := .tuple #[.agg #[.slice a n cap, .int .i64 (y : Int)], .int .i64 0]) (by simp [results, Tryz.results146, go_sem, g0, g1]) rfl ⟨a, cap, rfl, T2⟩
end Go.Proofs.YtkaioidneknmjaaGreatDoor.Tn

/- The contracts of AllOrNone of a stretch and of goOn. -/
namespace Go.Proofs.YtkaioidneknmjaaGreatDoor.Tn
open Go.RowKit Go.Maps

set_option maxRecDepth 100000 in
set_option maxHeartbeats 4000000 in
theorem aonT {b : Nat} {sv : Value} {mb : Nat} {w : World} (p : List Tm × Nat) (n : Nat) (h : St w b sv mb p.1) (m : Int) (hm : 0 ≤ m) (hl : (p.1.length : Int) + m ≤ 1048575) (p1 p2 : Nat)
    (K : ∀ W, Below w.heap.size w W → Calls Tryz.prog 146 #[.func (.func 18) #[.pointer (some ⟨b, 0, none⟩)] #[], .pointer (some ⟨p1, 0, none⟩), .pointer (some ⟨p2, 0, none⟩)] W fun e w' => ∃ a cap, e = .returned (.tuple #[.agg #[.slice a n cap, .int .i64 ((wkS p n).2 : Nat)], .int .i64 0]) ∧ StrP W w' b sv mb p n a cap) :
    Calls Tryz.prog 145 #[.pointer (some ⟨b, 0, none⟩), .int .i64 m, .func (.func 146) #[] #[.pointer (some ⟨p1, 0, none⟩), .pointer (some ⟨p2, 0, none⟩)]] w fun e w' => ∃ a cap, e = .returned (.tuple #[.agg #[.slice a n cap, .int .i64 ((wkS p n).2 : Nat)], .int .i64 0]) ∧ StrP w w' b sv mb p n a cap := by
  obtain ⟨w0, hw0⟩ : ∃ w0, w0 = w.alloc (.cells #[.slice none 0 0, .int .i64 0] 130) := ⟨_, rfl⟩
  have x0 : Below w.heap.size w w0 := by rw [hw0]; exact bwA' _ _
  have r0 : w0.heap[w.heap.size]? = some (.cells #[.slice none 0 0, .int .i64 0] 130 (0, 0)) := by rw [hw0]; exact heap_alloc_new _ _
  have HW := hide hw0
  have S0 : Hid (SStep w w0 b sv sv mb p.1) := SStep.same h x0
  have KL := hide (len_any b sv mb p.1 w0 (unhide S0).st)
  have KF := hide (K w0 x0)
  have HX := hide x0.size
  obtain ⟨N, hN⟩ : ∃ N : Int, N = (p.1.length : Int) := ⟨_, rfl⟩
  rw [← hN] at KL
  obtain ⟨R, hR⟩ : ∃ R : Int, R = 1048576 - N := ⟨_, rfl⟩
  have q0 : (1048576 : Int) - N = R := hR.symm
  have q1 : IntKind.i64.wrap R = R := by rw [IntKind.wrap_i64]; omega
  have q2 : 0 < R := by omega
  have q3 : decide (R < m) = false := decide_eq_false (by omega)
  have q4 : m ≤ R := by omega
  clear h hl hw0 x0 hN hR K hm
  generalize (wkS p n).2 = y at *
  go_enter Tryz.func145, Tryz.ntmps145
  go_wp2_with fail
  rw [← unhide HW]
  refine (unhide KL).mono ?_
  rintro e w0 ⟨rfl, rfl⟩
  clear KL HW
  go_wp2_with fail
  refine (unhide KF).mono ?_
  rintro e w4 ⟨a, cap, rfl, s4⟩
  have r4 := s4.kept (unhide S0).st r0 (by decide) (by decide)
  have HT := hide ((s4.later (unhide S0) (unhide HX)).put r4 (Nat.le_refl _) (.slice a n cap) (.int .i64 (y : Nat)))
  have h0 : w4.cell? ⟨w.heap.size, 0, none⟩ = some (.slice none 0 0) := blk_cell r4 rfl
  have h1 : w4.cell? ⟨w.heap.size, 1, none⟩ = some (.int .i64 0) := blk_cell r4 rfl
  have hf := fun j => blk_froz (i := j) r4
  clear s4 KF q0 q1 q2 q3 q4 r0 r4 S0
  go_wp2_with fail
  obtain ⟨T2, rb2, o2⟩ := unhide HT
  generalize (w4.setCell ⟨w.heap.size, 0, none⟩ (.slice a n cap)).setCell ⟨w.heap.size, 1, none⟩ (.int .i64 (y : Nat)) = V at T2 rb2 o2 ⊢
  have g0 := blk_cell (i := 0) rb2 rfl
  have g1 := blk_cell (i := 1) rb2 rfl
  have HT2 := hide T2
  clear T2 rb2 o2 HT h0 h1 hf
  exact bodyPost_ret (v := .tuple #[.agg #[.slice a n cap, .int .i64 (y : Int)], .int .i64 0]) (by simp [results, Tryz.results145, go_sem, g0, g1]) rfl ⟨a, cap, rfl, unhide HT2⟩

/-! Keys that are left by a step. -/
def nlf (p : List Tm × Nat) (nx : Nat) : Nat → Lfs
  | 0 => []
  | n + 1 => nlf p nx n ++ [(nx + n, (kyS (wkS p n)).2)]
theorem nlf_len (p : List Tm × Nat) (nx : Nat) : ∀ n, (nlf p nx n).length = n
  | 0 => rfl
  | n + 1 => by simp [nlf, nlf_len p nx n]
theorem wkK_get (p : List Tm × Nat) : ∀ (m i : Nat), i < m → (wkK p m)[i]? = some (kyS (wkS p i)).2
  | 0, i, h => by omega
  | m + 1, i, h => by
    have hl := wkK_len p m
    show (wkK p m ++ [_])[i]? = _
    by_cases c : i < m
    · rw [List.getElem?_append_left (by omega)]; exact wkK_get p m i c
    · obtain rfl : i = m := by omega
      rw [List.getElem?_append_right (by omega), hl]; simp
theorem lf_nlf {p : List Tm × Nat} {nx : Nat} {l : Lfs} (h : Lf nx l) : ∀ n, Lf (nx + n) (l ++ nlf p nx n)
  | 0 => by simpa [nlf] using h
  | n + 1 => by
    have := (lf_nlf (p := p) h n).snoc (kyS (wkS p n)).2
    rw [List.append_assoc] at this
    exact this
/-- Where goOn stands. -/
structure GO (w : World × List Nat) (W : World) (c b : Nat) (sv : Value) (mb lm : Nat) (L : List Tm) (l : Lfs) (nx x q1 q2 lb M y : Nat) (a : Option Addr) (cap : Nat) (ks : List Nat) : Prop where
  st : St W b sv mb L
  blk : W.heap[c]? = some (.cells (chC b lm nx x) 39 (0, 0))
  map : IMap W lm l
  ap : lm ∉ foot b sv mb
  mv : Mv w.1 W w.2 (c :: lm :: foot b sv mb)
  b1 : W.heap[q1]? = some (.cells #[.pointer (some ⟨c, 0, none⟩)] 28 (0, 0))
  b2 : W.heap[q2]? = some (.cells #[.int .i64 (M : Int)] 3 (0, 0))
  b3 : W.heap[lb]? = some (.cells (strC (.slice a M cap) y) 130 (0, 0))
  row : NRow 0 W (.slice a M cap) ks
section
variable {w : World × List Nat} {W W' : World} {c b : Nat} {sv : Value} {mb lm : Nat} {L : List Tm} {l l' : Lfs} {nx x q1 q2 lb M y : Nat} {a : Option Addr} {cap : Nat} {ks : List Nat}
theorem GO.drew (h : GO w W c b sv mb lm L l nx x q1 q2 lb M y a cap ks) : GO w W.drew c b sv mb lm L l nx x q1 q2 lb M y a cap ks :=
  ⟨h.st.bw (Below.refl _ _).drew, h.blk, h.map.keep rfl, h.ap, h.mv.more (Y := []) (Y' := []) ⟨Fr.ofBelow (Below.refl _ _).drew, by simp⟩ (by simp) (fun x hx => Or.inl hx), h.b1, h.b2, h.b3, h.row.keep (fun _ _ => rfl)⟩
theorem GO.cells (h : GO w W c b sv mb lm L l nx x q1 q2 lb M y a cap ks) : W.cell? ⟨q1, 0, none⟩ = some (.pointer (some ⟨c, 0, none⟩)) ∧ W.cell? ⟨c, 1, none⟩ = some (.map (some lm)) ∧ W.cell? ⟨c, 2, none⟩ = some (.int .i64 (nx : Int)) := ⟨blk_cell h.b1 rfl, blk_cell h.blk rfl, blk_cell h.blk rfl⟩
theorem GO.upd (h : GO w W c b sv mb lm L l nx x q1 q2 lb M y a cap ks) (hm : IMap W' lm l') (hg : W.grownBy W' (some lm)) : GO w W' c b sv mb lm L l' nx x q1 q2 lb M y a cap ks := by
  have f : Fr [lm] W W' := by simpa using Fr.ofGrown hg
  have hne : ∀ (k : Nat) (cs : Array Value) (t : TypeId), W.heap[k]? = some (.cells cs t (0, 0)) → W'.heap[k]? = some (.cells cs t (0, 0)) := fun k cs t e => by
    rw [f.block k (lt_of_blk e) (fun c => by
      simp at c; subst c
      obtain ⟨es, cl, e2⟩ := h.map.block
      rw [e] at e2; cases e2)]
    exact e
  exact ⟨h.st.keep f (fun k hk c => by simp at c; subst c; exact h.ap hk), hne _ _ _ h.blk, hm, h.ap, h.mv.more (Y' := [lm]) ⟨f, fun x hx => Or.inl hx⟩ (by simp) (fun x hx => Or.inl hx), hne _ _ _ h.b1, hne _ _ _ h.b2, hne _ _ _ h.b3, h.row.keep (fun k hk => by obtain ⟨cur, e⟩ := h.row.block hk; rw [hne _ _ _ e, e])⟩
theorem GO.poke (h : GO w W c b sv mb lm L l nx x q1 q2 lb M y a cap ks) (i : Nat) (v : Value) {nx' x' : Nat} (he : (chC b lm nx x).setIfInBounds i v = chC b lm nx' x') : GO w (W.setCell ⟨c, i, none⟩ v) c b sv mb lm L l nx' x' q1 q2 lb M y a cap ks := by
  have hne : ∀ (k : Nat) (cs : Array Value) (t : TypeId), W.heap[k]? = some (.cells cs t (0, 0)) → t ≠ 39 → (W.setCell ⟨c, i, none⟩ v).heap[k]? = some (.cells cs t (0, 0)) := fun k cs t e ht => by
    have : k ≠ c := fun q => by subst q; rw [h.blk] at e; injection e with e; injection e with _ e; exact ht e.symm
    exact poke_other e v (fun q => this q.symm)
  have hlm : lm ≠ c := fun q => by subst q; obtain ⟨es, cl, e⟩ := h.map.block; rw [h.blk] at e; cases e
  refine ⟨h.st.keep (S := [c]) ((Fr.refl _ _).setCell (a := ⟨c, i, none⟩) (Or.inr (by simp)) v) (fun k hk q => by simp at q; subst q; exact h.st.notin h.blk (by decide) (by decide) hk), by rw [← he]; exact poke_blk h.blk v, h.map.keep (Below.heap_setCell _ _ _ _ (by simp; exact hlm)), h.ap, h.mv.more (Y := [c]) (Y' := [c]) ⟨(Fr.refl _ _).setCell (a := ⟨c, i, none⟩) (Or.inr (by simp)) v, fun x hx => Or.inl hx⟩ (by simp) (fun x hx => Or.inl hx), hne _ _ _ h.b1 (by decide), hne _ _ _ h.b2 (by decide), hne _ _ _ h.b3 (by decide), h.row.keep (fun k hk => ?_)⟩
  obtain ⟨cur, e⟩ := h.row.block hk
  rw [hne _ _ _ e (by decide), e]
theorem GO.cs (h : GO w W c b sv mb lm L l nx x q1 q2 lb M y a cap ks) (hl : Lf nx l) : CS w W c b sv mb lm L l nx x := ⟨h.st, ⟨h.blk, h.map, hl⟩, h.ap, h.mv⟩
end
end Go.Proofs.YtkaioidneknmjaaGreatDoor.Tn

/- The contract of goOn. -/
namespace Go.Proofs.YtkaioidneknmjaaGreatDoor.Tn
open Go.RowKit Go.Maps

/-- The chain's store has taken a step: what is so then. -/
theorem CS.go {w : World × List Nat} {W W1 z : World} {c b : Nat} {sv : Value} {mb lm : Nat} {L : List Tm} {l : Lfs} {nx x q1 q2 lb M y : Nat} {a : Option Addr} {cap : Nat} (h : CS w W c b sv mb lm L l nx x) (hb : Below W.heap.size W W1)
    (k1 : W1.heap[q1]? = some (.cells #[.pointer (some ⟨c, 0, none⟩)] 28 (0, 0))) (k2 : W1.heap[q2]? = some (.cells #[.int .i64 (M : Int)] 3 (0, 0)))
    (s : StrP W1 z b sv mb (L, x) M a cap) (k3 : z.heap[lb]? = some (.cells (strC (.slice a M cap) y) 130 (0, 0))) : ∃ sv', GO w z c b sv' mb lm (wkS (L, x) M).1 l nx x q1 q2 lb M y a cap (wkK (L, x) M) := by
  obtain ⟨sv', s1, r⟩ := s
  have h0 := h.new hb
  have h1 := h0.stepS s1
  have b1 := kept_fr k1 h0.st s1.fr (by decide) (by decide)
  have b2 := kept_fr k2 h0.st s1.fr (by decide) (by decide)
  exact ⟨sv', ⟨h1.st, h1.cn.blk, h1.cn.map, h1.ap, h1.mv, b1, b2, k3, own_monoT r (Nat.zero_le _)⟩⟩
theorem StrP.alloc {w w' : World} {b : Nat} {sv : Value} {mb : Nat} {p : List Tm × Nat} {n : Nat} {a : Option Addr} {cap : Nat} (h : StrP w w' b sv mb p n a cap) (o : Obj) : StrP w (w'.alloc o) b sv mb p n a cap := by
  obtain ⟨sv', s, r⟩ := h
  exact ⟨sv', s.after (bwA' _ _), r.keep (fun k hk => Below.heap_alloc _ _ _ (r.lt k hk).2)⟩
theorem StrP.D {w w' : World} {b : Nat} {sv : Value} {mb : Nat} {p : List Tm × Nat} {n : Nat} {a : Option Addr} {cap : Nat} {L : List Tm} (h : StrP w w' b sv mb p n a cap) (hs : St w b sv mb L) {c q1 q2 lm nx x M : Nat}
    (k1 : w.heap[q1]? = some (.cells #[.pointer (some ⟨c, 0, none⟩)] 28 (0, 0))) (k2 : w.heap[q2]? = some (.cells #[.int .i64 (M : Int)] 3 (0, 0))) (k3 : w.heap[c]? = some (.cells (chC b lm nx x) 39 (0, 0))) :
    w'.cell? ⟨q1, 0, none⟩ = some (.pointer (some ⟨c, 0, none⟩)) ∧ w'.cell? ⟨c, 0, none⟩ = some (.pointer (some ⟨b, 0, none⟩)) ∧ w'.cell? ⟨q2, 0, none⟩ = some (.int .i64 (M : Int)) :=
  ⟨blk_cell (h.kept hs k1 (by decide) (by decide)) rfl, blk_cell (h.kept hs k3 (by decide) (by decide)) rfl, blk_cell (h.kept hs k2 (by decide) (by decide)) rfl⟩
theorem cell_al {z : World} {o : Obj} {ad : Addr} {v : Value} (h : z.cell? ad = some v) (hl : ad.block < z.heap.size) : (z.alloc o).cell? ad = some v := (World.cell?_of_block (Below.heap_alloc _ _ _ hl)).trans h
set_option maxRecDepth 100000 in
set_option maxHeartbeats 8000000 in
theorem goOn_any {w : World × List Nat} {W : World} {c b : Nat} {sv : Value} {mb lm : Nat} {L : List Tm} {l : Lfs} {nx x : Nat} (h : CS w W c b sv mb lm L l nx x) (hg : Gd (L, x)) (d : Nat) (hd : d ≤ 64) (hnx : nx ≤ 1000000000) (hL : L.length + 200 ≤ 1048575) (hll : l.length ≤ 100) :
    Calls Tryz.prog 28 #[.pointer (some ⟨c, 0, none⟩), .int .i64 ((nx + d : Nat) : Int)] W fun e W' => e = .returned (.tuple #[.int .i64 ((kyS (wkS (L, x) d)).2 : Nat), .int .i64 0]) ∧ ∃ sv', CS w W' c b sv' mb lm (wkS (L, x) (d + 1)).1 (l ++ nlf (L, x) nx d) (nx + d + 1) (wkS (L, x) (d + 1)).2 := by
  obtain ⟨M, hM⟩ : ∃ M, M = d + 1 := ⟨_, rfl⟩
  obtain ⟨W0, hW0⟩ : ∃ W0, W0 = (W.alloc (.cells #[.pointer (some ⟨c, 0, none⟩)] 28)).alloc (.cells #[.int .i64 (M : Int)] 3) := ⟨_, rfl⟩
  obtain ⟨y1, y2, x0⟩ := blk2c W (.cells #[.pointer (some ⟨c, 0, none⟩)] 28) (.cells #[.int .i64 (M : Int)] 3)
  rw [← hW0] at y1 y2 x0
  obtain ⟨q1, hq1⟩ : ∃ q, q = W.heap.size := ⟨_, rfl⟩
  obtain ⟨q2, hq2⟩ : ∃ q, q = W.heap.size + 1 := ⟨_, rfl⟩
  rw [← hq1] at y1
  rw [← hq2] at y2
  obtain ⟨Y, hY⟩ : ∃ Y : Nat, Y = (wkS (L, x) M).2 := ⟨_, rfl⟩
  have C0 : Hid (∀ W1, Below W0.heap.size W0 W1 → CS w W1 c b sv mb lm L l nx x ∧ W1.heap[q1]? = some (.cells #[.pointer (some ⟨c, 0, none⟩)] 28 (0, 0)) ∧ W1.heap[q2]? = some (.cells #[.int .i64 (M : Int)] 3 (0, 0)) ∧ Below W.heap.size W W1) := fun W1 hb => ⟨h.new (bw_tr x0 hb), kept_blk y1 hb, kept_blk y2 hb, bw_tr x0 hb⟩
  have KA : Hid (∀ W1, Below W0.heap.size W0 W1 → Calls Tryz.prog 145 #[.pointer (some ⟨b, 0, none⟩), .int .i64 (2 * (M : Int)), .func (.func 146) #[] #[.pointer (some ⟨q1, 0, none⟩), .pointer (some ⟨q2, 0, none⟩)]] W1 fun e w' => ∃ a cap, e = .returned (.tuple #[.agg #[.slice a M cap, .int .i64 (Y : Nat)], .int .i64 0]) ∧ StrP W0 w' b sv mb (L, x) M a cap ∧ ∀ (k : Nat) (cs : Array Value), W1.heap[k]? = some (.cells cs 130 (0, 0)) → w'.heap[k]? = some (.cells cs 130 (0, 0))) := fun W1 hb1 => by
    obtain ⟨c1, k1, k2, -⟩ := unhide C0 W1 hb1
    obtain ⟨c0, -⟩ := unhide C0 W0 (Below.refl _ _)
    rw [hY]
    refine (aonT (L, x) M c1.st (2 * (M : Int)) (by omega) (by simp only; omega) q1 q2 (fun W' hb => go1_any (L, x) M (c1.st.bw hb) hg (by omega) (by simp only; omega) q1 q2 c lm nx (kept_blk k1 hb) (kept_blk c1.cn.blk hb) (kept_blk k2 hb))).mono ?_
    rintro e w' ⟨a, cap, h1, h2⟩
    exact ⟨a, cap, h1, h2.later (SStep.same c0.st hb1) hb1.size, fun k cs e => h2.kept c1.st e (by decide) (by decide)⟩
  have HG : Hid (∀ z a cap lb, StrP W0 z b sv mb (L, x) M a cap → z.heap[lb]? = some (.cells #[.slice a M cap, .int .i64 (Y : Int)] 130 (0, 0)) → ∃ sv', GO w z c b sv' mb lm (wkS (L, x) M).1 (l ++ nlf (L, x) nx 0) nx x q1 q2 lb M Y a cap (wkK (L, x) M)) := fun z a cap lb s k3 => by
    obtain ⟨-, k1, k2, hW1⟩ := unhide C0 W0 (Below.refl _ _)
    have := h.go hW1 k1 k2 s k3
    rw [show l ++ nlf (L, x) nx 0 = l by simp [nlf]]
    exact this
  have HD : Hid (∀ z a cap, StrP W0 z b sv mb (L, x) M a cap → z.cell? ⟨q1, 0, none⟩ = some (.pointer (some ⟨c, 0, none⟩)) ∧ z.cell? ⟨c, 0, none⟩ = some (.pointer (some ⟨b, 0, none⟩)) ∧ z.cell? ⟨q2, 0, none⟩ = some (.int .i64 (M : Int))) := fun z a cap s => by
    obtain ⟨c1, k1, k2, -⟩ := unhide C0 W0 (Below.refl _ _)
    exact s.D c1.st k1 k2 c1.cn.blk
  have DD : Hid (∀ W1, Below W0.heap.size W0 W1 → W1.cell? ⟨q1, 0, none⟩ = some (.pointer (some ⟨c, 0, none⟩)) ∧ W1.cell? ⟨c, 0, none⟩ = some (.pointer (some ⟨b, 0, none⟩)) ∧ W1.cell? ⟨q2, 0, none⟩ = some (.int .i64 (M : Int))) := fun W1 hb => by
    obtain ⟨c1, k1, k2, -⟩ := unhide C0 W1 hb
    exact ⟨blk_cell k1 rfl, c1.cn.cells.1, blk_cell k2 rfl⟩
  have bA : Below W0.heap.size W0 W0.drew := (Below.refl _ _).drew
  have bB : Below W0.heap.size W0 (W0.alloc (.cells #[.slice none 0 0, .int .i64 0] 130)).drew := (bwA' _ _).drew
  have kB : (W0.alloc (.cells #[.slice none 0 0, .int .i64 0] 130)).drew.heap[W0.heap.size]? = some (.cells #[.slice none 0 0, .int .i64 0] 130 (0, 0)) := heap_alloc_new W0 _
  have D00 := unhide DD W0 (Below.refl _ _)
  have D0 := unhide DD _ bA
  have D0b := unhide DD _ bB
  have hsB : Hid (W0.heap.size ≤ W0.heap.size) := Nat.le_refl _
  have cW : (W.alloc (.cells #[.pointer (some ⟨c, 0, none⟩)] 28)).cell? ⟨c, 2, none⟩ = some (.int .i64 (nx : Int)) := cell_al h.cn.cells.2.2.1 (lt_of_blk h.cn.blk)
  have HLF := hide (And.intro h.cn.lf (And.intro hM (And.intro hll hY)))
  obtain ⟨n, hn⟩ : ∃ n, n = nx + d := ⟨_, rfl⟩
  rw [← hn]
  have e1 : (n : Int) - (nx : Int) = (d : Int) := by omega
  have e2 : (d : Int) + 1 = (M : Int) := by omega
  have e3 : (M : Int) - 1 = (d : Int) := by omega
  have e4 : (d : Int) ≤ 64 := by omega
  have e5 : (nx : Int) ≤ 1000000000 := by omega
  have e6 : (n : Int) ≤ 1000000064 := by omega
  have e7 : (0 : Int) ≤ (n : Int) := by omega
  have HW := hide (And.intro hW0 (And.intro hq1 hq2))
  have HNN := hide hn
  clear h hg hd hnx hL hll hM hW0 y1 y2 x0 hq1 hq2 C0 hn hY
  go_enter Tryz.func28, Tryz.ntmps28
  go_upto_region 2 with fail
  rw [← (unhide HW).1, ← (unhide HW).2.2, ← (unhide HW).2.1]
  have hw2 : IntKind.i64.wrap (2 * (M : Int)) = 2 * (M : Int) := by rw [IntKind.wrap_i64]; omega
  clear cW
  go_cut [7, 8] from 18 to 28 (fun s7 s8 wx => ∃ lb a cap sv1, s7 = .pointer (some ⟨lb, 0, none⟩) ∧ s8 = .int .i64 0 ∧ Hid (GO w wx c b sv1 mb lm (wkS (L, x) M).1 (l ++ nlf (L, x) nx 0) nx x q1 q2 lb M Y a cap (wkK (L, x) M)))
  case first =>
    first
    | go_region_held3 (fun w' : World => w'.cell? ⟨q1, 0, none⟩ = some (.pointer (some ⟨c, 0, none⟩)) ∧ w'.cell? ⟨c, 0, none⟩ = some (.pointer (some ⟨b, 0, none⟩)) ∧ w'.cell? ⟨q2, 0, none⟩ = some (.int .i64 (M : Int))) (first | with_reducible exact D00 | with_reducible exact D0 | with_reducible exact D0b | with_reducible exact D1 | with_reducible exact D2 | with_reducible exact D3) (first
        | (go_at_call 145; first
          | (with_reducible refine (unhide KA _ bA).mono ?_; rintro e z1 ⟨a, cap, rfl, s1, -⟩; have D1 := unhide HD _ _ _ s1; have s2 := s1.alloc (.cells #[.slice a M cap, .int .i64 (Y : Int)] 130); have D2 := unhide HD _ _ _ s2; have D3 := unhide HD _ _ _ (s1.alloc (.cells #[.slice none 0 0, .int .i64 0] 130)); obtain ⟨sv1, G1⟩ := unhide HG _ _ _ z1.heap.size s2 (heap_alloc_new _ _))
          | (with_reducible refine (unhide KA _ bB).mono ?_; rintro e z1 ⟨a, cap, rfl, s1, kp⟩; have D1 := unhide HD _ _ _ s1; have k1 := kp _ _ kB; obtain ⟨s2, k2, o2⟩ := s1.put k1 (unhide hsB) (.slice a M cap) (.int .i64 (Y : Int)); have f0 : z1.cell? ⟨W0.heap.size, 0, none⟩ = some (.slice none 0 0) := blk_cell k1 rfl; have f1 : z1.cell? ⟨W0.heap.size, 1, none⟩ = some (.int .i64 0) := blk_cell k1 rfl; have fz := fun j => blk_froz (i := j) k1; have D2 := unhide HD _ _ _ s2; obtain ⟨sv1, G1⟩ := unhide HG _ _ _ W0.heap.size s2 k2)
          | fail)
        | fail)
    | fail
    all_goals
      go_wp2_with fail
      go_meet
      case rel => exact ⟨_, a, cap, sv1, rfl, rfl, G1⟩
  case rest =>
  obtain ⟨lb, a, cap, sv1, rfl, rfl, HG1⟩ := hcut
  clear D00 D0 D0b bA bB kB KA HG HD DD hsB hw2 HW
  obtain ⟨g, cap', hae, hgl, hcap, -⟩ := own_open (unhide HG1).row (by rw [wkK_len, (unhide HLF).2.1]; omega)
  rw [wkK_len] at hae hcap
  simp only [Value.slice.injEq] at hae
  obtain ⟨ha1, -, ha2⟩ := hae
  subst ha1
  subst ha2
  have hdM : d ≤ M := by rw [(unhide HLF).2.1]; omega
  have l0 : wc.cell? ⟨lb, 0, none⟩ = some (.slice (some ⟨g, 0, none⟩) M cap) := blk_cell (unhide HG1).b3 rfl
  have m0 : wc.cell? ⟨q2, 0, none⟩ = some (.int .i64 (M : Int)) := blk_cell (unhide HG1).b2 rfl
  have hsl := slice_upto wc g M cap d hdM hcap
  have HGI : Hid (∀ i, i < M → ∀ W', NRow 0 W' (.slice (some ⟨g, 0, none⟩) M cap) (wkK (L, x) M) → W'.cell? ⟨g, i, none⟩ = some (.int .i64 ((kyS (wkS (L, x) i)).2 : Nat))) := fun i hi W' hr => hr.at rfl (wkK_get (L, x) M i hi)
  clear hgl hcap hdM
  obtain ⟨LL, hLL⟩ : ∃ LL, LL = (wkS (L, x) M).1 := ⟨_, rfl⟩
  rw [← hLL] at HG1
  have HLL := hide hLL
  clear hLL
  go_wp2_with fail
  go_loopw [38] (fun iv wr => ∃ i : Nat, iv = .int .i64 (i : Int) ∧ i ≤ d ∧ Hid (GO w wr c b sv1 mb lm LL (l ++ nlf (L, x) nx i) nx x q1 q2 lb M Y (some ⟨g, 0, none⟩) cap (wkK (L, x) M))) (fun iv _ => (d - intOf iv).toNat)
  case atStart => exact ⟨0, rfl, by omega, HG1⟩
  case round =>
    clear HG1 l0 m0 hsl
    obtain ⟨i, rfl, hi, HR⟩ := hrel
    by_cases hlt : i < d
    · obtain ⟨hlf, hM, hll, hY⟩ := unhide HLF
      have ck := unhide HGI i (by omega) wr (unhide HR).row
      obtain ⟨m, hm⟩ : ∃ m, m = nx + i := ⟨_, rfl⟩
      obtain ⟨k, hk⟩ : ∃ k : Nat, k = (kyS (wkS (L, x) i)).2 := ⟨_, rfl⟩
      rw [← hk] at ck
      have hG0 := (unhide HR).drew
      have hlfi := lf_nlf (p := (L, x)) hlf i
      obtain ⟨W4, r4, n4, g4⟩ := hG0.map.store (by rw [List.length_append, nlf_len]; omega) m k (fun p hp => by rw [hm]; exact hlfi.lt p hp) ⟨by omega, by omega⟩
      have hG4 := hG0.upd n4 g4
      rw [List.append_assoc, show nlf (L, x) nx i ++ [(m, k)] = nlf (L, x) nx (i + 1) by rw [hm, hk]; rfl] at hG4
      have HS0 : Hid (wr.cell? ⟨q1, 0, none⟩ = some (.pointer (some ⟨c, 0, none⟩)) ∧ wr.cell? ⟨c, 1, none⟩ = some (.map (some lm)) ∧ wr.cell? ⟨c, 2, none⟩ = some (.int .i64 (nx : Int))) := (unhide HR).cells
      have HS1 : Hid (wr.drew.cell? ⟨q1, 0, none⟩ = some (.pointer (some ⟨c, 0, none⟩)) ∧ wr.drew.cell? ⟨c, 1, none⟩ = some (.map (some lm)) ∧ wr.drew.cell? ⟨c, 2, none⟩ = some (.int .i64 (nx : Int))) := hG0.cells
      have HS4 : Hid (W4.cell? ⟨q1, 0, none⟩ = some (.pointer (some ⟨c, 0, none⟩)) ∧ W4.cell? ⟨c, 1, none⟩ = some (.map (some lm)) ∧ W4.cell? ⟨c, 2, none⟩ = some (.int .i64 (nx : Int))) := hG4.cells
      have HG4 := hide hG4
      have em : (nx : Int) + (i : Int) = (m : Int) := by omega
      have em2 : IntKind.i64.wrap ((nx : Int) + (i : Int)) = (m : Int) := by rw [IntKind.wrap_i64]; omega
      have em3 : IntKind.i64.wrap (m : Int) = (m : Int) := by rw [IntKind.wrap_i64]; omega
      have q1' : (i : Int) < (d : Int) := by omega
      have q0' : (0 : Int) ≤ (i : Int) := by omega
      have HMm := hide hm
      clear hm hk hlf hM hll hY hG0 hlfi n4 g4 hG4 HR HLF
      go_upto_region 8 with fail
      go_region_held3 (fun w' : World => w'.cell? ⟨q1, 0, none⟩ = some (.pointer (some ⟨c, 0, none⟩)) ∧ w'.cell? ⟨c, 1, none⟩ = some (.map (some lm)) ∧ w'.cell? ⟨c, 2, none⟩ = some (.int .i64 (nx : Int))) (first | exact unhide HS0 | exact unhide HS1 | exact unhide HS4) (fail)
      clear r4 HS0 HS1 HS4 em em2 em3 ck
      go_wp2_with fail
      go_roundw
      case rel => exact ⟨i + 1, by go_num, by omega, HG4⟩
      case measure => simp only [intOf]; omega
    · obtain rfl : i = d := by omega
      clear hlt hi
      obtain ⟨hlf, hM, -, hY⟩ := unhide HLF
      obtain ⟨n1, hn1⟩ : ∃ n1, n1 = n + 1 := ⟨_, rfl⟩
      have hG0 := (unhide HR).drew
      have hGa0 := (unhide HR).poke 2 (.int .i64 (n1 : Int)) (nx' := n1) (x' := x) rfl
      have hGa := hGa0.drew
      have hGab := (hGa0.poke 3 (.int .i64 (Y : Int)) (nx' := n1) (x' := Y) rfl).drew
      have hGb0 := (unhide HR).poke 3 (.int .i64 (Y : Int)) (nx' := nx) (x' := Y) rfl
      have hGb := hGb0.drew
      have hGba := (hGb0.poke 2 (.int .i64 (n1 : Int)) (nx' := n1) (x' := Y) rfl).drew
      have HS : Hid (∀ X0 NX0 W nx x, GO w W c b sv1 mb lm LL (l ++ nlf (L, X0) NX0 i) nx x q1 q2 lb M Y (some ⟨g, 0, none⟩) cap (wkK (L, X0) M) → W.cell? ⟨q1, 0, none⟩ = some (.pointer (some ⟨c, 0, none⟩)) ∧ W.cell? ⟨lb, 1, none⟩ = some (.int .i64 (Y : Int))) := fun _ _ W nx x h => ⟨blk_cell h.b1 rfl, blk_cell h.b3 rfl⟩
      have s0 := unhide HS _ _ _ _ _ (unhide HR)
      have s1 := unhide HS _ _ _ _ _ hG0
      have s2 := unhide HS _ _ _ _ _ hGa
      have s3 := unhide HS _ _ _ _ _ hGab
      have s4 := unhide HS _ _ _ _ _ hGb
      have s5 := unhide HS _ _ _ _ _ hGba
      have d2 : wr.drew.cell? ⟨c, 2, none⟩ = some (.int .i64 (nx : Int)) := blk_cell hG0.blk rfl
      have d3 : wr.drew.cell? ⟨c, 3, none⟩ = some (.int .i64 (x : Int)) := blk_cell hG0.blk rfl
      have d4 : (wr.setCell ⟨c, 2, none⟩ (.int .i64 (n1 : Int))).drew.cell? ⟨c, 3, none⟩ = some (.int .i64 (x : Int)) := blk_cell hGa.blk rfl
      have d5 : (wr.setCell ⟨c, 3, none⟩ (.int .i64 (Y : Int))).drew.cell? ⟨c, 2, none⟩ = some (.int .i64 (nx : Int)) := blk_cell hGb.blk rfl
      have f0 := fun j => blk_froz (i := j) hG0.blk
      have f1 := fun j => blk_froz (i := j) hGa.blk
      have f2 := fun j => blk_froz (i := j) hGb.blk
      have hn1e : (n : Int) + 1 = (n1 : Int) := by omega
      have hn1w : IntKind.i64.wrap (n1 : Int) = (n1 : Int) := by rw [IntKind.wrap_i64]; omega
      have HFin : Hid (∀ W, GO w W c b sv1 mb lm LL (l ++ nlf (L, x) nx i) n1 Y q1 q2 lb M Y (some ⟨g, 0, none⟩) cap (wkK (L, x) M) → (W.cell? ⟨lb, 0, none⟩ = some (.slice (some ⟨g, 0, none⟩) M cap) ∧ W.cell? ⟨q2, 0, none⟩ = some (.int .i64 (M : Int)) ∧ W.cell? ⟨g, i, none⟩ = some (.int .i64 ((kyS (wkS (L, x) i)).2 : Nat))) ∧ CS w W c b sv1 mb lm (wkS (L, x) (i + 1)).1 (l ++ nlf (L, x) nx i) (n + 1) (wkS (L, x) (i + 1)).2) := fun W hW => by
        refine ⟨⟨blk_cell hW.b3 rfl, blk_cell hW.b2 rfl, unhide HGI i (by omega) W hW.row⟩, ?_⟩
        have e1 : n1 = nx + i + 1 := by rw [hn1, unhide HNN]
        have hc := hW.cs (by rw [e1]; exact (lf_nlf (p := (L, x)) hlf i).mono (by omega))
        rw [hn1, hY, unhide HLL, hM] at hc
        exact hc
      have HA := hide hGab
      have HBb := hide hGba
      have hMi : (i : Int) < (M : Int) := by omega
      have hM65 : (M : Int) ≤ 65 := by omega
      have hi0 : (0 : Int) ≤ (i : Int) := by omega
      clear hlf hM hY hG0 hGa hGab hGb hGba hGa0 hGb0 HR HS hn1 HLF HGI HLL HNN
      go_upto_region 10 with fail
      go_cut [] from 55 to 64 (fun wx => Hid (GO w wx c b sv1 mb lm LL (l ++ nlf (L, x) nx i) n1 Y q1 q2 lb M Y (some ⟨g, 0, none⟩) cap (wkK (L, x) M)))
      case first =>
        go_region_held3 (fun w' : World => w'.cell? ⟨q1, 0, none⟩ = some (.pointer (some ⟨c, 0, none⟩)) ∧ w'.cell? ⟨lb, 1, none⟩ = some (.int .i64 (Y : Int))) (first | with_reducible exact s0 | with_reducible exact s1 | with_reducible exact s2 | with_reducible exact s3 | with_reducible exact s4 | with_reducible exact s5) (fail)
        all_goals
          go_wp2_with fail
          go_meet
          case rel => first | exact HA | exact HBb
      case rest =>
      obtain ⟨⟨c0, c1, c2⟩, hcs⟩ := unhide HFin _ (unhide hcut)
      have HCS := hide hcs
      clear hcs hcut HFin HA HBb s0 s1 s2 s3 s4 s5 d2 d3 d4 d5 f0 f1 f2
      obtain ⟨kk, hkk⟩ : ∃ kk : Nat, kk = (kyS (wkS (L, x) i)).2 := ⟨_, rfl⟩
      rw [← hkk] at c2
      have HKK := hide hkk
      clear hkk
      go_wp2
      go_ret2
      exact ⟨by rw [← unhide HKK]; rfl, sv1, unhide HCS⟩
end Go.Proofs.YtkaioidneknmjaaGreatDoor.Tn

/- The contracts of missing, Take and New. -/
namespace Go.Proofs.YtkaioidneknmjaaGreatDoor.Tn
open Go.RowKit Go.Maps

set_option maxRecDepth 100000 in
theorem chmissing_at (W : World) (c lm : Nat) (c1 : W.cell? ⟨c, 1, none⟩ = some (.map (some lm))) : Calls Tryz.prog 27 #[.pointer (some ⟨c, 0, none⟩)] W fun e W' => e = .returned (.bool false) ∧ W' = W := by
  have hq := fun (w : World) => run_eql_map_nil (P := Tryz.prog) w 37 3 3 (some lm) Tryz.underlying37
  go_enter Tryz.func27, Tryz.ntmps27
  go_wp2
  go_ret
  exact ⟨rfl, rfl⟩
set_option maxRecDepth 100000 in
theorem chmissing_nil (W : World) : Calls Tryz.prog 27 #[.pointer none] W fun e W' => e = .returned (.bool true) ∧ W' = W := by
  go_enter Tryz.func27, Tryz.ntmps27
  go_wp2
  go_ret
  exact ⟨rfl, rfl⟩
set_option maxRecDepth 100000 in
theorem chmissing_zero (W : World) (c : Nat) (c1 : W.cell? ⟨c, 1, none⟩ = some (.map none)) : Calls Tryz.prog 27 #[.pointer (some ⟨c, 0, none⟩)] W fun e W' => e = .returned (.bool true) ∧ W' = W := by
  have hq := fun (w : World) => run_eql_map_nil (P := Tryz.prog) w 37 3 3 none Tryz.underlying37
  go_enter Tryz.func27, Tryz.ntmps27
  go_wp2
  go_ret
  exact ⟨rfl, rfl⟩
/-- What Take answers, and what is left. -/
def tkE (l : Lfs) (nx : Nat) (n : Int) : Int := if n < 0 then 1 else if (lkp l n).isSome = true then 0 else if n < (nx : Int) then 10 else if 64 < n - nx + l.length then 3 else 0
/-- It goes on. -/
def tkG (l : Lfs) (nx : Nat) (n : Int) : Bool := decide (0 ≤ n) && !(lkp l n).isSome && decide ((nx : Int) ≤ n) && decide (n - nx + l.length ≤ 64)
structure Cst where
  L : List Tm
  l : Lfs
  nx : Nat
  x : Nat
def Cst.goes (s : Cst) (d : Nat) : Cst := ⟨(wkS (s.L, s.x) (d + 1)).1, s.l ++ nlf (s.L, s.x) s.nx d, s.nx + d + 1, (wkS (s.L, s.x) (d + 1)).2⟩
def Cst.take (s : Cst) (n : Int) : Cst :=
  if (decide (0 ≤ n) && (lkp s.l n).isSome) = true then { s with l := rmv s.l n } else if tkG s.l s.nx n = true then s.goes (n - s.nx).toNat else s
def Cst.ans (s : Cst) (n : Int) : Int :=
  if (decide (0 ≤ n) && (lkp s.l n).isSome) = true then lkV s.l n else if tkG s.l s.nx n = true then ((kyS (wkS (s.L, s.x) (n - s.nx).toNat)).2 : Nat) else 0
/-- A chain beside its store, as one thing. -/
def CC (w : World × List Nat) (W : World) (c b mb : Nat) (s : Cst) : Prop := ∃ sv lm, CS w W c b sv mb lm s.L s.l s.nx s.x
structure Cok (s : Cst) (m : Nat) : Prop where
  g : Gd (s.L, s.x)
  len : s.L.length ≤ m
  nx : s.nx ≤ m
  ll : s.l.length ≤ 64
  lf : Lf s.nx s.l
theorem CS.del {w : World × List Nat} {W W' : World} {c b : Nat} {sv : Value} {mb lm : Nat} {L : List Tm} {l l' : Lfs} {nx x : Nat} (h : CS w W c b sv mb lm L l nx x) (hm : IMap W' lm l') (hl : Lf nx l') (hg : W.grownBy W' (some lm)) : CS w W' c b sv mb lm L l' nx x := by
  have f : Fr [lm] W W' := by simpa using Fr.ofGrown hg
  refine ⟨h.st.keep f (fun k hk q => by simp at q; subst q; exact h.ap hk), ⟨?_, hm, hl⟩, h.ap, h.mv.more (Y' := [lm]) ⟨f, fun x hx => Or.inl hx⟩ (by simp) (fun x hx => Or.inl hx)⟩
  rw [f.block c (lt_of_blk h.cn.blk) (by simp; exact h.cn.ne)]
  exact h.cn.blk
set_option maxRecDepth 100000 in
set_option maxHeartbeats 8000000 in
theorem take_any {w : World × List Nat} {W : World} {c b mb : Nat} {s : Cst} (h : CC w W c b mb s) (hk : Cok s 1000000) (n : Int) (hn : i64r n) :
    Calls Tryz.prog 7 #[.pointer (some ⟨c, 0, none⟩), .int .i64 n] W fun e W' => e = .returned (.tuple #[.int .i64 (s.ans n), .int .i64 (tkE s.l s.nx n)]) ∧ CC w W' c b mb (s.take n) := by
  obtain ⟨sv, lm, hc⟩ := h
  obtain ⟨c0, c1, c2, c3⟩ := hc.cn.cells
  have KM := hide (chmissing_at W c lm c1)
  obtain ⟨A, hA⟩ : ∃ A, A = s.ans n := ⟨_, rfl⟩
  obtain ⟨E, hE⟩ : ∃ E, E = tkE s.l s.nx n := ⟨_, rfl⟩
  obtain ⟨s', hs'⟩ : ∃ s', s' = s.take n := ⟨_, rfl⟩
  rw [← hA, ← hE, ← hs']
  unfold Cst.ans at hA
  unfold tkE at hE
  unfold Cst.take at hs'
  by_cases n0 : n < 0
  · have q : decide (0 ≤ n) = false := decide_eq_false (by omega)
    have q2 : tkG s.l s.nx n = false := by unfold tkG; rw [q]; rfl
    rw [q, q2] at hA hs'
    rw [if_pos n0] at hE
    simp only [Bool.false_and, Bool.false_eq_true, if_false] at hA hs'
    subst hA
    subst hE
    have HF : Hid (CC w W c b mb s') := by rw [hs']; exact ⟨sv, lm, hc⟩
    clear hc hs' hk q q2 c0 c1 c2 c3
    go_enter Tryz.func7, Tryz.ntmps7
    go_wp2_with fail
    refine (unhide KM).mono ?_
    rintro e W1 ⟨rfl, rfl⟩
    clear KM
    go_wp2
    go_ret2
    exact ⟨rfl, unhide HF⟩
  have n0' : decide (n < 0) = false := decide_eq_false n0
  have q : decide (0 ≤ n) = true := decide_eq_true (by omega)
  rw [if_neg n0] at hE
  have lk := hc.cn.map.lookOk hn
  cases hsome : (lkp s.l n).isSome
  · rw [q, hsome] at hA hs'
    rw [hsome] at hE
    rw [hsome] at lk
    simp only [Bool.and_false, Bool.false_eq_true, if_false] at hA hs' hE
    by_cases n1 : n < (s.nx : Int)
    · have q2 : tkG s.l s.nx n = false := by unfold tkG; rw [decide_eq_false (show ¬ (s.nx : Int) ≤ n by omega)]; simp
      rw [q2] at hA hs'
      rw [if_pos n1] at hE
      simp only [Bool.false_eq_true, if_false] at hA hs'
      subst hA
      subst hE
      have HF : Hid (CC w W c b mb s') := by rw [hs']; exact ⟨sv, lm, hc⟩
      clear hc hs' hk q q2 hsome
      generalize s.nx = nx at *
      generalize lkV s.l n = vv at *
      go_enter Tryz.func7, Tryz.ntmps7
      go_wp2_with fail
      refine (unhide KM).mono ?_
      rintro e W1 ⟨rfl, rfl⟩
      clear KM
      go_wp2
      go_ret2
      exact ⟨rfl, unhide HF⟩
    · have n1' : decide (n < (s.nx : Int)) = false := decide_eq_false n1
      rw [if_neg n1] at hE
      obtain ⟨R, hR⟩ : ∃ R : Int, R = 64 - (s.l.length : Int) := ⟨_, rfl⟩
      obtain ⟨D, hD⟩ : ∃ D : Int, D = n - (s.nx : Int) := ⟨_, rfl⟩
      have hln : ∀ ty, (Builtin.len_ #[37] ty #[.map (some lm)]).run Tryz.prog W.drew = .ok (.int .i64 (s.l.length : Nat)) W.drew := fun ty => (hc.cn.map.keep (w' := W.drew) rfl).len ty
      have c2d : W.drew.cell? ⟨c, 2, none⟩ = some (.int .i64 (s.nx : Int)) := c2
      have c1d : W.drew.cell? ⟨c, 1, none⟩ = some (.map (some lm)) := c1
      have D0 : W.cell? ⟨c, 2, none⟩ = some (.int .i64 (s.nx : Int)) ∧ W.cell? ⟨c, 1, none⟩ = some (.map (some lm)) := ⟨c2, c1⟩
      have D1 : W.drew.cell? ⟨c, 2, none⟩ = some (.int .i64 (s.nx : Int)) ∧ W.drew.cell? ⟨c, 1, none⟩ = some (.map (some lm)) := D0
      have DL : Hid (∀ W', (W' = W ∨ W' = W.drew) → W'.cell? ⟨c, 2, none⟩ = some (.int .i64 (s.nx : Int)) ∧ W'.cell? ⟨c, 1, none⟩ = some (.map (some lm)) ∧ ∀ ty, (Builtin.len_ #[37] ty #[.map (some lm)]).run Tryz.prog W' = .ok (.int .i64 (s.l.length : Nat)) W') := fun W' h => by rcases h with rfl | rfl; exact ⟨c2, c1, fun ty => hc.cn.map.len ty⟩; exact ⟨c2, c1, fun ty => (hc.cn.map.keep (w' := W.drew) rfl).len ty⟩
      have DL0 := unhide DL W (Or.inl rfl)
      have DL1 := unhide DL W.drew (Or.inr rfl)
      have hll := hk.ll
      have hnx := hk.nx
      have hn1 := hn.1
      have hn2 := hn.2
      have w1 : n - (s.nx : Int) = D := hD.symm
      have w2 : IntKind.i64.wrap D = D := by rw [IntKind.wrap_i64]; omega
      have w3 : (64 : Int) - (s.l.length : Int) = R := hR.symm
      have w4 : IntKind.i64.wrap R = R := by rw [IntKind.wrap_i64]; omega
      have hnN : (0 : Int) ≤ (s.nx : Int) := by omega
      by_cases hbig : R < D
      · have q2 : tkG s.l s.nx n = false := by unfold tkG; rw [decide_eq_false (show ¬ n - (s.nx : Int) + (s.l.length : Int) ≤ 64 by omega)]; simp
        rw [q2] at hA hs'
        rw [if_pos (by omega)] at hE
        simp only [Bool.false_eq_true, if_false] at hA hs'
        subst hA
        subst hE
        have HF : Hid (∀ W', Below W.heap.size W W' → CC w W' c b mb s') := fun W' hb => by rw [hs']; exact ⟨sv, lm, hc.new hb⟩
        have hb' : decide (R < D) = true := decide_eq_true hbig
        clear DL
        clear hc hs' hk q q2 hsome hD hR hn hll hn1 hn2
        generalize s.nx = nx at *
        generalize s.l.length = ll at *
        generalize lkV s.l n = vv at *
        go_enter Tryz.func7, Tryz.ntmps7
        go_wp2_with fail
        refine (unhide KM).mono ?_
        rintro e W1 ⟨rfl, rfl⟩
        clear KM
        go_wp2_with fail
        go_region_held3 (fun w' : World => w'.cell? ⟨c, 2, none⟩ = some (.int .i64 (nx : Int)) ∧ w'.cell? ⟨c, 1, none⟩ = some (.map (some lm)) ∧ ∀ ty, (Builtin.len_ #[37] ty #[.map (some lm)]).run Tryz.prog w' = .ok (.int .i64 (ll : Nat)) w') (first | with_reducible exact DL0 | with_reducible exact DL1) (fail)
        go_wp2
        go_ret2
        exact ⟨rfl, unhide HF _ (Below.refl _ _).drew⟩
      · have q2 : tkG s.l s.nx n = true := by unfold tkG; rw [q, hsome, decide_eq_true (show (s.nx : Int) ≤ n by omega), decide_eq_true (show n - (s.nx : Int) + (s.l.length : Int) ≤ 64 by omega)]; rfl
        obtain ⟨d, hd⟩ : ∃ d : Nat, d = (n - (s.nx : Int)).toNat := ⟨_, rfl⟩
        rw [q2, ← hd] at hA hs'
        rw [if_neg (by omega)] at hE
        simp only [if_true] at hA hs'
        have hnd : ((s.nx + d : Nat) : Int) = n := by omega
        have HG : Hid (∀ W', Below W.heap.size W W' → Calls Tryz.prog 28 #[.pointer (some ⟨c, 0, none⟩), .int .i64 n] W' fun e W2 => e = .returned (.tuple #[.int .i64 A, .int .i64 0]) ∧ ∃ sv', CS w W2 c b sv' mb lm (wkS (s.L, s.x) (d + 1)).1 (s.l ++ nlf (s.L, s.x) s.nx d) (s.nx + d + 1) (wkS (s.L, s.x) (d + 1)).2) := fun W' hb => by
          have KG := goOn_any (hc.new hb) hk.g d (by omega) (by omega) (by have := hk.len; omega) (by omega)
          rw [hnd, ← hA] at KG
          exact KG
        subst hE
        have HF : Hid (∀ W' sv', CS w W' c b sv' mb lm (wkS (s.L, s.x) (d + 1)).1 (s.l ++ nlf (s.L, s.x) s.nx d) (s.nx + d + 1) (wkS (s.L, s.x) (d + 1)).2 → CC w W' c b mb s') := fun W' sv' h => by rw [hs']; exact ⟨sv', lm, h⟩
        have hb' : decide (R < D) = false := decide_eq_false hbig
        clear DL
        clear hc hs' hk q q2 hsome hD hR hn hll hn1 hn2 hA hnd hd
        obtain ⟨nx, hnx2⟩ : ∃ nx, nx = s.nx := ⟨_, rfl⟩
        rw [← hnx2] at c2 c2d D0 D1 DL0 DL1 w1 hnN n1 n1' hnx
        clear hnx2
        generalize s.l.length = ll at hln w3 DL0 DL1
        generalize lkV s.l n = vv at lk
        go_enter Tryz.func7, Tryz.ntmps7
        go_wp2_with fail
        refine (unhide KM).mono ?_
        rintro e W1 ⟨rfl, rfl⟩
        clear KM
        go_wp2_with fail
        go_region_held3 (fun w' : World => w'.cell? ⟨c, 2, none⟩ = some (.int .i64 (nx : Int)) ∧ w'.cell? ⟨c, 1, none⟩ = some (.map (some lm)) ∧ ∀ ty, (Builtin.len_ #[37] ty #[.map (some lm)]).run Tryz.prog w' = .ok (.int .i64 (ll : Nat)) w') (first | with_reducible exact DL0 | with_reducible exact DL1) (fail)
        go_wp2_with fail
        refine (unhide HG _ (Below.refl _ _).drew).mono ?_
        rintro e W2 ⟨rfl, sv2, s2⟩
        have HF2 := hide (unhide HF W2 sv2 s2)
        clear HF HG s2
        go_wp2
        go_ret2
        exact ⟨rfl, unhide HF2⟩
  · rw [q, hsome] at hA hs'
    rw [hsome] at hE lk
    simp only [Bool.and_true, if_true] at hA hs' hE
    obtain ⟨W2, r2, m2, g2⟩ := hc.cn.map.drop hc.cn.lf n hn 0
    have HF : Hid (CC w W2 c b mb s') := by rw [hs']; exact ⟨sv, lm, hc.del m2 (hc.cn.lf.rmv n) g2⟩
    rw [← hA] at lk
    subst hE
    clear hc hs' hk q hsome m2 g2 hA
    go_enter Tryz.func7, Tryz.ntmps7
    go_wp2_with fail
    refine (unhide KM).mono ?_
    rintro e W1 ⟨rfl, rfl⟩
    clear KM
    go_wp2
    go_ret2
    exact ⟨rfl, unhide HF⟩
end Go.Proofs.YtkaioidneknmjaaGreatDoor.Tn
