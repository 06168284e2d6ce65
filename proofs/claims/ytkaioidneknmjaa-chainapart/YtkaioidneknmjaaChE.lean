/- The contracts of AllOrNone of a stretch and of goOn. -/
import Derived.Test.YtkaioidneknmjaaChD
import Derived.Test.YtkaioidneknmjaaNTmE
namespace Go.Proofs.Ytkaioidneknmjaa.Tn
open Go.RowKit Go.Maps

set_option maxRecDepth 100000 in
set_option maxHeartbeats 4000000 in
theorem aonT {b : Nat} {sv : Value} {mb : Nat} {w : World} (p : List Tm × Nat) (n : Nat) (h : St w b sv mb p.1) (m : Int) (hm : 0 ≤ m) (hl : (p.1.length : Int) + m ≤ 1048575) (p1 p2 : Nat)
    (K : ∀ W, Below w.heap.size w W → Calls Try.prog 51 #[.func (.func 19) #[.pointer (some ⟨b, 0, none⟩)] #[], .pointer (some ⟨p1, 0, none⟩), .pointer (some ⟨p2, 0, none⟩)] W fun e w' => ∃ a cap, e = .returned (.tuple #[.agg #[.slice a n cap, .int .i64 ((wkS p n).2 : Nat)], .int .i64 0]) ∧ StrP W w' b sv mb p n a cap) :
    Calls Try.prog 50 #[.pointer (some ⟨b, 0, none⟩), .int .i64 m, .func (.func 51) #[] #[.pointer (some ⟨p1, 0, none⟩), .pointer (some ⟨p2, 0, none⟩)]] w fun e w' => ∃ a cap, e = .returned (.tuple #[.agg #[.slice a n cap, .int .i64 ((wkS p n).2 : Nat)], .int .i64 0]) ∧ StrP w w' b sv mb p n a cap := by
  obtain ⟨w0, hw0⟩ : ∃ w0, w0 = w.alloc (.cells #[.slice none 0 0, .int .i64 0] 95) := ⟨_, rfl⟩
  have x0 : Below w.heap.size w w0 := by rw [hw0]; exact bwA' _ _
  have r0 : w0.heap[w.heap.size]? = some (.cells #[.slice none 0 0, .int .i64 0] 95 (0, 0)) := by rw [hw0]; exact heap_alloc_new _ _
  have HW := hide hw0
  have S0 : Hid (SStep w w0 b sv sv mb p.1) := SStep.same h x0
  have KL := hide (len_any b sv mb p.1 w0 (unhide S0).st)
  have KF := hide (K w0 x0)
  have HX := hide x0.size
  obtain ⟨N, hN⟩ : ∃ N : Int, N = (p.1.length : Int) := ⟨_, rfl⟩
  rw [← hN] at KL
  obtain ⟨R, hR⟩ : ∃ R : Int, R = 1048576 - N := ⟨_, rfl⟩
  have q0 : (1048576 : Int) - N = R := hR.symm
  have q1 : IntKind.i64.wrap R = R := by rw [IntKind.wrap_i64]; omega
  have q2 : 0 < R := by omega
  have q3 : decide (R < m) = false := decide_eq_false (by omega)
  have q4 : m ≤ R := by omega
  clear h hl hw0 x0 hN hR K hm
  generalize (wkS p n).2 = y at *
  go_enter Try.func50, Try.ntmps50
  go_wp2_with fail
  rw [← unhide HW]
  refine (unhide KL).mono ?_
  rintro e w0 ⟨rfl, rfl⟩
  clear KL HW
  go_wp2_with fail
  refine (unhide KF).mono ?_
  rintro e w4 ⟨a, cap, rfl, s4⟩
  have r4 := s4.kept (unhide S0).st r0 (by decide) (by decide)
  have HT := hide ((s4.later (unhide S0) (unhide HX)).put r4 (Nat.le_refl _) (.slice a n cap) (.int .i64 (y : Nat)))
  have h0 : w4.cell? ⟨w.heap.size, 0, none⟩ = some (.slice none 0 0) := blk_cell r4 rfl
  have h1 : w4.cell? ⟨w.heap.size, 1, none⟩ = some (.int .i64 0) := blk_cell r4 rfl
  have hf := fun j => blk_froz (i := j) r4
  clear s4 KF q0 q1 q2 q3 q4 r0 r4 S0
  go_wp2_with fail
  obtain ⟨T2, rb2, o2⟩ := unhide HT
  generalize (w4.setCell ⟨w.heap.size, 0, none⟩ (.slice a n cap)).setCell ⟨w.heap.size, 1, none⟩ (.int .i64 (y : Nat)) = V at T2 rb2 o2 ⊢
  have g0 := blk_cell (i := 0) rb2 rfl
  have g1 := blk_cell (i := 1) rb2 rfl
  have HT2 := hide T2
  clear T2 rb2 o2 HT h0 h1 hf
  exact bodyPost_ret (v := .tuple #[.agg #[.slice a n cap, .int .i64 (y : Int)], .int .i64 0]) (by simp [results, Try.results50, go_sem, g0, g1]) rfl ⟨a, cap, rfl, unhide HT2⟩

/-! Keys that are left by a step. -/
def nlf (p : List Tm × Nat) (nx : Nat) : Nat → Lfs
  | 0 => []
  | n + 1 => nlf p nx n ++ [(nx + n, (kyS (wkS p n)).2)]
theorem nlf_len (p : List Tm × Nat) (nx : Nat) : ∀ n, (nlf p nx n).length = n
  | 0 => rfl
  | n + 1 => by simp [nlf, nlf_len p nx n]
theorem wkK_get (p : List Tm × Nat) : ∀ (m i : Nat), i < m → (wkK p m)[i]? = some (kyS (wkS p i)).2
  | 0, i, h => by omega
  | m + 1, i, h => by
    have hl := wkK_len p m
    show (wkK p m ++ [_])[i]? = _
    by_cases c : i < m
    · rw [List.getElem?_append_left (by omega)]; exact wkK_get p m i c
    · obtain rfl : i = m := by omega
      rw [List.getElem?_append_right (by omega), hl]; simp
theorem lf_nlf {p : List Tm × Nat} {nx : Nat} {l : Lfs} (h : Lf nx l) : ∀ n, Lf (nx + n) (l ++ nlf p nx n)
  | 0 => by simpa [nlf] using h
  | n + 1 => by
    have := (lf_nlf (p := p) h n).snoc (kyS (wkS p n)).2
    rw [List.append_assoc] at this
    exact this
/-- Where goOn stands. -/
structure GO (w : World × List Nat) (W : World) (c b : Nat) (sv : Value) (mb lm : Nat) (L : List Tm) (l : Lfs) (nx x q1 q2 lb M y : Nat) (a : Option Addr) (cap : Nat) (ks : List Nat) : Prop where
  st : St W b sv mb L
  blk : W.heap[c]? = some (.cells (chC b lm nx x) 71 (0, 0))
  map : IMap W lm l
  ap : lm ∉ foot b sv mb
  mv : Mv w.1 W w.2 (c :: lm :: foot b sv mb)
  b1 : W.heap[q1]? = some (.cells #[.pointer (some ⟨c, 0, none⟩)] 41 (0, 0))
  b2 : W.heap[q2]? = some (.cells #[.int .i64 (M : Int)] 3 (0, 0))
  b3 : W.heap[lb]? = some (.cells (strC (.slice a M cap) y) 95 (0, 0))
  row : NRow 0 W (.slice a M cap) ks
section
variable {w : World × List Nat} {W W' : World} {c b : Nat} {sv : Value} {mb lm : Nat} {L : List Tm} {l l' : Lfs} {nx x q1 q2 lb M y : Nat} {a : Option Addr} {cap : Nat} {ks : List Nat}
theorem GO.drew (h : GO w W c b sv mb lm L l nx x q1 q2 lb M y a cap ks) : GO w W.drew c b sv mb lm L l nx x q1 q2 lb M y a cap ks :=
  ⟨h.st.bw (Below.refl _ _).drew, h.blk, h.map.keep rfl, h.ap, h.mv.more (Y := []) (Y' := []) ⟨Fr.ofBelow (Below.refl _ _).drew, by simp⟩ (by simp) (fun x hx => Or.inl hx), h.b1, h.b2, h.b3, h.row.keep (fun _ _ => rfl)⟩
theorem GO.cells (h : GO w W c b sv mb lm L l nx x q1 q2 lb M y a cap ks) : W.cell? ⟨q1, 0, none⟩ = some (.pointer (some ⟨c, 0, none⟩)) ∧ W.cell? ⟨c, 1, none⟩ = some (.map (some lm)) ∧ W.cell? ⟨c, 2, none⟩ = some (.int .i64 (nx : Int)) := ⟨blk_cell h.b1 rfl, blk_cell h.blk rfl, blk_cell h.blk rfl⟩
theorem GO.upd (h : GO w W c b sv mb lm L l nx x q1 q2 lb M y a cap ks) (hm : IMap W' lm l') (hg : W.grownBy W' (some lm)) : GO w W' c b sv mb lm L l' nx x q1 q2 lb M y a cap ks := by
  have f : Fr [lm] W W' := by simpa using Fr.ofGrown hg
  have hne : ∀ (k : Nat) (cs : Array Value) (t : TypeId), W.heap[k]? = some (.cells cs t (0, 0)) → W'.heap[k]? = some (.cells cs t (0, 0)) := fun k cs t e => by
    rw [f.block k (lt_of_blk e) (fun c => by
      simp at c; subst c
      obtain ⟨es, cl, e2⟩ := h.map.block
      rw [e] at e2; cases e2)]
    exact e
  exact ⟨h.st.keep f (fun k hk c => by simp at c; subst c; exact h.ap hk), hne _ _ _ h.blk, hm, h.ap, h.mv.more (Y' := [lm]) ⟨f, fun x hx => Or.inl hx⟩ (by simp) (fun x hx => Or.inl hx), hne _ _ _ h.b1, hne _ _ _ h.b2, hne _ _ _ h.b3, h.row.keep (fun k hk => by obtain ⟨cur, e⟩ := h.row.block hk; rw [hne _ _ _ e, e])⟩
theorem GO.poke (h : GO w W c b sv mb lm L l nx x q1 q2 lb M y a cap ks) (i : Nat) (v : Value) {nx' x' : Nat} (he : (chC b lm nx x).setIfInBounds i v = chC b lm nx' x') : GO w (W.setCell ⟨c, i, none⟩ v) c b sv mb lm L l nx' x' q1 q2 lb M y a cap ks := by
  have hne : ∀ (k : Nat) (cs : Array Value) (t : TypeId), W.heap[k]? = some (.cells cs t (0, 0)) → t ≠ 71 → (W.setCell ⟨c, i, none⟩ v).heap[k]? = some (.cells cs t (0, 0)) := fun k cs t e ht => by
    have : k ≠ c := fun q => by subst q; rw [h.blk] at e; injection e with e; injection e with _ e; exact ht e.symm
    exact poke_other e v (fun q => this q.symm)
  have hlm : lm ≠ c := fun q => by subst q; obtain ⟨es, cl, e⟩ := h.map.block; rw [h.blk] at e; cases e
  refine ⟨h.st.keep (S := [c]) ((Fr.refl _ _).setCell (a := ⟨c, i, none⟩) (Or.inr (by simp)) v) (fun k hk q => by simp at q; subst q; exact h.st.notin h.blk (by decide) (by decide) hk), by rw [← he]; exact poke_blk h.blk v, h.map.keep (Below.heap_setCell _ _ _ _ (by simp; exact hlm)), h.ap, h.mv.more (Y := [c]) (Y' := [c]) ⟨(Fr.refl _ _).setCell (a := ⟨c, i, none⟩) (Or.inr (by simp)) v, fun x hx => Or.inl hx⟩ (by simp) (fun x hx => Or.inl hx), hne _ _ _ h.b1 (by decide), hne _ _ _ h.b2 (by decide), hne _ _ _ h.b3 (by decide), h.row.keep (fun k hk => ?_)⟩
  obtain ⟨cur, e⟩ := h.row.block hk
  rw [hne _ _ _ e (by decide), e]
theorem GO.cs (h : GO w W c b sv mb lm L l nx x q1 q2 lb M y a cap ks) (hl : Lf nx l) : CS w W c b sv mb lm L l nx x := ⟨h.st, ⟨h.blk, h.map, hl⟩, h.ap, h.mv⟩
end
end Go.Proofs.Ytkaioidneknmjaa.Tn
