/- The contract of chain.walk: so many keys from a secret on. -/
import Derived.Test.YtkaioidneknmjaaZ06
namespace Go.Proofs.Ytkaioidneknmjaa.Tn
open Go.RowKit Go.Maps

/-- One move behind another. -/
theorem Mv.more {w W W' : World} {Z0 Z1 Y Y' Z2 : List Nat} (h : Mv w W Z0 Z1) (k : Mv W W' Y Y') (hy : ∀ x ∈ Y, x ∈ Z1) (hz : ∀ x ∈ Z2, x ∈ Z1 ∨ x ∈ Y') : Mv w W' Z0 Z2 := by
  refine ⟨h.fr.trans k.fr (fun _ _ c => c) (fun x hx c => ?_), fun x hx => ?_⟩
  · rcases h.place x (hy x c) with q | q
    · exact q
    · omega
  · rcases hz x hx with q | q
    · exact h.place x q
    · rcases k.place x q with r | r
      · exact h.place x (hy x r)
      · exact Or.inr (Nat.le_trans h.fr.size r)
/-- A chain beside its store: they lie apart; what has moved since a world. -/
structure CS (w : World × List Nat) (W : World) (c b : Nat) (sv : Value) (mb lm : Nat) (L : List Tm) (l : Lfs) (nx x : Nat) : Prop where
  st : St W b sv mb L
  cn : Cn W c b lm l nx x
  ap : lm ∉ foot b sv mb
  mv : Mv w.1 W w.2 (c :: lm :: foot b sv mb)
theorem CS.stepS {w : World × List Nat} {W W' : World} {c b : Nat} {sv sv' : Value} {mb lm : Nat} {L L' : List Tm} {l : Lfs} {nx x : Nat} (h : CS w W c b sv mb lm L l nx x) (s : SStep W W' b sv sv' mb L') : CS w W' c b sv' mb lm L' l nx x := by
  refine ⟨s.st, h.cn.keep (s.fr.block c (lt_of_blk h.cn.blk) (h.st.notin h.cn.blk (by decide) (by decide))) (s.fr.block lm h.cn.map.lt h.ap), fun q => ?_, h.mv.more (go_S s) (fun x hx => by simp [hx]) (fun x hx => ?_)⟩
  · rcases mem_foot.1 q with e | e | e
    · exact h.ap (mem_foot.2 (Or.inl e))
    · exact h.ap (mem_foot.2 (Or.inr (Or.inl e)))
    · rcases s.place lm e with z | z
      · exact h.ap (mem_foot.2 (Or.inr (Or.inr z)))
      · have := h.cn.map.lt; omega
  · simp at hx ⊢
    rcases hx with rfl | rfl | hx
    · simp
    · simp
    · simp [hx]
theorem CS.new {w : World × List Nat} {W W' : World} {c b : Nat} {sv : Value} {mb lm : Nat} {L : List Tm} {l : Lfs} {nx x : Nat} (h : CS w W c b sv mb lm L l nx x) (hb : Below W.heap.size W W') : CS w W' c b sv mb lm L l nx x := h.stepS (SStep.same h.st hb)
/-- A key and the next secret; so many keys, and the secret behind them. -/
def stp (p : List Tm × Nat) : List Tm × Nat := nxS ((kyS p).1, p.2)
def wkS (p : List Tm × Nat) : Nat → List Tm × Nat
  | 0 => p
  | n + 1 => stp (wkS p n)
def wkK (p : List Tm × Nat) : Nat → List Nat
  | 0 => []
  | n + 1 => wkK p n ++ [(kyS (wkS p n)).2]
theorem wkK_len (p : List Tm × Nat) : ∀ n, (wkK p n).length = n
  | 0 => rfl
  | n + 1 => by simp [wkK, wkK_len p n]
theorem kyS_keep {p : List Tm × Nat} (h : Gd p) : Gd ((kyS p).1, p.2) := ⟨h.1, Nat.le_trans h.2 (kyS_len p).2⟩
theorem stp_gd {p : List Tm × Nat} (h : Gd p) (hl : p.1.length + 2 ≤ 1048576) : Gd (stp p) := nxS_gd (kyS_keep h) (by have := kyS_len p; simp only; omega)
theorem stp_len (p : List Tm × Nat) : (stp p).1.length ≤ p.1.length + 2 ∧ p.1.length ≤ (stp p).1.length := by
  have h1 := kyS_len p
  have h2 := nxS_len ((kyS p).1, p.2)
  simp only at h2
  unfold stp
  omega
theorem wkS_len (p : List Tm × Nat) : ∀ n, (wkS p n).1.length ≤ p.1.length + 2 * n ∧ p.1.length ≤ (wkS p n).1.length
  | 0 => ⟨Nat.le_refl _, Nat.le_refl _⟩
  | n + 1 => by have h := wkS_len p n; have h2 := stp_len (wkS p n); exact ⟨by show (stp _).1.length ≤ _; omega, by show _ ≤ (stp _).1.length; omega⟩
theorem wkS_gd {p : List Tm × Nat} (h : Gd p) : ∀ n, p.1.length + 2 * n ≤ 1048576 → Gd (wkS p n)
  | 0, _ => h
  | n + 1, hl => stp_gd (wkS_gd h n (by omega)) (by have := wkS_len p n; omega)

def strC (lv : Value) (x : Nat) : Array Value := #[lv, .int .i64 (x : Int)]
/-- The store, a row of numbers, and a stretch that holds it, made since; and a stretch that is to be answered. -/
structure WC (w W : World) (b : Nat) (sv sv' : Value) (mb : Nat) (L' : List Tm) (rb lb : Nat) (lv : Value) (acc : List Nat) (x : Nat) : Prop where
  s : SStep w W b sv sv' mb L'
  r : NRow w.heap.size W lv acc
  k : W.heap[lb]? = some (.cells (strC lv x) 95 (0, 0))
  kr : W.heap[rb]? = some (.cells (strC (.slice none 0 0) 0) 95 (0, 0))
  lo : w.heap.size ≤ lb
  ne : rb ≠ lb
section
variable {w W W' W5 : World} {b : Nat} {sv sv1 sv2 : Value} {mb : Nat} {L1 L2 : List Tm} {rb lb : Nat} {lv v' : Value} {acc acc' : List Nat} {x : Nat}
theorem WC.step (h : WC w W b sv sv1 mb L1 rb lb lv acc x) (s : SStep W W' b sv1 sv2 mb L2) : WC w W' b sv sv2 mb L2 rb lb lv acc x :=
  ⟨h.s.trans s, h.r.keep (fun k hk => by obtain ⟨cur, e⟩ := h.r.block hk; exact s.fr.block k (lt_of_blk e) (h.s.st.notin e (by decide) (by decide))), kept_fr h.k h.s.st s.fr (by decide) (by decide), kept_fr h.kr h.s.st s.fr (by decide) (by decide), h.lo, h.ne⟩
theorem WC.bw (h : WC w W b sv sv1 mb L1 rb lb lv acc x) (hb : Below W.heap.size W W') : WC w W' b sv sv1 mb L1 rb lb lv acc x := h.step (SStep.same h.s.st hb)
theorem WC.grown {ob : Obj} (h : WC w W b sv sv1 mb L1 rb lb lv acc x) (hr : NRow w.heap.size W5 v' acc') (hg : (W.alloc ob).grownBy W5 lv.ownBlock) :
    (W5.cell? ⟨lb, 0, none⟩ = some lv ∧ W5.frozen? ⟨lb, 0, none⟩ = false) ∧ WC w (W5.setCell ⟨lb, 0, none⟩ v') b sv sv1 mb L1 rb lb v' acc' x := by
  have f1 : Fr lv.ownBlock.toList W W5 := ((Fr.refl lv.ownBlock.toList W).alloc ob).tr (Fr.ofGrown hg)
  have hne : ∀ (k : Nat) (cs : Array Value), W.heap[k]? = some (.cells cs 95 (0, 0)) → k ∉ lv.ownBlock.toList := fun k cs e c => by
    obtain ⟨cur, e2⟩ := h.r.block (k := k) (by simpa using c)
    rw [e] at e2; injection e2 with e2; injection e2 with _ e2; exact absurd e2 (by decide)
  have k5 : W5.heap[lb]? = some (.cells (strC lv x) 95 (0, 0)) := by rw [f1.block lb (lt_of_blk h.k) (hne lb _ h.k)]; exact h.k
  have kr5 : W5.heap[rb]? = some (.cells (strC (.slice none 0 0) 0) 95 (0, 0)) := by rw [f1.block rb (lt_of_blk h.kr) (hne rb _ h.kr)]; exact h.kr
  have s5 : SStep w W5 b sv sv1 mb L1 := ⟨h.s.st.keep f1 (fun k hk c => by
      obtain ⟨cur, e⟩ := h.r.block (k := k) (by simpa using c)
      exact h.s.st.notin e (by decide) (by decide) hk), h.s.fr.trans f1 (fun _ _ c => c) (fun k hk c => by have := (h.r.lt k (by simpa using c)).1; omega), h.s.place⟩
  refine ⟨⟨blk_cell k5 rfl, blk_froz k5⟩, s5.poke k5 (by decide) (by decide) h.lo v', hr.keep (fun k hk => Below.heap_setCell _ _ _ _ ?_), by have := poke_blk (i := 0) k5 v'; exact this, poke_other kr5 v' (fun c => h.ne c.symm), h.lo, h.ne⟩
  simp; intro c; subst c
  obtain ⟨cur, e⟩ := hr.block hk
  rw [k5] at e; injection e with e; injection e with _ e; exact absurd e (by decide)
theorem WC.putX (h : WC w W b sv sv1 mb L1 rb lb lv acc x) (y : Nat) : (W.cell? ⟨lb, 1, none⟩ = some (.int .i64 (x : Int)) ∧ W.frozen? ⟨lb, 1, none⟩ = false) ∧ WC w (W.setCell ⟨lb, 1, none⟩ (.int .i64 (y : Int))) b sv sv1 mb L1 rb lb lv acc y := by
  refine ⟨⟨blk_cell h.k rfl, blk_froz h.k⟩, h.s.poke h.k (by decide) (by decide) h.lo _, h.r.keep (fun k hk => Below.heap_setCell _ _ _ _ ?_), by have := poke_blk (i := 1) h.k (.int .i64 (y : Int)); exact this, poke_other h.kr _ (fun c => h.ne c.symm), h.lo, h.ne⟩
  simp; intro c; subst c
  obtain ⟨cur, e⟩ := h.r.block hk
  rw [h.k] at e; injection e with e; injection e with _ e; exact absurd e (by decide)
end
/-- Two cells put into a block of one's own. -/
theorem SStep.two {w W : World} {b : Nat} {sv sv' : Value} {mb : Nat} {L : List Tm} {k : Nat} {a0 a1 : Value} {t : TypeId} (h : SStep w W b sv sv' mb L) (hk : W.heap[k]? = some (.cells #[a0, a1] t (0, 0))) (h1 : t ≠ 87) (h2 : t ≠ 40) (hw : w.heap.size ≤ k) (v0 v1 : Value) :
    SStep w ((W.setCell ⟨k, 0, none⟩ v0).setCell ⟨k, 1, none⟩ v1) b sv sv' mb L ∧ ((W.setCell ⟨k, 0, none⟩ v0).setCell ⟨k, 1, none⟩ v1).heap[k]? = some (.cells #[v0, v1] t (0, 0)) ∧ ∀ j, j ≠ k → ((W.setCell ⟨k, 0, none⟩ v0).setCell ⟨k, 1, none⟩ v1).heap[j]? = W.heap[j]? := by
  have e0 := poke_blk (i := 0) hk v0
  have e1 := poke_blk (i := 1) e0 v1
  refine ⟨(h.poke hk h1 h2 hw v0).poke e0 h1 h2 hw v1, e1, fun j hj => ?_⟩
  rw [Below.heap_setCell _ _ _ _ (by simp; exact hj), Below.heap_setCell _ _ _ _ (by simp; exact hj)]
/-- The like of it at a row: it is none of its blocks. -/
theorem NRow.other {B : Nat} {W W' : World} {lv : Value} {acc : List Nat} {k : Nat} {cs : Array Value} {t : TypeId} (h : NRow B W lv acc) (hk : W.heap[k]? = some (.cells cs t (0, 0))) (ht : t ≠ 3) (hj : ∀ j, j ≠ k → W'.heap[j]? = W.heap[j]?) : NRow B W' lv acc :=
  h.keep (fun j hj' => hj j (fun c => by
    subst c
    obtain ⟨cur, e⟩ := h.block hj'
    rw [hk] at e; injection e with e; injection e with _ e; exact ht e))

set_option maxRecDepth 100000 in
set_option maxHeartbeats 4000000 in
theorem walk_any {b : Nat} {sv : Value} {mb : Nat} {w : World} (p : List Tm × Nat) (n : Nat) (h : St w b sv mb p.1) (hg : Gd p) (hn : n ≤ 100000) (hl : p.1.length + 2 * n ≤ 1048576) :
    Calls Try.prog 52 #[.func (.func 19) #[.pointer (some ⟨b, 0, none⟩)] #[], .int .i64 (p.2 : Nat), .int .i64 (n : Int)] w fun e w' => ∃ a cap, e = .returned (.tuple #[.agg #[.slice a n cap, .int .i64 ((wkS p n).2 : Nat)], .int .i64 0]) ∧ ∃ sv', SStep w w' b sv sv' mb (wkS p n).1 ∧ NRow w.heap.size w' (.slice a n cap) (wkK p n) := by
  obtain ⟨j0, hj, hy0, hy1, hy2⟩ := info_parts Try.infoInt
  obtain ⟨w0, hw0⟩ : ∃ w0, w0 = (w.alloc (.cells #[.slice none 0 0, .int .i64 0] 95)).alloc (.cells #[.slice none 0 0, .int .i64 (p.2 : Nat)] 95) := ⟨_, rfl⟩
  obtain ⟨y0, y1, x0⟩ := blk2c w (.cells #[.slice none 0 0, .int .i64 0] 95) (.cells #[.slice none 0 0, .int .i64 (p.2 : Nat)] 95)
  rw [← hw0] at y0 y1 x0
  have HW := hide hw0
  have S0 : Hid (WC w w0 b sv sv mb (wkS p 0).1 w.heap.size (w.heap.size + 1) (.slice none 0 0) (wkK p 0) (wkS p 0).2) := ⟨SStep.same h x0, NRow.nil _ _, y1, y0, by omega, by omega⟩
  have HG : Hid (∀ i, i < n → Gd (wkS p i) ∧ (wkS p i).1.length + 2 ≤ 1048576) := fun i hi => ⟨wkS_gd hg i (by omega), by have := wkS_len p i; omega⟩
  have KD : Hid (∀ W l s c, Calls Try.prog 26 #[.int .i64 l, .int .i64 s, .int .i64 c] W fun e w' => e = .returned (.agg #[.int .u8 4, .int .i64 l, .int .i64 s, .int .i64 c]) ∧ Below W.heap.size W w') := fun W l s c => chderived_any W l s c
  have HP1 : Hid (∀ i, i < n → ∀ W sv', St W b sv' mb (wkS p i).1 → Calls Try.prog 19 #[.pointer (some ⟨b, 0, none⟩), .agg #[.int .u8 4, .int .i64 11, .int .i64 ((wkS p i).2 : Nat), .int .i64 0]] W fun e w' => e = .returned (.tuple #[.int .i64 ((kyS (wkS p i)).2 : Nat), .int .i64 0]) ∧ ∃ sv2, SStep W w' b sv' sv2 mb (kyS (wkS p i)).1) := fun i hi W sv' S => by
    obtain ⟨g1, g2⟩ := unhide HG i hi
    exact make_ok S 4 11 _ 0 (ok_nx g1 11 (by omega) (by omega)) (may_nx g1 11 (by omega)) (by omega)
  have HP2 : Hid (∀ i, i < n → ∀ W sv', St W b sv' mb (kyS (wkS p i)).1 → Calls Try.prog 19 #[.pointer (some ⟨b, 0, none⟩), .agg #[.int .u8 4, .int .i64 10, .int .i64 ((wkS p i).2 : Nat), .int .i64 0]] W fun e w' => e = .returned (.tuple #[.int .i64 ((wkS p (i + 1)).2 : Nat), .int .i64 0]) ∧ ∃ sv2, SStep W w' b sv' sv2 mb (wkS p (i + 1)).1) := fun i hi W sv' S => by
    obtain ⟨g1, g2⟩ := unhide HG i hi
    have g3 := kyS_keep g1
    have g4 := kyS_len (wkS p i)
    exact make_ok S 4 10 _ 0 (ok_nx g3 10 (by omega) (by simp only; omega)) (may_nx g3 10 (by omega)) (by omega)
  have hnI : (n : Int) ≤ 100000 := by omega
  obtain ⟨rb, hrb⟩ : ∃ rb, rb = w.heap.size := ⟨_, rfl⟩
  obtain ⟨lb, hlb⟩ : ∃ lb, lb = w.heap.size + 1 := ⟨_, rfl⟩
  rw [← hlb, ← hrb] at S0
  have HB := hide (And.intro hrb hlb)
  clear h hg hl hw0 y0 y1 x0 HG hrb hlb
  go_enter Try.func52, Try.ntmps52
  go_upto_region 2 with fail
  rw [← unhide HW, ← (unhide HB).2, ← (unhide HB).1]
  clear HW
  go_wp2_with fail
  go_loopw [14] (fun iv wr => ∃ (i : Nat) (sv1 : Value) (a : Option Addr) (cap : Nat), iv = .int .i64 (i : Int) ∧ i ≤ n ∧ Hid (WC w wr b sv sv1 mb (wkS p i).1 rb lb (.slice a i cap) (wkK p i) (wkS p i).2)) (fun iv _ => (n - intOf iv).toNat)
  case atStart => exact ⟨0, sv, none, 0, rfl, by omega, S0⟩
  case round =>
    clear S0
    obtain ⟨i, sv1, a, cap, rfl, hi, HC⟩ := hrel
    by_cases hlt : i < n
    · have q1 : (i : Int) < (n : Int) := by omega
      have q0 : (0 : Int) ≤ (i : Int) := by omega
      have K1 := hide (unhide HP1 i hlt)
      have K2 := hide (unhide HP2 i hlt)
      obtain ⟨y, hy⟩ : ∃ y : Nat, y = (kyS (wkS p i)).2 := ⟨_, rfl⟩
      obtain ⟨z, hz⟩ : ∃ z : Nat, z = (wkS p (i + 1)).2 := ⟨_, rfl⟩
      obtain ⟨x, hx⟩ : ∃ x : Nat, x = (wkS p i).2 := ⟨_, rfl⟩
      rw [← hx, ← hy] at K1
      rw [← hx, ← hz] at K2
      rw [← hx] at HC
      have hk1 : wkK p (i + 1) = wkK p i ++ [y] := by rw [hy]; rfl
      have HY := hide (And.intro hz (And.intro hk1 (wkK_len p i)))
      clear HP1 HP2 hx hy hz hk1
      have c1 : wr.cell? ⟨lb, 1, none⟩ = some (.int .i64 (x : Int)) := blk_cell (unhide HC).k rfl
      go_wp2_with fail
      refine (unhide KD _ _ _ _).mono ?_
      rintro e w2 ⟨rfl, b2⟩
      have C2 := hide ((unhide HC).bw b2)
      have K3 := hide (unhide K1 w2 sv1 (unhide C2).s.st)
      clear c1 b2 HC K1
      go_wp2_with fail
      refine (unhide K3).mono ?_
      rintro e w3 ⟨rfl, sv3, s3⟩
      have C3 := hide ((unhide C2).step s3)
      clear s3 C2 K3
      have c0 : w3.cell? ⟨lb, 0, none⟩ = some (.slice a i cap) := blk_cell (unhide C3).k rfl
      have hrow : w3.ownsRow w.heap.size 3 1 (.slice a i cap) i ((wkK p i).map (fun m => .int .i64 ((m : Nat) : Int))) := by have := (unhide C3).r; unfold NRow at this; rw [(unhide HY).2.2] at this; exact this
      have hsz := (unhide C3).s.fr.size
      go_wp2_with (at_builtin; refine wpList_append_own_at _ rfl (.tmp 29) (.tmp 31) 37 rfl w.heap.size 3 j0 (.int .i64 0) 1 8 Try.underlying37 hj hy0 hy1 hy2 rfl (by decide) _ i _ rfl (World.ownsRow.alloc hrow _) ⟨w3.heap.size, 0, none⟩ 1 1 [_] rfl rfl (cell_one_new _ _ _) ?c2 ?c3 ?c4 ?c5 ?nx)
      case c2 => intro u hu; simp at hu; subst hu; rfl
      case c3 => unfold maxLen; omega
      case c4 => omega
      case c5 => simp; omega
      case nx =>
        intro v' w5 hown' hgrow _ hpl
        have hn5 : NRow w.heap.size w5 v' (wkK p (i + 1)) := by
          rw [(unhide HY).2.1]; unfold NRow; rw [List.length_append, (unhide HY).2.2]; simpa using hown'
        obtain ⟨a5, cap5, rfl⟩ : ∃ a5 cap5, v' = .slice a5 (i + 1) cap5 := own_slice hown'
        obtain ⟨⟨d0, d1⟩, C5'⟩ := (unhide C3).grown hn5 hgrow
        obtain ⟨W5, hW5⟩ : ∃ W5, W5 = w5.setCell ⟨lb, 0, none⟩ (.slice a5 (i + 1) cap5) := ⟨_, rfl⟩
        rw [← hW5] at C5'
        have C5 := hide C5'
        have HW5 := hide hW5
        clear hown' hgrow hpl hn5 C3 hrow c0 C5' hW5
        have c1 : W5.cell? ⟨lb, 1, none⟩ = some (.int .i64 (x : Int)) := blk_cell (unhide C5).k rfl
        go_upto_region 8 with fail
        rw [← unhide HW5]
        clear d0 d1 HW5
        go_wp2_with fail
        refine (unhide KD _ _ _ _).mono ?_
        rintro e w6 ⟨rfl, b6⟩
        have C6 := hide ((unhide C5).bw b6)
        have K4 := hide (unhide K2 w6 sv3 (unhide C6).s.st)
        clear c1 b6 C5 K2 KD
        go_wp2_with fail
        refine (unhide K4).mono ?_
        rintro e w7 ⟨rfl, sv7, s7⟩
        obtain ⟨⟨d0, d1⟩, C8'⟩ := ((unhide C6).step s7).putX z
        obtain ⟨W8, hW8⟩ : ∃ W8, W8 = w7.setCell ⟨lb, 1, none⟩ (.int .i64 (z : Int)) := ⟨_, rfl⟩
        rw [← hW8] at C8'
        have C8 : Hid (WC w W8 b sv sv7 mb (wkS p (i + 1)).1 rb lb (.slice a5 (i + 1) cap5) (wkK p (i + 1)) (wkS p (i + 1)).2) := by rw [← (unhide HY).1]; exact C8'
        have HW8 := hide hW8
        clear s7 C6 K4 C8' hW8
        go_upto_region 9 with fail
        rw [← unhide HW8]
        clear d0 d1 HW8
        go_wp2_with fail
        go_roundw
        case rel => exact ⟨i + 1, sv7, a5, cap5, by go_num, by omega, C8⟩
        case measure => simp only [intOf]; omega
    · obtain rfl : i = n := by omega
      clear HP1 HP2 KD hlt hi
      have HB2 := hide (And.intro (show w.heap.size ≤ rb by rw [(unhide HB).1]; exact Nat.le_refl _) (wkK_len p i))
      obtain ⟨hs, hr, hk, hkr, hlo, hne⟩ := unhide HC
      obtain ⟨x, hx⟩ : ∃ x : Nat, x = (wkS p i).2 := ⟨_, rfl⟩
      rw [← hx] at hk
      have HX2 := hide hx
      clear hx
      have l0 : wr.cell? ⟨lb, 0, none⟩ = some (.slice a i cap) := blk_cell hk rfl
      have l1 : wr.cell? ⟨lb, 1, none⟩ = some (.int .i64 (x : Int)) := blk_cell hk rfl
      have h0 : wr.cell? ⟨rb, 0, none⟩ = some (.slice none 0 0) := blk_cell hkr rfl
      have h1 : wr.cell? ⟨rb, 1, none⟩ = some (.int .i64 0) := blk_cell hkr rfl
      have hf := fun j => blk_froz (i := j) hkr
      have HT := hide (hs.two hkr (by decide) (by decide) (unhide HB2).1 (.slice a i cap) (.int .i64 (x : Int)))
      have HR := hide (And.intro hr hkr)
      clear hs hr hk hkr hlo hne HC HB
      go_wp2_with fail
      obtain ⟨SV, bV, oV⟩ := unhide HT
      have HRV := hide ((unhide HR).1.other (unhide HR).2 (by decide) oV)
      generalize (wr.setCell ⟨rb, 0, none⟩ (.slice a i cap)).setCell ⟨rb, 1, none⟩ (.int .i64 (x : Int)) = V at SV bV HRV ⊢
      have g0 := blk_cell (i := 0) bV rfl
      have g1 := blk_cell (i := 1) bV rfl
      have HSV := hide SV
      clear SV bV oV HT h0 h1 hf l0 l1 HR
      exact bodyPost_ret (v := .tuple #[.agg #[.slice a i cap, .int .i64 (x : Int)], .int .i64 0]) (by simp [results, Try.results52, go_sem, g0, g1]) rfl ⟨a, cap, by rw [unhide HX2], sv1, unhide HSV, unhide HRV⟩
end Go.Proofs.Ytkaioidneknmjaa.Tn
