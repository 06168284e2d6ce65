/- Texts joined: ChC NTmAcW NTmAcX TdM. -/
import Derived.Test.YtkaioidneknmjaaGreatDoorZ06
import Derived.Test.YtkaioidneknmjaaGreatDoorZ05
import Derived.WalkLawsBesides
import Derived.WalkSmall
import Derived.Deep.RegionLaw
import Derived.Deep.RegionWith
import Derived.Deep.CutRange
/- The contract of chain.walk: so many keys from a secret on. -/
namespace Go.Proofs.YtkaioidneknmjaaGreatDoor.Tn
open Go.RowKit Go.Maps

/-- One move behind another. -/
theorem Mv.more {w W W' : World} {Z0 Z1 Y Y' Z2 : List Nat} (h : Mv w W Z0 Z1) (k : Mv W W' Y Y') (hy : ∀ x ∈ Y, x ∈ Z1) (hz : ∀ x ∈ Z2, x ∈ Z1 ∨ x ∈ Y') : Mv w W' Z0 Z2 := by
  refine ⟨h.fr.trans k.fr (fun _ _ c => c) (fun x hx c => ?_), fun x hx => ?_⟩
  · rcases h.place x (hy x c) with q | q
    · exact q
    · omega
  · rcases hz x hx with q | q
    · exact h.place x q
    · rcases k.place x q with r | r
      · exact h.place x (hy x r)
      · exact Or.inr (Nat.le_trans h.fr.size r)
/-- A chain beside its store: they lie apart; what has moved since a world. -/
structure CS (w : World × List Nat) (W : World) (c b : Nat) (sv : Value) (mb lm : Nat) (L : List Tm) (l : Lfs) (nx x : Nat) : Prop where
  st : St W b sv mb L
  cn : Cn W c b lm l nx x
  ap : lm ∉ foot b sv mb
  mv : Mv w.1 W w.2 (c :: lm :: foot b sv mb)
theorem CS.stepS {w : World × List Nat} {W W' : World} {c b : Nat} {sv sv' : Value} {mb lm : Nat} {L L' : List Tm} {l : Lfs} {nx x : Nat} (h : CS w W c b sv mb lm L l nx x) (s : SStep W W' b sv sv' mb L') : CS w W' c b sv' mb lm L' l nx x := by
  refine ⟨s.st, h.cn.keep (s.fr.block c (lt_of_blk h.cn.blk) (h.st.notin h.cn.blk (by decide) (by decide))) (s.fr.block lm h.cn.map.lt h.ap), fun q => ?_, h.mv.more (go_S s) (fun x hx => by simp [hx]) (fun x hx => ?_)⟩
  · rcases mem_foot.1 q with e | e | e
    · exact h.ap (mem_foot.2 (Or.inl e))
    · exact h.ap (mem_foot.2 (Or.inr (Or.inl e)))
    · rcases s.place lm e with z | z
      · exact h.ap (mem_foot.2 (Or.inr (Or.inr z)))
      · have := h.cn.map.lt; omega
  · simp at hx ⊢
    rcases hx with rfl | rfl | hx
    · simp
    · simp
    · simp [hx]
theorem CS.new {w : World × List Nat} {W W' : World} {c b : Nat} {sv : Value} {mb lm : Nat} {L : List Tm} {l : Lfs} {nx x : Nat} (h : CS w W c b sv mb lm L l nx x) (hb : Below W.heap.size W W') : CS w W' c b sv mb lm L l nx x := h.stepS (SStep.same h.st hb)
/-- A key and the next secret; so many keys, and the secret behind them. -/
def stp (p : List Tm × Nat) : List Tm × Nat := nxS ((kyS p).1, p.2)
def wkS (p : List Tm × Nat) : Nat → List Tm × Nat
  | 0 => p
  | n + 1 => stp (wkS p n)
def wkK (p : List Tm × Nat) : Nat → List Nat
  | 0 => []
  | n + 1 => wkK p n ++ [(kyS (wkS p n)).2]
theorem wkK_len (p : List Tm × Nat) : ∀ n, (wkK p n).length = n
  | 0 => rfl
  | n + 1 => by simp [wkK, wkK_len p n]
theorem kyS_keep {p : List Tm × Nat} (h : Gd p) : Gd ((kyS p).1, p.2) := ⟨h.1, Nat.le_trans h.2 (kyS_len p).2⟩
theorem stp_gd {p : List Tm × Nat} (h : Gd p) (hl : p.1.length + 2 ≤ 1048576) : Gd (stp p) := nxS_gd (kyS_keep h) (by have := kyS_len p; simp only; omega)
theorem stp_len (p : List Tm × Nat) : (stp p).1.length ≤ p.1.length + 2 ∧ p.1.length ≤ (stp p).1.length := by
  have h1 := kyS_len p
  have h2 := nxS_len ((kyS p).1, p.2)
  simp only at h2
  unfold stp
  omega
theorem wkS_len (p : List Tm × Nat) : ∀ n, (wkS p n).1.length ≤ p.1.length + 2 * n ∧ p.1.length ≤ (wkS p n).1.length
  | 0 => ⟨Nat.le_refl _, Nat.le_refl _⟩
  | n + 1 => by have h := wkS_len p n; have h2 := stp_len (wkS p n); exact ⟨by show (stp _).1.length ≤ _; omega, by show _ ≤ (stp _).1.length; omega⟩
theorem wkS_gd {p : List Tm × Nat} (h : Gd p) : ∀ n, p.1.length + 2 * n ≤ 1048576 → Gd (wkS p n)
  | 0, _ => h
  | n + 1, hl => stp_gd (wkS_gd h n (by omega)) (by have := wkS_len p n; omega)

def strC (lv : Value) (x : Nat) : Array Value := #[lv, .int .i64 (x : Int)]
/-- The store, a row of numbers, and a stretch that holds it, made since; and a stretch that is to be answered. -/
structure WC (w W : World) (b : Nat) (sv sv' : Value) (mb : Nat) (L' : List Tm) (rb lb : Nat) (lv : Value) (acc : List Nat) (x : Nat) : Prop where
  s : SStep w W b sv sv' mb L'
  r : NRow w.heap.size W lv acc
  k : W.heap[lb]? = some (.cells (strC lv x) 130 (0, 0))
  kr : W.heap[rb]? = some (.cells (strC (.slice none 0 0) 0) 130 (0, 0))
  lo : w.heap.size ≤ lb
  ne : rb ≠ lb
section
variable {w W W' W5 : World} {b : Nat} {sv sv1 sv2 : Value} {mb : Nat} {L1 L2 : List Tm} {rb lb : Nat} {lv v' : Value} {acc acc' : List Nat} {x : Nat}
theorem WC.step (h : WC w W b sv sv1 mb L1 rb lb lv acc x) (s : SStep W W' b sv1 sv2 mb L2) : WC w W' b sv sv2 mb L2 rb lb lv acc x :=
  ⟨h.s.trans s, h.r.keep (fun k hk => by obtain ⟨cur, e⟩ := h.r.block hk; exact s.fr.block k (lt_of_blk e) (h.s.st.notin e (by decide) (by decide))), kept_fr h.k h.s.st s.fr (by decide) (by decide), kept_fr h.kr h.s.st s.fr (by decide) (by decide), h.lo, h.ne⟩
theorem WC.bw (h : WC w W b sv sv1 mb L1 rb lb lv acc x) (hb : Below W.heap.size W W') : WC w W' b sv sv1 mb L1 rb lb lv acc x := h.step (SStep.same h.s.st hb)
theorem WC.grown {ob : Obj} (h : WC w W b sv sv1 mb L1 rb lb lv acc x) (hr : NRow w.heap.size W5 v' acc') (hg : (W.alloc ob).grownBy W5 lv.ownBlock) :
    (W5.cell? ⟨lb, 0, none⟩ = some lv ∧ W5.frozen? ⟨lb, 0, none⟩ = false) ∧ WC w (W5.setCell ⟨lb, 0, none⟩ v') b sv sv1 mb L1 rb lb v' acc' x := by
  have f1 : Fr lv.ownBlock.toList W W5 := ((Fr.refl lv.ownBlock.toList W).alloc ob).tr (Fr.ofGrown hg)
  have hne : ∀ (k : Nat) (cs : Array Value), W.heap[k]? = some (.cells cs 130 (0, 0)) → k ∉ lv.ownBlock.toList := fun k cs e c => by
    obtain ⟨cur, e2⟩ := h.r.block (k := k) (by simpa using c)
    rw [e] at e2; injection e2 with e2; injection e2 with _ e2; exact absurd e2 (by decide)
  have k5 : W5.heap[lb]? = some (.cells (strC lv x) 130 (0, 0)) := by rw [f1.block lb (lt_of_blk h.k) (hne lb _ h.k)]; exact h.k
  have kr5 : W5.heap[rb]? = some (.cells (strC (.slice none 0 0) 0) 130 (0, 0)) := by rw [f1.block rb (lt_of_blk h.kr) (hne rb _ h.kr)]; exact h.kr
  have s5 : SStep w W5 b sv sv1 mb L1 := ⟨h.s.st.keep f1 (fun k hk c => by
      obtain ⟨cur, e⟩ := h.r.block (k := k) (by simpa using c)
      exact h.s.st.notin e (by decide) (by decide) hk), h.s.fr.trans f1 (fun _ _ c => c) (fun k hk c => by have := (h.r.lt k (by simpa using c)).1; omega), h.s.place⟩
  refine ⟨⟨blk_cell k5 rfl, blk_froz k5⟩, s5.poke k5 (by decide) (by decide) h.lo v', hr.keep (fun k hk => Below.heap_setCell _ _ _ _ ?_), by have := poke_blk (i := 0) k5 v'; exact this, poke_other kr5 v' (fun c => h.ne c.symm), h.lo, h.ne⟩
  simp; intro c; subst c
  obtain ⟨cur, e⟩ := hr.block hk
  rw [k5] at e; injection e with e; injection e with _ e; exact absurd e (by decide)
theorem WC.putX (h : WC w W b sv sv1 mb L1 rb lb lv acc x) (y : Nat) : (W.cell? ⟨lb, 1, none⟩ = some (.int .i64 (x : Int)) ∧ W.frozen? ⟨lb, 1, none⟩ = false) ∧ WC w (W.setCell ⟨lb, 1, none⟩ (.int .i64 (y : Int))) b sv sv1 mb L1 rb lb lv acc y := by
  refine ⟨⟨blk_cell h.k rfl, blk_froz h.k⟩, h.s.poke h.k (by decide) (by decide) h.lo _, h.r.keep (fun k hk => Below.heap_setCell _ _ _ _ ?_), by have := poke_blk (i := 1) h.k (.int .i64 (y : Int)); exact this, poke_other h.kr _ (fun c => h.ne c.symm), h.lo, h.ne⟩
  simp; intro c; subst c
  obtain ⟨cur, e⟩ := h.r.block hk
  rw [h.k] at e; injection e with e; injection e with _ e; exact absurd e (by decide)
end
/-- Two cells put into a block of one's own. -/
theorem SStep.two {w W : World} {b : Nat} {sv sv' : Value} {mb : Nat} {L : List Tm} {k : Nat} {a0 a1 : Value} {t : TypeId} (h : SStep w W b sv sv' mb L) (hk : W.heap[k]? = some (.cells #[a0, a1] t (0, 0))) (h1 : t ≠ 120) (h2 : t ≠ 89) (hw : w.heap.size ≤ k) (v0 v1 : Value) :
    SStep w ((W.setCell ⟨k, 0, none⟩ v0).setCell ⟨k, 1, none⟩ v1) b sv sv' mb L ∧ ((W.setCell ⟨k, 0, none⟩ v0).setCell ⟨k, 1, none⟩ v1).heap[k]? = some (.cells #[v0, v1] t (0, 0)) ∧ ∀ j, j ≠ k → ((W.setCell ⟨k, 0, none⟩ v0).setCell ⟨k, 1, none⟩ v1).heap[j]? = W.heap[j]? := by
  have e0 := poke_blk (i := 0) hk v0
  have e1 := poke_blk (i := 1) e0 v1
  refine ⟨(h.poke hk h1 h2 hw v0).poke e0 h1 h2 hw v1, e1, fun j hj => ?_⟩
  rw [Below.heap_setCell _ _ _ _ (by simp; exact hj), Below.heap_setCell _ _ _ _ (by simp; exact hj)]
/-- The like of it at a row: it is none of its blocks. -/
theorem NRow.other {B : Nat} {W W' : World} {lv : Value} {acc : List Nat} {k : Nat} {cs : Array Value} {t : TypeId} (h : NRow B W lv acc) (hk : W.heap[k]? = some (.cells cs t (0, 0))) (ht : t ≠ 3) (hj : ∀ j, j ≠ k → W'.heap[j]? = W.heap[j]?) : NRow B W' lv acc :=
  h.keep (fun j hj' => hj j (fun c => by
    subst c
    obtain ⟨cur, e⟩ := h.block hj'
    rw [hk] at e; injection e with e; injection e with _ e; exact ht e))

set_option maxRecDepth 100000 in
set_option maxHeartbeats 4000000 in
theorem walk_any {b : Nat} {sv : Value} {mb : Nat} {w : World} (p : List Tm × Nat) (n : Nat) (h : St w b sv mb p.1) (hg : Gd p) (hn : n ≤ 100000) (hl : p.1.length + 2 * n ≤ 1048576) :
    Calls Tryz.prog 147 #[.func (.func 18) #[.pointer (some ⟨b, 0, none⟩)] #[], .int .i64 (p.2 : Nat), .int .i64 (n : Int)] w fun e w' => ∃ a cap, e = .returned (.tuple #[.agg #[.slice a n cap, .int .i64 ((wkS p n).2 : Nat)], .int .i64 0]) ∧ ∃ sv', SStep w w' b sv sv' mb (wkS p n).1 ∧ NRow w.heap.size w' (.slice a n cap) (wkK p n) := by
  obtain ⟨j0, hj, hy0, hy1, hy2⟩ := info_parts Tryz.infoInt
  obtain ⟨w0, hw0⟩ : ∃ w0, w0 = (w.alloc (.cells #[.slice none 0 0, .int .i64 0] 130)).alloc (.cells #[.slice none 0 0, .int .i64 (p.2 : Nat)] 130) := ⟨_, rfl⟩
  obtain ⟨y0, y1, x0⟩ := blk2c w (.cells #[.slice none 0 0, .int .i64 0] 130) (.cells #[.slice none 0 0, .int .i64 (p.2 : Nat)] 130)
  rw [← hw0] at y0 y1 x0
  have HW := hide hw0
  have S0 : Hid (WC w w0 b sv sv mb (wkS p 0).1 w.heap.size (w.heap.size + 1) (.slice none 0 0) (wkK p 0) (wkS p 0).2) := ⟨SStep.same h x0, NRow.nil _ _, y1, y0, by omega, by omega⟩
  have HG : Hid (∀ i, i < n → Gd (wkS p i) ∧ (wkS p i).1.length + 2 ≤ 1048576) := fun i hi => ⟨wkS_gd hg i (by omega), by have := wkS_len p i; omega⟩
  have KD : Hid (∀ W l s c, Calls Tryz.prog 142 #[.int .i64 l, .int .i64 s, .int .i64 c] W fun e w' => e = .returned (.agg #[.int .u8 4, .int .i64 l, .int .i64 s, .int .i64 c]) ∧ Below W.heap.size W w') := fun W l s c => chderived_any W l s c
  have HP1 : Hid (∀ i, i < n → ∀ W sv', St W b sv' mb (wkS p i).1 → Calls Tryz.prog 18 #[.pointer (some ⟨b, 0, none⟩), .agg #[.int .u8 4, .int .i64 11, .int .i64 ((wkS p i).2 : Nat), .int .i64 0]] W fun e w' => e = .returned (.tuple #[.int .i64 ((kyS (wkS p i)).2 : Nat), .int .i64 0]) ∧ ∃ sv2, SStep W w' b sv' sv2 mb (kyS (wkS p i)).1) := fun i hi W sv' S => by
    obtain ⟨g1, g2⟩ := unhide HG i hi
    exact make_ok S 4 11 _ 0 (ok_nx g1 11 (by omega) (by omega)) (may_nx g1 11 (by omega)) (by omega)
  have HP2 : Hid (∀ i, i < n → ∀ W sv', St W b sv' mb (kyS (wkS p i)).1 → Calls Tryz.prog 18 #[.pointer (some ⟨b, 0, none⟩), .agg #[.int .u8 4, .int .i64 10, .int .i64 ((wkS p i).2 : Nat), .int .i64 0]] W fun e w' => e = .returned (.tuple #[.int .i64 ((wkS p (i + 1)).2 : Nat), .int .i64 0]) ∧ ∃ sv2, SStep W w' b sv' sv2 mb (wkS p (i + 1)).1) := fun i hi W sv' S => by
    obtain ⟨g1, g2⟩ := unhide HG i hi
    have g3 := kyS_keep g1
    have g4 := kyS_len (wkS p i)
    exact make_ok S 4 10 _ 0 (ok_nx g3 10 (by omega) (by simp only; omega)) (may_nx g3 10 (by omega)) (by omega)
  have hnI : (n : Int) ≤ 100000 := by omega
  obtain ⟨rb, hrb⟩ : ∃ rb, rb = w.heap.size := ⟨_, rfl⟩
  obtain ⟨lb, hlb⟩ : ∃ lb, lb = w.heap.size + 1 := ⟨_, rfl⟩
  rw [← hlb, ← hrb] at S0
  have HB := hide (And.intro hrb hlb)
  clear h hg hl hw0 y0 y1 x0 HG hrb hlb
  go_enter Tryz.func147, Tryz.ntmps147
  go_upto_region 2 with fail
  rw [← unhide HW, ← (unhide HB).2, ← (unhide HB).1]
  clear HW
  go_wp2_with fail
  go_loopw [14] (fun iv wr => ∃ (i : Nat) (sv1 : Value) (a : Option Addr) (cap : Nat), iv = .int .i64 (i : Int) ∧ i ≤ n ∧ Hid (WC w wr b sv sv1 mb (wkS p i).1 rb lb (.slice a i cap) (wkK p i) (wkS p i).2)) (fun iv _ => (n - intOf iv).toNat)
  case atStart => exact ⟨0, sv, none, 0, rfl, by omega, S0⟩
  case round =>
    clear S0
    obtain ⟨i, sv1, a, cap, rfl, hi, HC⟩ := hrel
    by_cases hlt : i < n
    · have q1 : (i : Int) < (n : Int) := by omega
      have q0 : (0 : Int) ≤ (i : Int) := by omega
      have K1 := hide (unhide HP1 i hlt)
      have K2 := hide (unhide HP2 i hlt)
      obtain ⟨y, hy⟩ : ∃ y : Nat, y = (kyS (wkS p i)).2 := ⟨_, rfl⟩
      obtain ⟨z, hz⟩ : ∃ z : Nat, z = (wkS p (i + 1)).2 := ⟨_, rfl⟩
      obtain ⟨x, hx⟩ : ∃ x : Nat, x = (wkS p i).2 := ⟨_, rfl⟩
      rw [← hx, ← hy] at K1
      rw [← hx, ← hz] at K2
      rw [← hx] at HC
      have hk1 : wkK p (i + 1) = wkK p i ++ [y] := by rw [hy]; rfl
      have HY := hide (And.intro hz (And.intro hk1 (wkK_len p i)))
      clear HP1 HP2 hx hy hz hk1
      have c1 : wr.cell? ⟨lb, 1, none⟩ = some (.int .i64 (x : Int)) := blk_cell (unhide HC).k rfl
      go_wp2_with fail
      refine (unhide KD _ _ _ _).mono ?_
      rintro e w2 ⟨rfl, b2⟩
      have C2 := hide ((unhide HC).bw b2)
      have K3 := hide (unhide K1 w2 sv1 (unhide C2).s.st)
      clear c1 b2 HC K1
      go_wp2_with fail
      refine (unhide K3).mono ?_
      rintro e w3 ⟨rfl, sv3, s3⟩
      have C3 := hide ((unhide C2).step s3)
      clear s3 C2 K3
      have c0 : w3.cell? ⟨lb, 0, none⟩ = some (.slice a i cap) := blk_cell (unhide C3).k rfl
      have hrow : w3.ownsRow w.heap.size 3 1 (.slice a i cap) i ((wkK p i).map (fun m => .int .i64 ((m : Nat) : Int))) := by have := (unhide C3).r; unfold NRow at this; rw [(unhide HY).2.2] at this; exact this
      have hsz := (unhide C3).s.fr.size
      go_wp2_with (at_builtin; refine wpList_append_own_at _ rfl (.tmp 29) (.tmp 31) 23 rfl w.heap.size 3 j0 (.int .i64 0) 1 8 Tryz.underlying23 hj hy0 hy1 hy2 rfl (by decide) _ i _ rfl (World.ownsRow.alloc hrow _) ⟨w3.heap.size, 0, none⟩ 1 1 [_] rfl rfl (cell_one_new _ _ _) ?c2 ?c3 ?c4 ?c5 ?nx)
      case c2 => intro u hu; simp at hu; subst hu; rfl
      case c3 => unfold maxLen; omega
      case c4 => omega
      case c5 => simp; omega
      case nx =>
        intro v' w5 hown' hgrow _ hpl
        have hn5 : NRow w.heap.size w5 v' (wkK p (i + 1)) := by
          rw [(unhide HY).2.1]; unfold NRow; rw [List.length_append, (unhide HY).2.2]; simpa using hown'
        obtain ⟨a5, cap5, rfl⟩ : ∃ a5 cap5, v' = .slice a5 (i + 1) cap5 := own_slice hown'
        obtain ⟨⟨d0, d1⟩, C5'⟩ := (unhide C3).grown hn5 hgrow
        obtain ⟨W5, hW5⟩ : ∃ W5, W5 = w5.setCell ⟨lb, 0, none⟩ (.slice a5 (i + 1) cap5) := ⟨_, rfl⟩
        rw [← hW5] at C5'
        have C5 := hide C5'
        have HW5 := hide hW5
        clear hown' hgrow hpl hn5 C3 hrow c0 C5' hW5
        have c1 : W5.cell? ⟨lb, 1, none⟩ = some (.int .i64 (x : Int)) := blk_cell (unhide C5).k rfl
        go_upto_region 8 with fail
        rw [← unhide HW5]
        clear d0 d1 HW5
        go_wp2_with fail
        refine (unhide KD _ _ _ _).mono ?_
        rintro e w6 ⟨rfl, b6⟩
        have C6 := hide ((unhide C5).bw b6)
        have K4 := hide (unhide K2 w6 sv3 (unhide C6).s.st)
        clear c1 b6 C5 K2 KD
        go_wp2_with fail
        refine (unhide K4).mono ?_
        rintro e w7 ⟨rfl, sv7, s7⟩
        obtain ⟨⟨d0, d1⟩, C8'⟩ := ((unhide C6).step s7).putX z
        obtain ⟨W8, hW8⟩ : ∃ W8, W8 = w7.setCell ⟨lb, 1, none⟩ (.int .i64 (z : Int)) := ⟨_, rfl⟩
        rw [← hW8] at C8'
        have C8 : Hid (WC w W8 b sv sv7 mb (wkS p (i + 1)).1 rb lb (.slice a5 (i + 1) cap5) (wkK p (i + 1)) (wkS p (i + 1)).2) := by rw [← (unhide HY).1]; exact C8'
        have HW8 := hide hW8
        clear s7 C6 K4 C8' hW8
        go_upto_region 9 with fail
        rw [← unhide HW8]
        clear d0 d1 HW8
        go_wp2_with fail
        go_roundw
        case rel => exact ⟨i + 1, sv7, a5, cap5, by go_num, by omega, C8⟩
        case measure => simp only [intOf]; omega
    · obtain rfl : i = n := by omega
      clear HP1 HP2 KD hlt hi
      have HB2 := hide (And.intro (show w.heap.size ≤ rb by rw [(unhide HB).1]; exact Nat.le_refl _) (wkK_len p i))
      obtain ⟨hs, hr, hk, hkr, hlo, hne⟩ := unhide HC
      obtain ⟨x, hx⟩ : ∃ x : Nat, x = (wkS p i).2 := ⟨_, rfl⟩
      rw [← hx] at hk
      have HX2 := hide hx
      clear hx
      have l0 : wr.cell? ⟨lb, 0, none⟩ = some (.slice a i cap) := blk_cell hk rfl
      have l1 : wr.cell? ⟨lb, 1, none⟩ = some (.int .i64 (x : Int)) := blk_cell hk rfl
      have h0 : wr.cell? ⟨rb, 0, none⟩ = some (.slice none 0 0) := blk_cell hkr rfl
      have h1 : wr.cell? ⟨rb, 1, none⟩ = some (.int .i64 0) := blk_cell hkr rfl
      have hf := fun j => blk_froz (i := j) hkr
      have HT := hide (hs.two hkr (by decide) (by decide) (unhide HB2).1 (.slice a i cap) (.int .i64 (x : Int)))
      have HR := hide (And.intro hr hkr)
      clear hs hr hk hkr hlo hne HC HB
      go_wp2_with fail
      obtain ⟨SV, bV, oV⟩ := unhide HT
      have HRV := hide ((unhide HR).1.other (unhide HR).2 (by decide) oV)
      generalize (wr.setCell ⟨rb, 0, none⟩ (.slice a i cap)).setCell ⟨rb, 1, none⟩ (.int .i64 (x : Int)) = V at SV bV HRV ⊢
      have g0 := blk_cell (i := 0) bV rfl
      have g1 := blk_cell (i := 1) bV rfl
      have HSV := hide SV
      clear SV bV oV HT h0 h1 hf l0 l1 HR
      exact bodyPost_ret (v := .tuple #[.agg #[.slice a i cap, .int .i64 (x : Int)], .int .i64 0]) (by simp [results, Tryz.results147, go_sem, g0, g1]) rfl ⟨a, cap, by rw [unhide HX2], sv1, unhide HSV, unhide HRV⟩
end Go.Proofs.YtkaioidneknmjaaGreatDoor.Tn

/- The contract of Across. -/
namespace Go.Proofs.YtkaioidneknmjaaGreatDoor.Tn
open Go.RowKit Go.Maps

theorem mapT_ok {ph : List Nat} {t : Tm} (h : t.ok) (hb : ∀ i, ph.getD i 0 ≤ 1048576) : (mapT ph t).ok :=
  ⟨h.k1, h.k2, h.n1, h.n2, by have := hb t.a.toNat; simp only [mapT]; omega, by have := hb t.a.toNat; simp only [mapT]; omega, by have := hb t.b.toNat; simp only [mapT]; omega, by have := hb t.b.toNat; simp only [mapT]; omega⟩
theorem Acr.bound {L : List Tm} {i : Nat} {R : List Tm} {ph : List Nat} (h : Acr L i R ph) (k : Nat) : ph.getD k 0 ≤ 1048576 := by
  have hl := h.good.len
  have hlen := h.len
  by_cases c : k < ph.length
  · by_cases c0 : k = 0
    · subst c0; rw [h.zero]; omega
    · have := h.rng k (by omega) (by omega); omega
  · simp [List.getD, List.getElem?_eq_none (Nat.le_of_not_lt c)]

set_option maxRecDepth 100000 in
set_option maxHeartbeats 8000000 in
theorem across_any (w wr : World) (b : Nat) (sv : Value) (mb rb : Nat) (rv : Value) (L R : List Tm) (h : Two w wr b sv mb rb rv L R) (hL : L.length ≤ 3000) (hR : R.length ≤ 3000) :
    Calls Tryz.prog 11 #[.pointer (some ⟨b, 0, none⟩), .pointer (some ⟨rb, 0, none⟩)] wr fun e w' => ∃ mp lv rv' R' ph, e = .returned (.tuple #[.pointer (some ⟨mp, 0, none⟩), .bool true]) ∧ Ac w w' b sv mb rb rv' L R' mp lv ph ∧ Acr L L.length R' ph ∧ ∃ x, R' = R ++ x := by
  have S0 := Ac.start h
  have hG := h.st.good
  have A0 := acr_start h.rs.good L
  obtain ⟨j0, hj, hy0, hy1, hy2⟩ := info_parts Tryz.infoInt
  obtain ⟨N, hN⟩ : ∃ N, N = L.length := ⟨_, rfl⟩
  have hNb : (N : Int) ≤ 3000 := by omega
  have KL : ∀ W rv' R' mp lv ph, Ac w W b sv mb rb rv' L R' mp lv ph → Calls Tryz.prog 33 #[.pointer (some ⟨b, 0, none⟩)] W fun e w' => e = .returned (.int .i64 (N : Int)) ∧ w' = W := fun W rv' R' mp lv ph hA => by
    rw [hN]; exact len_any b sv mb L W hA.two.st
  have HH := hide (And.intro hN (And.intro hG (And.intro hR (And.intro S0 A0))))
  have HKL := hide KL
  have KL0 := KL _ _ _ _ _ _ S0
  clear hG hN h hL hR S0 A0 KL
  go_enter Tryz.func11, Tryz.ntmps11
  go_wp2_with fail
  refine KL0.mono ?_
  rintro e w1 ⟨rfl, rfl⟩
  have HS : Hid (Ac w ((wr.alloc (.cells #[.int .i64 0] 3)).alloc (.cells #[.slice (some ⟨wr.heap.size, 0, none⟩) 1 1] 112)) b sv mb rb rv L R (wr.heap.size + 1) (.slice (some ⟨wr.heap.size, 0, none⟩) 1 1) [0] ∧ Acr L 0 R [0] ∧ R.length ≤ 3000 + 0 ∧ ∃ x, R = R ++ x) := ⟨(unhide HH).2.2.2.1, (unhide HH).2.2.2.2, (unhide HH).2.2.1, [], by simp⟩
  clear KL0
  obtain ⟨mp, hmp⟩ : ∃ mp, mp = wr.heap.size + 1 := ⟨_, rfl⟩
  rw [← hmp] at HS ⊢
  clear hmp
  go_wp2_with fail
  go_loopw [7] (fun iv wq => ∃ (i : Nat) (rv' lv : Value) (R' : List Tm) (ph : List Nat), i ≤ N ∧ iv = .int .i64 ((i : Int) + 1) ∧ Hid (Ac w wq b sv mb rb rv' L R' mp lv ph ∧ Acr L i R' ph ∧ R'.length ≤ 3000 + i ∧ ∃ x, R' = R ++ x)) (fun iv _ => (N + 1 - intOf iv).toNat)
  case atStart => exact ⟨0, rv, _, R, [0], by omega, rfl, HS⟩
  case round =>
    clear HS
    obtain ⟨i, rv', lv, R', ph, hi, rfl, HS⟩ := hrel
    have KLw := unhide HKL wr _ _ _ _ _ (unhide HS).1
    by_cases hlt : i < N
    · obtain ⟨hAc, hAr, hRl, hx⟩ := unhide HS
      obtain ⟨hN, hG, _⟩ := unhide HH
      have hi1 : 1 ≤ i + 1 := by omega
      have hi2 : i + 1 ≤ L.length := by omega
      obtain ⟨p1, p2⟩ := hG.parts hi1 hi2
      obtain ⟨ta, tb⟩ := hG.tmAt_parts hi1 hi2
      have hth : thr L.length ((i : Int) + 1) = true := thr_iff.2 (by omega)
      have eg : getT L ((i : Int) + 1) = tmAt L (i + 1) := by
        have : ((i : Int) + 1).toNat = i + 1 := by omega
        simp [getT, hth, this]
      have KG := get_any b sv mb L ((i : Int) + 1) wr hAc.two.st
      rw [hth, eg, ta, tb] at KG
      have hst := hAr.step hG (by omega) (by omega)
      have htok : (tmAt L (i + 1)).ok := hAc.two.st.fit _ (by
        have : L[i]? = some (tmAt L (i + 1)) := by simp [tmAt, List.getD, List.getElem?_eq_getElem (show i < L.length by omega)]
        exact List.mem_of_getElem? this)
      have hmok := mapT_ok (ph := ph) htok hAr.bound
      have emap : mapT ph (tmAt L (i + 1)) = ⟨(tmAt L (i + 1)).kd, (tmAt L (i + 1)).n, (ph.getD (pA L (i + 1)) 0 : Nat), (ph.getD (pB L (i + 1)) 0 : Nat)⟩ := rfl
      rw [emap] at hst hmok
      have hlen := hAr.len
      obtain ⟨g, cp, rfl, hgw⟩ := hAc.form (by omega)
      have hA1 : pA L (i + 1) < ph.length := by omega
      have hB1 : pB L (i + 1) < ph.length := by omega
      have HP := hide (And.intro hst (And.intro hmok (And.intro hlen (And.intro hA1 (And.intro hB1 (And.intro hx hRl))))))
      have HA := hide hAc
      have hphb : (ph.length : Int) ≤ 3001 := by omega
      have hlt' : (i : Int) < (N : Int) := by omega
      have eA : (pA L (i + 1) : Int) < (i : Int) + 1 := by omega
      have eB : (pB L (i + 1) : Int) < (i : Int) + 1 := by omega
      have eA2 : (pA L (i + 1) : Int) < (ph.length : Int) := by omega
      have eB2 : (pB L (i + 1) : Int) < (ph.length : Int) := by omega
      clear hN hG hi1 hi2 p1 p2 ta tb hth eg hst htok hmok emap hlen hA1 hB1 hx hAc hAr hRl HS hgw
      generalize (tmAt L (i + 1)).kd = kd at *
      generalize (tmAt L (i + 1)).n = nn at *
      generalize pA L (i + 1) = A at *
      generalize pB L (i + 1) = B at *
      generalize hfa : ph.getD A 0 = fa at *
      generalize hfb : ph.getD B 0 = fb at *
      have HF := hide (And.intro hfa hfb)
      clear hfa hfb
      go_wp2_with fail
      refine KLw.mono ?_
      rintro e w1 ⟨rfl, rfl⟩
      go_wp2_with fail
      refine KG.mono ?_
      rintro e w2 ⟨rfl, hb2⟩
      have A2 := (unhide HA).new hb2
      have HA2 := hide A2
      have cm := A2.cells.1
      have hmw := lt_of_blk A2.blk
      have cA := A2.at (unhide HP).2.2.2.1
      have cB := A2.at (unhide HP).2.2.2.2.1
      rw [(unhide HF).1] at cA
      rw [(unhide HF).2] at cB
      have hgw := lt_of_cell cA
      clear A2 KG KLw hb2 HA
      have zA : ¬ ((A : Int) < 0) := by omega
      have zB : ¬ ((B : Int) < 0) := by omega
      have dA : decide ((i : Int) + 1 ≤ (A : Int)) = false := decide_eq_false (by omega)
      have dB : decide ((i : Int) + 1 ≤ (B : Int)) = false := decide_eq_false (by omega)
      go_upto_region 10 with fail
      go_cut [54] from 54 to 62 (fun s54 wx => s54 = .pointer (some ⟨mp, 0, none⟩) ∧ Hid (Ac w wx b sv mb rb rv' L R' mp (.slice (some ⟨g, 0, none⟩) ph.length cp) ph ∧ wx.heap[w2.heap.size]? = some (.cells #[.int .u8 kd, .int .i64 nn, .int .i64 (fa : Int), .int .i64 (B : Int)] 89 (0, 0)) ∧ w2.heap.size < wx.heap.size ∧ Below w2.heap.size w2 wx))
      case first =>
        go_region_with fail
        all_goals
          go_wp2_with fail
          go_meet
          case rel =>
            exact ⟨rfl, (unhide HA2).new ((bw_alloc w2 _).drew), heap_alloc_new w2 _, by simp, (bw_alloc w2 _).drew⟩
      case rest =>
        obtain ⟨rfl, HC⟩ := hcut
        obtain ⟨hAc, hbk, hsz, hbl⟩ := unhide HC
        have y0 : wc.cell? ⟨w2.heap.size, 0, none⟩ = some (.int .u8 kd) := by simp [World.cell?, hbk]
        have y1 : wc.cell? ⟨w2.heap.size, 1, none⟩ = some (.int .i64 nn) := by simp [World.cell?, hbk]
        have y2 : wc.cell? ⟨w2.heap.size, 2, none⟩ = some (.int .i64 (fa : Int)) := by simp [World.cell?, hbk]
        have y3 : wc.cell? ⟨w2.heap.size, 3, none⟩ = some (.int .i64 (B : Int)) := by simp [World.cell?, hbk]
        have yf : ∀ j, wc.frozen? ⟨w2.heap.size, j, none⟩ = false := fun j => by simp [World.frozen?, hbk]
        have cm2 := hAc.cells.1
        have cB2 : wc.cell? ⟨g, B, none⟩ = some (.int .i64 (fb : Int)) := by
          have := hAc.at (unhide HP).2.2.2.2.1
          rw [(unhide HF).2] at this; exact this
        have hsb : (wc.setCell ⟨w2.heap.size, 3, none⟩ (.int .i64 (fb : Int))).heap[w2.heap.size]? = some (.cells #[.int .u8 kd, .int .i64 nn, .int .i64 (fa : Int), .int .i64 (fb : Int)] 89 (0, 0)) := by
          simp [World.setCell, Array.getElem?_modify, hbk]
        have HSB := hide hsb
        clear hAc hbk hsb cm cA cB dA dB zA zB eA eB hmw hgw
        go_upto_region 11 with fail
        go_cut [63] from 63 to 71 (fun s63 wx => s63 = .pointer (some ⟨mp, 0, none⟩) ∧ Hid (Ac w wx b sv mb rb rv' L R' mp (.slice (some ⟨g, 0, none⟩) ph.length cp) ph) ∧ wx.cell? ⟨w2.heap.size, 0, none⟩ = some (.int .u8 kd) ∧ wx.cell? ⟨w2.heap.size, 1, none⟩ = some (.int .i64 nn) ∧ wx.cell? ⟨w2.heap.size, 2, none⟩ = some (.int .i64 (fa : Int)) ∧ wx.cell? ⟨w2.heap.size, 3, none⟩ = some (.int .i64 (fb : Int)))
        case first =>
          go_region_with fail
          all_goals
            go_wp2_with fail
            go_meet
            case rel =>
              have hb9 : Below w2.heap.size w2 (wc.setCell ⟨w2.heap.size, 3, none⟩ (.int .i64 (fb : Int))).drew := ((unhide HC).2.2.2.setCell (by simp) _).drew
              have hk : ∀ W : World, W.heap = (wc.setCell ⟨w2.heap.size, 3, none⟩ (.int .i64 (fb : Int))).heap → W.cell? ⟨w2.heap.size, 0, none⟩ = some (.int .u8 kd) ∧ W.cell? ⟨w2.heap.size, 1, none⟩ = some (.int .i64 nn) ∧ W.cell? ⟨w2.heap.size, 2, none⟩ = some (.int .i64 (fa : Int)) ∧ W.cell? ⟨w2.heap.size, 3, none⟩ = some (.int .i64 (fb : Int)) := fun W e => by
                simp [World.cell?, e, unhide HSB]
              exact ⟨rfl, (unhide HA2).new hb9, hk _ rfl⟩
        case rest =>
          clear y0 y1 y2 y3 yf cm2 cB2 HSB HC hsz hbl HA2
          obtain ⟨rfl, HD, y0, y1, y2, y3⟩ := hcut
          have hD := unhide HD
          have KM := rmake_any rb rv' R' ⟨kd, nn, fa, fb⟩ _ hD.two.rs (unhide HP).2.1
          rw [(unhide HP).1.1] at KM
          simp only at KM
          have hnb := mkN_bd hD.two.rs.good ⟨kd, nn, fa, fb⟩
          obtain ⟨hst, _, hlen, _, _, hx, hRl⟩ := unhide HP
          have hR2 : (mkL R' ⟨kd, nn, fa, fb⟩).length ≤ 3000 + (i + 1) := by have := mkL_len R' ⟨kd, nn, fa, fb⟩; omega
          have hx2 : ∃ x, mkL R' ⟨kd, nn, fa, fb⟩ = R ++ x := by
            obtain ⟨x, hx⟩ := hx
            obtain ⟨r, hr⟩ := mkL_prefix R' ⟨kd, nn, fa, fb⟩
            exact ⟨x ++ r, by rw [hr, hx, List.append_assoc]⟩
          have HP2 := hide (And.intro hst.2 (And.intro hR2 hx2))
          have hnb2 : 0 ≤ ((mkN R' ⟨kd, nn, fa, fb⟩ : Nat) : Int) := by omega
          clear hD hst hlen hx hRl hR2 hx2 HP
          generalize mkN R' ⟨kd, nn, fa, fb⟩ = kn at *
          generalize mkL R' ⟨kd, nn, fa, fb⟩ = R2 at *
          go_wp2_with fail
          refine KM.mono ?_
          rintro e w5 ⟨rfl, rv2, s5⟩
          have A5 := (unhide HD).stepR s5
          have cm5 := A5.cells.1
          have hmw := lt_of_blk A5.blk
          have hrow : w5.ownsRow 0 3 1 (.slice (some ⟨g, 0, none⟩) ph.length cp) ph.length (ph.map (fun m => .int .i64 ((m : Nat) : Int))) := A5.row
          have HA5 := hide A5
          clear A5 s5 KM HD y0 y1 y2 y3
          go_wp2_with (at_builtin; refine wpList_append_own_at _ rfl (.tmp 84) (.tmp 86) 23 rfl 0 3 j0 (.int .i64 0) 1 8 Tryz.underlying23 hj hy0 hy1 hy2 rfl (by decide) _ ph.length _ rfl (World.ownsRow.alloc hrow _) ⟨w5.heap.size, 0, none⟩ 1 1 [_] rfl rfl (cell_one_new _ _ _) ?c2 ?c3 ?c4 ?c5 ?nx)
          case c2 => intro u hu; simp at hu; subst hu; rfl
          case c3 => unfold maxLen; omega
          case c4 => omega
          case c5 => exact Nat.zero_le _
          case nx =>
            intro v' w6 hown' hgrow _ hat
            obtain ⟨q1, q2, A6⟩ := (unhide HA5).push hown' hgrow (by simpa using hat)
            obtain ⟨g', cap', rfl⟩ := own_form hown'
            have HR : Hid (Ac w (w6.setCell ⟨mp, 0, none⟩ (.slice (some ⟨g', 0, none⟩) (ph.length + 1) cap')) b sv mb rb rv2 L R2 mp (.slice (some ⟨g', 0, none⟩) (ph.length + 1) cap') (ph ++ [kn]) ∧ Acr L (i + 1) R2 (ph ++ [kn]) ∧ R2.length ≤ 3000 + (i + 1) ∧ ∃ x, R2 = R ++ x) := ⟨A6, unhide HP2⟩
            clear A6 hown' hgrow hat HA5 HP2 hrow
            go_wp2_with fail
            go_roundw
            case rel => exact ⟨i + 1, rv2, _, R2, ph ++ [kn], by omega, by go_num, HR⟩
            case measure => simp only [intOf]; omega
    · obtain rfl : i = N := by omega
      clear hlt hi
      go_wp2_with fail
      refine KLw.mono ?_
      rintro e w1 ⟨rfl, rfl⟩
      go_wp2_with fail
      go_ret2
      obtain ⟨hAc, hAr, hRl, hx⟩ := unhide HS
      rw [(unhide HH).1] at hAr
      exact ⟨mp, lv, rv', R', ph, rfl, hAc, hAr, hx⟩

end Go.Proofs.YtkaioidneknmjaaGreatDoor.Tn

/- The contract of Across, with what it leaves alone. -/
namespace Go.Proofs.YtkaioidneknmjaaGreatDoor.Tn
open Go.RowKit Go.Maps

/-- What has turned since: the document's store, and new blocks. -/
structure Ex (w0 wr : World) (rb : Nat) (rv rv' : Value) (mp : Nat) (lv : Value) : Prop where
  fr : Fr (rfoot rb rv) w0 wr
  place : ∀ k, rv'.ownBlock = some k → rv.ownBlock = some k ∨ w0.heap.size ≤ k
  mlow : w0.heap.size ≤ mp
  llow : ∀ k, lv.ownBlock = some k → w0.heap.size ≤ k
theorem Ex.new {w0 wr w' : World} {rb : Nat} {rv rv' : Value} {mp : Nat} {lv : Value} (h : Ex w0 wr rb rv rv' mp lv) (hb : Below wr.heap.size wr w') : Ex w0 w' rb rv rv' mp lv := ⟨h.fr.below hb, h.place, h.mlow, h.llow⟩
theorem Ex.stepR {w0 wr w' : World} {rb : Nat} {rv rv' rv2 : Value} {mp : Nat} {lv : Value} {R : List Tm} (h : Ex w0 wr rb rv rv' mp lv) (s : RStep wr w' rb rv' rv2 R) : Ex w0 w' rb rv rv2 mp lv := by
  refine ⟨h.fr.trans s.fr (fun _ _ c => c) (fun x hx c => ?_), fun x hx => ?_, h.mlow, h.llow⟩
  · rcases mem_rfoot.1 c with c | c
    · exact mem_rfoot.2 (Or.inl c)
    · rcases h.place x c with c | c
      · exact mem_rfoot.2 (Or.inr c)
      · omega
  · rcases s.place x hx with c | c
    · exact h.place x c
    · exact Or.inr (Nat.le_trans h.fr.size c)
theorem Ex.push {w0 w1 w2 : World} {rb : Nat} {rv rv' : Value} {mp : Nat} {lv v' : Value} {ob : Obj} (h : Ex w0 w1 rb rv rv' mp lv) (hg : (w1.alloc ob).grownBy w2 lv.ownBlock) (hat : v'.ownBlock = lv.ownBlock ∨ v'.ownBlock = some (w1.alloc ob).heap.size) : Ex w0 (w2.setCell ⟨mp, 0, none⟩ v') rb rv rv' mp v' := by
  have f1 : Fr (rfoot rb rv) w0 w2 := (h.fr.alloc ob).trans (Fr.ofGrown hg) (fun _ _ c => c) (fun x hx c => by have := h.llow x (by simpa using c); omega)
  refine ⟨f1.setCell (Or.inl h.mlow) _, h.place, h.mlow, fun k hk => ?_⟩
  rcases hat with c | c
  · exact h.llow k (by rw [← c]; exact hk)
  · rw [c] at hk; have := h.fr.size; simp at hk; omega
theorem Ex.start (wr : World) (rb : Nat) (rv : Value) : Ex wr ((wr.alloc (.cells #[.int .i64 0] 3)).alloc (.cells #[.slice (some ⟨wr.heap.size, 0, none⟩) 1 1] 112)) rb rv rv (wr.heap.size + 1) (.slice (some ⟨wr.heap.size, 0, none⟩) 1 1) :=
  ⟨((Fr.refl _ _).alloc _).alloc _, fun _ h => Or.inl h, by omega, fun k hk => by simp [Value.ownBlock] at hk; omega⟩

set_option maxRecDepth 100000 in
set_option maxHeartbeats 8000000 in
theorem acrossx_any (w wr : World) (b : Nat) (sv : Value) (mb rb : Nat) (rv : Value) (L R : List Tm) (h : Two w wr b sv mb rb rv L R) (hL : L.length ≤ 3000) (hR : R.length ≤ 3000) :
    Calls Tryz.prog 11 #[.pointer (some ⟨b, 0, none⟩), .pointer (some ⟨rb, 0, none⟩)] wr fun e w' => ∃ mp lv rv' R' ph, e = .returned (.tuple #[.pointer (some ⟨mp, 0, none⟩), .bool true]) ∧ Ac w w' b sv mb rb rv' L R' mp lv ph ∧ Acr L L.length R' ph ∧ (∃ x, R' = R ++ x) ∧ Fr (rfoot rb rv) wr w' := by
  have S0 := Ac.start h
  have X0 := Ex.start wr rb rv
  obtain ⟨wr0, hwr0⟩ : ∃ wr0, wr0 = wr := ⟨_, rfl⟩
  have hG := h.st.good
  have A0 := acr_start h.rs.good L
  obtain ⟨j0, hj, hy0, hy1, hy2⟩ := info_parts Tryz.infoInt
  obtain ⟨N, hN⟩ : ∃ N, N = L.length := ⟨_, rfl⟩
  have hNb : (N : Int) ≤ 3000 := by omega
  have KL : ∀ W rv' R' mp lv ph, Ac w W b sv mb rb rv' L R' mp lv ph → Calls Tryz.prog 33 #[.pointer (some ⟨b, 0, none⟩)] W fun e w' => e = .returned (.int .i64 (N : Int)) ∧ w' = W := fun W rv' R' mp lv ph hA => by
    rw [hN]; exact len_any b sv mb L W hA.two.st
  have HH := hide (And.intro hN (And.intro hG (And.intro hR (And.intro S0 (And.intro A0 X0)))))
  have HKL := hide KL
  have KL0 := KL _ _ _ _ _ _ S0
  have HW := hide hwr0
  clear hG hN h hL hR S0 A0 KL X0 hwr0
  go_enter Tryz.func11, Tryz.ntmps11
  go_wp2_with fail
  refine KL0.mono ?_
  rintro e w1 ⟨rfl, rfl⟩
  have HS : Hid (Ac w ((wr.alloc (.cells #[.int .i64 0] 3)).alloc (.cells #[.slice (some ⟨wr.heap.size, 0, none⟩) 1 1] 112)) b sv mb rb rv L R (wr.heap.size + 1) (.slice (some ⟨wr.heap.size, 0, none⟩) 1 1) [0] ∧ Acr L 0 R [0] ∧ R.length ≤ 3000 + 0 ∧ (∃ x, R = R ++ x) ∧ Ex wr ((wr.alloc (.cells #[.int .i64 0] 3)).alloc (.cells #[.slice (some ⟨wr.heap.size, 0, none⟩) 1 1] 112)) rb rv rv (wr.heap.size + 1) (.slice (some ⟨wr.heap.size, 0, none⟩) 1 1)) := ⟨(unhide HH).2.2.2.1, (unhide HH).2.2.2.2.1, (unhide HH).2.2.1, ⟨[], by simp⟩, (unhide HH).2.2.2.2.2⟩
  clear KL0
  obtain ⟨mp, hmp⟩ : ∃ mp, mp = wr.heap.size + 1 := ⟨_, rfl⟩
  rw [← hmp] at HS ⊢
  have HS' : Hid (Ac w ((wr.alloc (.cells #[.int .i64 0] 3)).alloc (.cells #[.slice (some ⟨wr.heap.size, 0, none⟩) 1 1] 112)) b sv mb rb rv L R mp (.slice (some ⟨wr.heap.size, 0, none⟩) 1 1) [0] ∧ Acr L 0 R [0] ∧ R.length ≤ 3000 + 0 ∧ (∃ x, R = R ++ x) ∧ Ex wr0 ((wr.alloc (.cells #[.int .i64 0] 3)).alloc (.cells #[.slice (some ⟨wr.heap.size, 0, none⟩) 1 1] 112)) rb rv rv mp (.slice (some ⟨wr.heap.size, 0, none⟩) 1 1)) := by rw [unhide HW]; exact HS
  clear hmp HS
  go_wp2_with fail
  go_loopw [7] (fun iv wq => ∃ (i : Nat) (rv' lv : Value) (R' : List Tm) (ph : List Nat), i ≤ N ∧ iv = .int .i64 ((i : Int) + 1) ∧ Hid (Ac w wq b sv mb rb rv' L R' mp lv ph ∧ Acr L i R' ph ∧ R'.length ≤ 3000 + i ∧ (∃ x, R' = R ++ x) ∧ Ex wr0 wq rb rv rv' mp lv)) (fun iv _ => (N + 1 - intOf iv).toNat)
  case atStart => exact ⟨0, rv, _, R, [0], by omega, rfl, HS'⟩
  case round =>
    clear HS'
    obtain ⟨i, rv', lv, R', ph, hi, rfl, HS⟩ := hrel
    have KLw := unhide HKL wr _ _ _ _ _ (unhide HS).1
    by_cases hlt : i < N
    · obtain ⟨hAc, hAr, hRl, hx, hEx⟩ := unhide HS
      have HEX := hide hEx
      clear hEx
      obtain ⟨hN, hG, _⟩ := unhide HH
      have hi1 : 1 ≤ i + 1 := by omega
      have hi2 : i + 1 ≤ L.length := by omega
      obtain ⟨p1, p2⟩ := hG.parts hi1 hi2
      obtain ⟨ta, tb⟩ := hG.tmAt_parts hi1 hi2
      have hth : thr L.length ((i : Int) + 1) = true := thr_iff.2 (by omega)
      have eg : getT L ((i : Int) + 1) = tmAt L (i + 1) := by
        have : ((i : Int) + 1).toNat = i + 1 := by omega
        simp [getT, hth, this]
      have KG := get_any b sv mb L ((i : Int) + 1) wr hAc.two.st
      rw [hth, eg, ta, tb] at KG
      have hst := hAr.step hG (by omega) (by omega)
      have htok : (tmAt L (i + 1)).ok := hAc.two.st.fit _ (by
        have : L[i]? = some (tmAt L (i + 1)) := by simp [tmAt, List.getD, List.getElem?_eq_getElem (show i < L.length by omega)]
        exact List.mem_of_getElem? this)
      have hmok := mapT_ok (ph := ph) htok hAr.bound
      have emap : mapT ph (tmAt L (i + 1)) = ⟨(tmAt L (i + 1)).kd, (tmAt L (i + 1)).n, (ph.getD (pA L (i + 1)) 0 : Nat), (ph.getD (pB L (i + 1)) 0 : Nat)⟩ := rfl
      rw [emap] at hst hmok
      have hlen := hAr.len
      obtain ⟨g, cp, rfl, hgw⟩ := hAc.form (by omega)
      have hA1 : pA L (i + 1) < ph.length := by omega
      have hB1 : pB L (i + 1) < ph.length := by omega
      have HP := hide (And.intro hst (And.intro hmok (And.intro hlen (And.intro hA1 (And.intro hB1 (And.intro hx hRl))))))
      have HA := hide hAc
      have hphb : (ph.length : Int) ≤ 3001 := by omega
      have hlt' : (i : Int) < (N : Int) := by omega
      have eA : (pA L (i + 1) : Int) < (i : Int) + 1 := by omega
      have eB : (pB L (i + 1) : Int) < (i : Int) + 1 := by omega
      have eA2 : (pA L (i + 1) : Int) < (ph.length : Int) := by omega
      have eB2 : (pB L (i + 1) : Int) < (ph.length : Int) := by omega
      clear hN hG hi1 hi2 p1 p2 ta tb hth eg hst htok hmok emap hlen hA1 hB1 hx hAc hAr hRl HS hgw
      generalize (tmAt L (i + 1)).kd = kd at *
      generalize (tmAt L (i + 1)).n = nn at *
      generalize pA L (i + 1) = A at *
      generalize pB L (i + 1) = B at *
      generalize hfa : ph.getD A 0 = fa at *
      generalize hfb : ph.getD B 0 = fb at *
      have HF := hide (And.intro hfa hfb)
      clear hfa hfb
      go_wp2_with fail
      refine KLw.mono ?_
      rintro e w1 ⟨rfl, rfl⟩
      go_wp2_with fail
      refine KG.mono ?_
      rintro e w2 ⟨rfl, hb2⟩
      have A2 := (unhide HA).new hb2
      have HEX2 := hide ((unhide HEX).new hb2)
      clear HEX
      have HA2 := hide A2
      have cm := A2.cells.1
      have hmw := lt_of_blk A2.blk
      have cA := A2.at (unhide HP).2.2.2.1
      have cB := A2.at (unhide HP).2.2.2.2.1
      rw [(unhide HF).1] at cA
      rw [(unhide HF).2] at cB
      have hgw := lt_of_cell cA
      clear A2 KG KLw hb2 HA
      have zA : ¬ ((A : Int) < 0) := by omega
      have zB : ¬ ((B : Int) < 0) := by omega
      have dA : decide ((i : Int) + 1 ≤ (A : Int)) = false := decide_eq_false (by omega)
      have dB : decide ((i : Int) + 1 ≤ (B : Int)) = false := decide_eq_false (by omega)
      go_upto_region 10 with fail
      go_cut [54] from 54 to 62 (fun s54 wx => s54 = .pointer (some ⟨mp, 0, none⟩) ∧ Hid (Ac w wx b sv mb rb rv' L R' mp (.slice (some ⟨g, 0, none⟩) ph.length cp) ph ∧ wx.heap[w2.heap.size]? = some (.cells #[.int .u8 kd, .int .i64 nn, .int .i64 (fa : Int), .int .i64 (B : Int)] 89 (0, 0)) ∧ w2.heap.size < wx.heap.size ∧ Below w2.heap.size w2 wx))
      case first =>
        go_region_with fail
        all_goals
          go_wp2_with fail
          go_meet
          case rel =>
            exact ⟨rfl, (unhide HA2).new ((bw_alloc w2 _).drew), heap_alloc_new w2 _, by simp, (bw_alloc w2 _).drew⟩
      case rest =>
        obtain ⟨rfl, HC⟩ := hcut
        obtain ⟨hAc, hbk, hsz, hbl⟩ := unhide HC
        have y0 : wc.cell? ⟨w2.heap.size, 0, none⟩ = some (.int .u8 kd) := by simp [World.cell?, hbk]
        have y1 : wc.cell? ⟨w2.heap.size, 1, none⟩ = some (.int .i64 nn) := by simp [World.cell?, hbk]
        have y2 : wc.cell? ⟨w2.heap.size, 2, none⟩ = some (.int .i64 (fa : Int)) := by simp [World.cell?, hbk]
        have y3 : wc.cell? ⟨w2.heap.size, 3, none⟩ = some (.int .i64 (B : Int)) := by simp [World.cell?, hbk]
        have yf : ∀ j, wc.frozen? ⟨w2.heap.size, j, none⟩ = false := fun j => by simp [World.frozen?, hbk]
        have cm2 := hAc.cells.1
        have cB2 : wc.cell? ⟨g, B, none⟩ = some (.int .i64 (fb : Int)) := by
          have := hAc.at (unhide HP).2.2.2.2.1
          rw [(unhide HF).2] at this; exact this
        have hsb : (wc.setCell ⟨w2.heap.size, 3, none⟩ (.int .i64 (fb : Int))).heap[w2.heap.size]? = some (.cells #[.int .u8 kd, .int .i64 nn, .int .i64 (fa : Int), .int .i64 (fb : Int)] 89 (0, 0)) := by
          simp [World.setCell, Array.getElem?_modify, hbk]
        have HSB := hide hsb
        clear hAc hbk hsb cm cA cB dA dB zA zB eA eB hmw hgw
        go_upto_region 11 with fail
        go_cut [63] from 63 to 71 (fun s63 wx => s63 = .pointer (some ⟨mp, 0, none⟩) ∧ Hid (Ac w wx b sv mb rb rv' L R' mp (.slice (some ⟨g, 0, none⟩) ph.length cp) ph ∧ Below w2.heap.size w2 wx) ∧ wx.cell? ⟨w2.heap.size, 0, none⟩ = some (.int .u8 kd) ∧ wx.cell? ⟨w2.heap.size, 1, none⟩ = some (.int .i64 nn) ∧ wx.cell? ⟨w2.heap.size, 2, none⟩ = some (.int .i64 (fa : Int)) ∧ wx.cell? ⟨w2.heap.size, 3, none⟩ = some (.int .i64 (fb : Int)))
        case first =>
          go_region_with fail
          all_goals
            go_wp2_with fail
            go_meet
            case rel =>
              have hb9 : Below w2.heap.size w2 (wc.setCell ⟨w2.heap.size, 3, none⟩ (.int .i64 (fb : Int))).drew := ((unhide HC).2.2.2.setCell (by simp) _).drew
              have hk : ∀ W : World, W.heap = (wc.setCell ⟨w2.heap.size, 3, none⟩ (.int .i64 (fb : Int))).heap → W.cell? ⟨w2.heap.size, 0, none⟩ = some (.int .u8 kd) ∧ W.cell? ⟨w2.heap.size, 1, none⟩ = some (.int .i64 nn) ∧ W.cell? ⟨w2.heap.size, 2, none⟩ = some (.int .i64 (fa : Int)) ∧ W.cell? ⟨w2.heap.size, 3, none⟩ = some (.int .i64 (fb : Int)) := fun W e => by
                simp [World.cell?, e, unhide HSB]
              exact ⟨rfl, ⟨(unhide HA2).new hb9, hb9⟩, hk _ rfl⟩
        case rest =>
          clear y0 y1 y2 y3 yf cm2 cB2 HSB HC hsz hbl HA2
          obtain ⟨rfl, HD, y0, y1, y2, y3⟩ := hcut
          have hD := (unhide HD).1
          have HE3 := hide ((unhide HEX2).new (unhide HD).2)
          have KM := rmake_any rb rv' R' ⟨kd, nn, fa, fb⟩ _ hD.two.rs (unhide HP).2.1
          rw [(unhide HP).1.1] at KM
          simp only at KM
          have hnb := mkN_bd hD.two.rs.good ⟨kd, nn, fa, fb⟩
          obtain ⟨hst, _, hlen, _, _, hx, hRl⟩ := unhide HP
          have hR2 : (mkL R' ⟨kd, nn, fa, fb⟩).length ≤ 3000 + (i + 1) := by have := mkL_len R' ⟨kd, nn, fa, fb⟩; omega
          have hx2 : ∃ x, mkL R' ⟨kd, nn, fa, fb⟩ = R ++ x := by
            obtain ⟨x, hx⟩ := hx
            obtain ⟨r, hr⟩ := mkL_prefix R' ⟨kd, nn, fa, fb⟩
            exact ⟨x ++ r, by rw [hr, hx, List.append_assoc]⟩
          have HP2 := hide (And.intro hst.2 (And.intro hR2 hx2))
          have hnb2 : 0 ≤ ((mkN R' ⟨kd, nn, fa, fb⟩ : Nat) : Int) := by omega
          clear hD hst hlen hx hRl hR2 hx2 HP
          generalize mkN R' ⟨kd, nn, fa, fb⟩ = kn at *
          generalize mkL R' ⟨kd, nn, fa, fb⟩ = R2 at *
          go_wp2_with fail
          refine KM.mono ?_
          rintro e w5 ⟨rfl, rv2, s5⟩
          have A5 := (unhide HD).1.stepR s5
          have HE5 := hide ((unhide HE3).stepR s5)
          have cm5 := A5.cells.1
          have hmw := lt_of_blk A5.blk
          have hrow : w5.ownsRow 0 3 1 (.slice (some ⟨g, 0, none⟩) ph.length cp) ph.length (ph.map (fun m => .int .i64 ((m : Nat) : Int))) := A5.row
          have HA5 := hide A5
          clear A5 s5 KM HD y0 y1 y2 y3
          go_wp2_with (at_builtin; refine wpList_append_own_at _ rfl (.tmp 84) (.tmp 86) 23 rfl 0 3 j0 (.int .i64 0) 1 8 Tryz.underlying23 hj hy0 hy1 hy2 rfl (by decide) _ ph.length _ rfl (World.ownsRow.alloc hrow _) ⟨w5.heap.size, 0, none⟩ 1 1 [_] rfl rfl (cell_one_new _ _ _) ?c2 ?c3 ?c4 ?c5 ?nx)
          case c2 => intro u hu; simp at hu; subst hu; rfl
          case c3 => unfold maxLen; omega
          case c4 => omega
          case c5 => exact Nat.zero_le _
          case nx =>
            intro v' w6 hown' hgrow _ hat
            obtain ⟨q1, q2, A6⟩ := (unhide HA5).push hown' hgrow (by simpa using hat)
            have E6 := (unhide HE5).push hgrow (by simpa using hat)
            obtain ⟨g', cap', rfl⟩ := own_form hown'
            have HR : Hid (Ac w (w6.setCell ⟨mp, 0, none⟩ (.slice (some ⟨g', 0, none⟩) (ph.length + 1) cap')) b sv mb rb rv2 L R2 mp (.slice (some ⟨g', 0, none⟩) (ph.length + 1) cap') (ph ++ [kn]) ∧ Acr L (i + 1) R2 (ph ++ [kn]) ∧ R2.length ≤ 3000 + (i + 1) ∧ (∃ x, R2 = R ++ x) ∧ Ex wr0 (w6.setCell ⟨mp, 0, none⟩ (.slice (some ⟨g', 0, none⟩) (ph.length + 1) cap')) rb rv rv2 mp (.slice (some ⟨g', 0, none⟩) (ph.length + 1) cap')) := ⟨A6, (unhide HP2).1, (unhide HP2).2.1, (unhide HP2).2.2, E6⟩
            clear A6 E6 hown' hgrow hat HA5 HP2 hrow
            go_wp2_with fail
            go_roundw
            case rel => exact ⟨i + 1, rv2, _, R2, ph ++ [kn], by omega, by go_num, HR⟩
            case measure => simp only [intOf]; omega
    · obtain rfl : i = N := by omega
      clear hlt hi
      go_wp2_with fail
      refine KLw.mono ?_
      rintro e w1 ⟨rfl, rfl⟩
      go_wp2_with fail
      go_ret2
      obtain ⟨hAc, hAr, hRl, hx, hEx⟩ := unhide HS
      rw [(unhide HH).1] at hAr
      exact ⟨mp, lv, rv', R', ph, rfl, hAc, hAr, hx, by have := hEx.fr; rw [unhide HW] at this; exact this⟩

end Go.Proofs.YtkaioidneknmjaaGreatDoor.Tn

/- Rows of whole numbers, as layer 2 has them; a frame with bystanders. No walk is in this text. -/
namespace Go.Proofs.YtkaioidneknmjaaGreatDoor.Tn.Td
open Go.RowKit

def I64 (z : Int) : Value := .int .i64 z
/-- A row of numbers of its own, that begins behind the block B. -/
def Ints (B : Nat) (w : World) (v : Value) (l : List Int) : Prop := w.ownsRow B 3 1 v l.length (l.map I64)
/-- A slice that reads as these numbers. -/
def Nums (w : World) (v : Value) (l : List Int) : Prop :=
  (l = [] ∧ ∃ a c, v = .slice a 0 c ∧ (a = none → c = 0)) ∨ ∃ g o cap, v = .slice (some ⟨g, o, none⟩) l.length cap ∧ l.length ≤ cap ∧ cap ≤ maxLen ∧ ∀ j z, l[j]? = some z → w.cell? ⟨g, o + j, none⟩ = some (I64 z)
theorem Ints.bw {B : Nat} {w w' : World} {v : Value} {l : List Int} (h : Ints B w v l) (hb : Below w.heap.size w w') : Ints B w' v l := by
  refine ⟨h.1, ?_⟩
  rcases h.2 with h2 | ⟨g, cap, cur, rfl, h0, hg, r⟩
  · exact Or.inl h2
  · refine Or.inr ⟨g, cap, cur, rfl, h0, ?_, r⟩
    rw [hb.block g]
    · exact hg
    · rcases Nat.lt_or_ge g w.heap.size with h1 | h1
      · exact h1
      · rw [Array.getElem?_eq_none h1] at hg; cases hg
theorem Nums.bw {w w' : World} {v : Value} {l : List Int} (h : Nums w v l) (hb : Below w.heap.size w w') : Nums w' v l := by
  rcases h with h | ⟨g, o, cap, hv, h1, h2, hc⟩
  · exact Or.inl h
  · refine Or.inr ⟨g, o, cap, hv, h1, h2, fun j z hj => ?_⟩
    have := hc j z hj
    rw [hb.cell (p := ⟨g, o + j, none⟩)]
    · exact this
    · rcases Nat.lt_or_ge g w.heap.size with h1 | h1
      · exact h1
      · simp [World.cell?, Array.getElem?_eq_none h1] at this
theorem Ints.nums {B : Nat} {w : World} {v : Value} {l : List Int} (h : Ints B w v l) : Nums w v l := by
  rcases h.2 with ⟨rfl, h2⟩ | ⟨g, cap, cur, rfl, h0, hg, h3, h4, h5, h6⟩
  · exact Or.inl ⟨List.length_eq_zero_iff.1 h2, none, 0, rfl, fun _ => rfl⟩
  · refine Or.inr ⟨g, 0, cap, rfl, h3, h4, fun j z hj => ?_⟩
    have := World.ownsRow.cells h (g := g) rfl j (I64 z) (by simp [hj])
    cases j <;> simpa [Addr.add] using this
theorem ints_nil (B : Nat) (w : World) : Ints B w (.slice none 0 0) [] := World.ownsRow_nil _ _ _ _
theorem Nums.form {w : World} {v : Value} {l : List Int} (h : Nums w v l) : (∃ p cap, v = .slice p l.length cap) ∧ l.length ≤ maxLen := by
  rcases h with ⟨rfl, a, c, rfl, _⟩ | ⟨g, o, cap, rfl, h1, h2, _⟩
  · exact ⟨⟨a, c, rfl⟩, Nat.zero_le _⟩
  · exact ⟨⟨_, cap, rfl⟩, by omega⟩
theorem Nums.open {w : World} {v : Value} {l : List Int} (h : Nums w v l) (hl : 0 < l.length) : ∃ g o cap, v = .slice (some ⟨g, o, none⟩) l.length cap ∧ ∀ j z, l[j]? = some z → w.cell? ⟨g, o + j, none⟩ = some (.int .i64 z) := by
  rcases h with ⟨rfl, a, c, rfl, _⟩ | ⟨g, o, cap, rfl, h1, h2, h3⟩
  · simp at hl
  · exact ⟨g, o, cap, rfl, h3⟩

set_option maxHeartbeats 1000000 in
/-- Only blocks from B on are changed, and none of D. -/
structure Bz (B : Nat) (D : List Nat) (w W : World) : Prop where
  b : Below B w W
  d : ∀ k ∈ D, W.heap[k]? = w.heap[k]?
theorem Bz.refl (B : Nat) (D : List Nat) (w : World) : Bz B D w w := ⟨Below.refl _ _, fun _ _ => rfl⟩
theorem Bz.size {B : Nat} {D : List Nat} {w W : World} (h : Bz B D w W) : w.heap.size ≤ W.heap.size := h.b.size
theorem Bz.drew {B : Nat} {D : List Nat} {w W : World} (h : Bz B D w W) : Bz B D w W.drew := ⟨h.b.drew, h.d⟩
theorem Bz.trans {B : Nat} {D : List Nat} {w W V : World} (h : Bz B D w W) (k : Bz B D W V) : Bz B D w V := ⟨h.b.trans k.b, fun x hx => (k.d x hx).trans (h.d x hx)⟩
theorem Bz.new {B : Nat} {D : List Nat} {w W V : World} (h : Bz B D w W) (k : Below W.heap.size W V) (hB : B ≤ W.heap.size) (hD : ∀ x ∈ D, x < W.heap.size) : Bz B D w V := h.trans ⟨bw_mono k hB, fun x hx => k.block x (hD x hx)⟩
theorem Bz.set {B : Nat} {D : List Nat} {w W : World} (h : Bz B D w W) {G j : Nat} {c : Value} (hG : B ≤ G) (hD : G ∉ D) : Bz B D w (W.setCell ⟨G, j, none⟩ c) :=
  ⟨⟨h.b.os, h.b.tape, h.b.output, by simpa [World.setCell] using h.b.size, fun x hx => by rw [Below.heap_setCell _ _ _ _ (show x ≠ G by omega)]; exact h.b.block x hx⟩, fun x hx => by rw [Below.heap_setCell _ _ _ _ (show x ≠ G from fun q => hD (q ▸ hx))]; exact h.d x hx⟩
end Go.Proofs.YtkaioidneknmjaaGreatDoor.Tn.Td
