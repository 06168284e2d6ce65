/- Texts joined: ChP ChS ChT ChTx ChTy. -/
import Derived.Test.YtkaioidneknmjaaGreatDoorZ12
import Derived.Test.YtkaioidneknmjaaGreatDoorZ13
/- A chain through many takes, plainly: how long it grows; a row with one left out. No walk is in this text. -/
namespace Go.Proofs.YtkaioidneknmjaaGreatDoor.Tn
open Go.RowKit Go.Maps

/-- Behind i takes, from a store of N terms on. -/
structure Cp (N i : Nat) (s : Cst) : Prop where
  g : Gd (s.L, s.x)
  good : Good s.L
  ll : s.l.length ≤ 64
  lf : Lf s.nx s.l
  a : s.nx ≤ i + s.l.length
  len : s.L.length ≤ N + 2 + 2 * s.nx
  keys : ∀ p ∈ s.l, p.2 ≤ s.L.length
theorem Cp.mono {N i j : Nat} {s : Cst} (h : Cp N i s) (hj : i ≤ j) : Cp N j s := ⟨h.g, h.good, h.ll, h.lf, by have := h.a; omega, h.len, h.keys⟩
theorem Cp.cok {N i : Nat} {s : Cst} (h : Cp N i s) (hN : N ≤ 2000) (hi : i ≤ 301) : Cok s 3000 :=
  ⟨h.g, by have := h.len; have := h.a; have := h.ll; omega, by have := h.a; have := h.ll; omega, h.ll, h.lf⟩
theorem wkS_gdd {p : List Tm × Nat} (h : Good p.1) : ∀ n, Good (wkS p n).1
  | 0 => h
  | n + 1 => ((wkS_gdd h n).made _).made _
theorem wkS_le (p : List Tm × Nat) (i : Nat) : ∀ k, (wkS p i).1.length ≤ (wkS p (i + k)).1.length
  | 0 => Nat.le_refl _
  | k + 1 => Nat.le_trans (wkS_le p i k) (stp_len _).2
theorem wkS_key_le (p : List Tm × Nat) {i m : Nat} (h : i < m) : (kyS (wkS p i)).2 ≤ (wkS p m).1.length := by
  have h1 : (kyS (wkS p i)).2 ≤ (kyS (wkS p i)).1.length := mkN_le _ _
  have h2 : (kyS (wkS p i)).1.length ≤ (wkS p (i + 1)).1.length := mkL_le _ _
  have h3 := wkS_le p (i + 1) (m - (i + 1))
  rw [show i + 1 + (m - (i + 1)) = m by omega] at h3
  omega
theorem nlf_mem {p : List Tm × Nat} {nx : Nat} {q : Nat × Nat} : ∀ {d : Nat}, q ∈ nlf p nx d → ∃ i, i < d ∧ q = (nx + i, (kyS (wkS p i)).2)
  | 0, h => by cases h
  | d + 1, h => by
    rcases List.mem_append.1 h with c | c
    · obtain ⟨i, hi, e⟩ := nlf_mem c; exact ⟨i, by omega, e⟩
    · simp at c; exact ⟨d, by omega, c⟩
theorem Cp.take {N i : Nat} {s : Cst} (h : Cp N i s) (hN : N ≤ 2000) (hi : i ≤ 300) (n : Int) :
    Cp N (i + 1) (s.take n) ∧ s.L.length ≤ (s.take n).L.length ∧ ∃ k : Nat, s.ans n = (k : Int) ∧ k ≤ (s.take n).L.length := by
  have hk := h.cok hN (by omega)
  have hsame : s.take n = s → s.ans n = 0 → Cp N (i + 1) (s.take n) ∧ s.L.length ≤ (s.take n).L.length ∧ ∃ k : Nat, s.ans n = (k : Int) ∧ k ≤ (s.take n).L.length := fun e e2 => by
    rw [e, e2]; exact ⟨h.mono (by omega), Nat.le_refl _, 0, rfl, Nat.zero_le _⟩
  by_cases t0 : n < 0
  · have q : decide (0 ≤ n) = false := decide_eq_false (by omega)
    have q2 : tkG s.l s.nx n = false := by unfold tkG; rw [q]; rfl
    exact hsame (by unfold Cst.take; rw [q, q2]; rfl) (by unfold Cst.ans; rw [q, q2]; rfl)
  obtain ⟨t, rfl⟩ : ∃ k : Nat, n = k := ⟨n.toNat, by omega⟩
  have q : decide (0 ≤ (t : Int)) = true := decide_eq_true (by omega)
  cases hsome : lkp s.l (t : Int) with
  | some v =>
    have e : s.take t = { s with l := rmv s.l t } := by unfold Cst.take; rw [q, hsome]; rfl
    have e2 : s.ans t = (v : Int) := by unfold Cst.ans lkV; rw [q, hsome]; rfl
    obtain ⟨p, hp, p1, p2⟩ := lkp_some hsome
    have hrl := h.lf.rmv_len (t : Int)
    rw [hsome] at hrl
    simp only [Option.isSome_some, if_true] at hrl
    have hll := h.ll
    have ha := h.a
    rw [e]
    refine ⟨⟨h.g, h.good, by show (rmv s.l t).length ≤ 64; omega, h.lf.rmv _, by show s.nx ≤ i + 1 + (rmv s.l t).length; omega, h.len, fun p hp => h.keys p (List.mem_filter.1 hp).1⟩, Nat.le_refl _, v, e2, by have := h.keys p hp; rw [p2] at this; exact this⟩
  | none =>
    by_cases hG : tkG s.l s.nx t = true
    · have hG' := hG
      unfold tkG at hG'
      simp only [Bool.and_eq_true, decide_eq_true_eq] at hG'
      obtain ⟨⟨⟨-, -⟩, g2⟩, g3⟩ := hG'
      obtain ⟨d, hd⟩ : ∃ d, d = ((t : Int) - (s.nx : Int)).toNat := ⟨_, rfl⟩
      have htd : t = s.nx + d := by omega
      have e : s.take t = s.goes d := by unfold Cst.take; rw [q, hsome, hG, ← hd]; rfl
      have e2 : s.ans t = ((kyS (wkS (s.L, s.x) d)).2 : Nat) := by unfold Cst.ans; rw [q, hsome, hG, ← hd]; rfl
      have hlen := wkS_len (s.L, s.x) (d + 1)
      have hl1 := hk.len
      have hnl := nlf_len (s.L, s.x) s.nx d
      have ha := h.a
      have hle := h.len
      rw [e]
      refine ⟨⟨wkS_gd h.g (d + 1) (by simp only; omega), wkS_gdd h.good _, ?_, (lf_nlf h.lf d).mono (by show s.nx + d ≤ s.nx + d + 1; omega), ?_, ?_, fun p hp => ?_⟩, hlen.2, _, e2, wkS_key_le _ (Nat.lt_succ_self _)⟩
      · show (s.l ++ nlf (s.L, s.x) s.nx d).length ≤ 64
        rw [List.length_append]; omega
      · show s.nx + d + 1 ≤ i + 1 + (s.l ++ nlf (s.L, s.x) s.nx d).length
        rw [List.length_append]; omega
      · show (wkS (s.L, s.x) (d + 1)).1.length ≤ N + 2 + 2 * (s.nx + d + 1)
        have := hlen.1; simp only at this; omega
      · rcases List.mem_append.1 hp with c | c
        · exact Nat.le_trans (h.keys p c) hlen.2
        · obtain ⟨j, hj, rfl⟩ := nlf_mem c
          exact wkS_key_le _ (by omega)
    · have hG0 : tkG s.l s.nx t = false := by simpa using hG
      exact hsame (by unfold Cst.take; rw [q, hsome, hG0]; rfl) (by unfold Cst.ans; rw [q, hsome, hG0]; rfl)
/-- One row left out. -/
theorem cut_rmv {nx : Nat} {l : Lfs} (h : Lf nx l) {i : Nat} {p : Nat × Nat} (hp : l[i]? = some p) : l.take i ++ l.drop (i + 1) = rmv l (p.1 : Int) := by
  obtain ⟨up, -⟩ := h
  induction l generalizing i with
  | nil => cases hp
  | cons q l ih =>
    have h1 := (List.pairwise_cons.1 up).1
    cases i with
    | zero =>
      simp at hp; subst hp
      unfold rmv
      rw [List.filter_cons]
      simp only [decide_true, Bool.not_true, Bool.false_eq_true, if_false, List.take_zero, List.nil_append, List.drop_succ_cons, List.drop_zero]
      refine (List.filter_eq_self.2 (fun r hr => ?_)).symm
      have := h1 r hr
      simp; omega
    | succ i =>
      have hp' : l[i]? = some p := by simpa using hp
      have := h1 p (List.mem_of_getElem? hp')
      have e := ih hp' (List.pairwise_cons.1 up).2
      unfold rmv at e ⊢
      rw [List.filter_cons]
      have c : ¬ ((q.1 : Int) = (p.1 : Int)) := by omega
      simp only [c, decide_false, Bool.not_false, if_true, List.take_succ_cons, List.drop_succ_cons, List.cons_append]
      rw [e]
/-- The first that a search meets. -/
theorem lkp_at {nx : Nat} {l : Lfs} (h : Lf nx l) {i : Nat} {p : Nat × Nat} (hp : l[i]? = some p) : lkp l (p.1 : Int) = some p.2 := lkp_of_mem h (List.mem_of_getElem? hp)
theorem lkp_past {l : Lfs} {n : Int} (h : ∀ (j : Nat) (p : Nat × Nat), l[j]? = some p → (p.1 : Int) ≠ n) : lkp l n = none := lkp_none (fun p hp => by obtain ⟨j, hj⟩ := List.mem_iff_getElem?.1 hp; exact h j p hj)
end Go.Proofs.YtkaioidneknmjaaGreatDoor.Tn

/- The document's chain in memory; its New. -/
namespace Go.Proofs.YtkaioidneknmjaaGreatDoor.Tn
open Go.RowKit Go.Maps

theorem Tryz.infoLeft : (Tryz.prog.info? 109).map (fun i => (i.zero, i.size, i.bytes)) = some (some (.agg #[.int .i64 0, .int .i64 0]), 2, 16) := by kernel_rfl
def rnC (b : Nat) (lv : Value) (nx x : Nat) : Array Value := #[.pointer (some ⟨b, 0, none⟩), .int .i64 (x : Int), .int .i64 (nx : Int), lv]
def FRow (B : Nat) (W : World) (v : Value) (l : Lfs) : Prop := W.ownsRow B 109 2 v l.length (l.flatMap lnC)
theorem FRow.keep {B : Nat} {W W' : World} {v : Value} {l : Lfs} (h : FRow B W v l) (hb : ∀ k, v.ownBlock = some k → W'.heap[k]? = W.heap[k]?) : FRow B W' v l := own_keep h hb
theorem FRow.kind {B : Nat} {W : World} {v : Value} {l : Lfs} (h : FRow B W v l) {k : Nat} (hk : v.ownBlock = some k) : ∃ cur, W.heap[k]? = some (.cells cur 109 (0, 0)) := own_kind h hk
structure Rn (W : World) (c b : Nat) (lv : Value) (l : Lfs) (nx x : Nat) : Prop where
  blk : W.heap[c]? = some (.cells (rnC b lv nx x) 101 (0, 0))
  row : FRow 0 W lv l
/-- It stands on its store; what has moved since a world. -/
structure RS (w : World × List Nat) (W : World) (c b : Nat) (sv lv : Value) (L : List Tm) (l : Lfs) (nx x : Nat) : Prop where
  st : Rs W b sv L
  cn : Rn W c b lv l nx x
  mv : Mv w.1 W w.2 (c :: (lv.ownBlock.toList ++ rfoot b sv))
theorem Rn.keep {W W' : World} {c b : Nat} {lv : Value} {l : Lfs} {nx x : Nat} (h : Rn W c b lv l nx x) (hc : W'.heap[c]? = W.heap[c]?) (hr : ∀ k, lv.ownBlock = some k → W'.heap[k]? = W.heap[k]?) : Rn W' c b lv l nx x := ⟨by rw [hc]; exact h.blk, h.row.keep hr⟩
theorem Rn.ne {W : World} {c b : Nat} {lv : Value} {l : Lfs} {nx x : Nat} (h : Rn W c b lv l nx x) : lv.ownBlock ≠ some c := fun q => by
  obtain ⟨cur, e⟩ := h.row.kind q
  rw [h.blk] at e; injection e with e; injection e with _ e; exact absurd e (by decide)
theorem go_R {w w' : World} {b : Nat} {sv sv' : Value} {L' : List Tm} (h : RStep w w' b sv sv' L') : Mv w w' (rfoot b sv) (rfoot b sv') := by
  refine ⟨h.fr, fun x hx => ?_⟩
  rw [mem_rfoot] at hx ⊢
  rcases hx with rfl | hx
  · exact Or.inl (Or.inl rfl)
  · rcases h.place x hx with c | c
    · exact Or.inl (Or.inr c)
    · exact Or.inr c
section
variable {w : World × List Nat} {W W' W5 : World} {c b : Nat} {sv sv' lv v' : Value} {L L' : List Tm} {l l' : Lfs} {nx x : Nat}
theorem RS.stepR (h : RS w W c b sv lv L l nx x) (s : RStep W W' b sv sv' L') : RS w W' c b sv' lv L' l nx x := by
  refine ⟨s.st, h.cn.keep (s.fr.block c (lt_of_blk h.cn.blk) (h.st.notin h.cn.blk (by decide) (by decide))) (fun k hk => ?_), h.mv.more (go_R s) (fun x hx => by simp [hx]) (fun x hx => ?_)⟩
  · obtain ⟨cur, e⟩ := h.cn.row.kind hk
    exact s.fr.block k (lt_of_blk e) (h.st.notin e (by decide) (by decide))
  · simp only [List.mem_cons, List.mem_append] at hx ⊢
    rcases hx with hx | hx | hx
    · simp [hx]
    · simp [hx]
    · simp [hx]
theorem RS.new (h : RS w W c b sv lv L l nx x) (hb : Below W.heap.size W W') : RS w W' c b sv lv L l nx x := h.stepR (RStep.same h.st hb)
theorem RS.cells (h : RS w W c b sv lv L l nx x) : W.cell? ⟨c, 0, none⟩ = some (.pointer (some ⟨b, 0, none⟩)) ∧ W.cell? ⟨c, 1, none⟩ = some (.int .i64 (x : Int)) ∧ W.cell? ⟨c, 2, none⟩ = some (.int .i64 (nx : Int)) ∧ W.cell? ⟨c, 3, none⟩ = some lv :=
  ⟨blk_cell h.cn.blk rfl, blk_cell h.cn.blk rfl, blk_cell h.cn.blk rfl, blk_cell h.cn.blk rfl⟩
theorem RS.froz (h : RS w W c b sv lv L l nx x) (j : Nat) : W.frozen? ⟨c, j, none⟩ = false := blk_froz h.cn.blk
theorem RS.frame (h : RS w W c b sv lv L l nx x) {S : List Nat} (f : Fr S W W') (hs : ∀ k ∈ S, lv.ownBlock = some k ∨ k = c) : Rs W' b sv L := h.st.keep f (fun k hk q => by
  rcases hs k q with e | rfl
  · obtain ⟨cur, e2⟩ := h.cn.row.kind e
    exact h.st.notin e2 (by decide) (by decide) hk
  · exact h.st.notin h.cn.blk (by decide) (by decide) hk)
theorem RS.poke (h : RS w W c b sv lv L l nx x) (i : Nat) (v : Value) {nx' x' : Nat} (he : (rnC b lv nx x).setIfInBounds i v = rnC b lv nx' x') : RS w (W.setCell ⟨c, i, none⟩ v) c b sv lv L l nx' x' := by
  have hp := poke_blk (i := i) h.cn.blk v
  rw [he] at hp
  have hj : ∀ j, j ≠ c → (W.setCell ⟨c, i, none⟩ v).heap[j]? = W.heap[j]? := fun j hj => Below.heap_setCell _ _ _ _ (by simp; exact hj)
  have f : Fr [c] W (W.setCell ⟨c, i, none⟩ v) := (Fr.refl [c] W).setCell (a := ⟨c, i, none⟩) (Or.inr (by simp)) v
  exact ⟨h.frame f (fun k hk => by simp at hk; exact Or.inr hk), ⟨hp, h.cn.row.keep (fun k hk => hj k (fun q => h.cn.ne (by rw [← q]; exact hk)))⟩, h.mv.more (Y' := [c]) ⟨f, fun x hx => Or.inl hx⟩ (by simp) (fun x hx => Or.inl hx)⟩
/-- Another row in the row's place. -/
theorem RS.put (h : RS w W c b sv lv L l nx x) (f : Fr lv.ownBlock.toList W W5) (hr : FRow 0 W5 v' l') (hpl : ∀ k, v'.ownBlock = some k → lv.ownBlock = some k ∨ W.heap.size ≤ k) :
    (W5.cell? ⟨c, 3, none⟩ = some lv ∧ W5.frozen? ⟨c, 3, none⟩ = false) ∧ RS w (W5.setCell ⟨c, 3, none⟩ v') c b sv v' L l' nx x := by
  have k5 : W5.heap[c]? = some (.cells (rnC b lv nx x) 101 (0, 0)) := by rw [f.block c (lt_of_blk h.cn.blk) (by simp; exact h.cn.ne)]; exact h.cn.blk
  have hp := poke_blk (i := 3) k5 v'
  have hj : ∀ j, j ≠ c → (W5.setCell ⟨c, 3, none⟩ v').heap[j]? = W5.heap[j]? := fun j hj => Below.heap_setCell _ _ _ _ (by simp; exact hj)
  have hnc : v'.ownBlock ≠ some c := fun q => by
    obtain ⟨cur, e⟩ := hr.kind q
    rw [k5] at e; injection e with e; injection e with _ e; exact absurd e (by decide)
  have f2 : Fr (c :: lv.ownBlock.toList) W (W5.setCell ⟨c, 3, none⟩ v') := (f.mono (fun x _ hx => List.mem_cons_of_mem _ hx)).setCell (a := ⟨c, 3, none⟩) (Or.inr (by simp)) v'
  refine ⟨⟨blk_cell k5 rfl, blk_froz k5⟩, ?_, ⟨hp, hr.keep (fun k hk => hj k (fun q => hnc (by rw [← q]; exact hk)))⟩, h.mv.more (Y' := c :: v'.ownBlock.toList) ⟨f2, fun x hx => ?_⟩ (fun x hx => ?_) (fun x hx => ?_)⟩
  · exact h.frame f2 (fun k hk => by simp at hk; rcases hk with rfl | hk; exact Or.inr rfl; exact Or.inl hk)
  · simp at hx ⊢
    rcases hx with rfl | hx
    · simp
    · rcases hpl x hx with e | e
      · simp [e]
      · exact Or.inr e
  · simp at hx ⊢
    rcases hx with rfl | hx
    · simp
    · simp [hx]
  · simp at hx ⊢
    rcases hx with rfl | hx | hx
    · simp
    · simp [hx]
    · simp [hx]
end
set_option maxRecDepth 100000 in
set_option maxHeartbeats 4000000 in
theorem rnew_ok {b : Nat} {sv : Value} {L : List Tm} {w : World} (h : Rs w b sv L) (app snd : Int) (ha : thr L.length app = true) (hs : i64r snd) (hl : L.length + 2 ≤ 1048576) :
    Calls Tryz.prog 6 #[.pointer (some ⟨b, 0, none⟩), .int .i64 app, .int .i64 snd] w fun e w' => ∃ c sv', e = .returned (.tuple #[.pointer (some ⟨c, 0, none⟩), .int .i64 0]) ∧ RS (w, rfoot b sv) w' c b sv' (.slice none 0 0) (beg L app snd).1 [] 0 (beg L app snd).2 := by
  have KG := hide (rget_any b sv L app w h)
  rw [ha] at KG
  have H0 : Hid (∀ W, Below w.heap.size w W → RStep w W b sv sv L) := fun W hW => RStep.same h hW
  have KB : Hid (∀ W, Below w.heap.size w W → Calls Tryz.prog 26 #[.pointer (some ⟨b, 0, none⟩), .int .i64 app, .int .i64 snd] W fun e w' => e = .returned (.int .i64 ((beg L app snd).2 : Nat)) ∧ ∃ sv', RStep w w' b sv sv' (beg L app snd).1) := fun W hW => by
    have s := unhide H0 W hW
    refine (rbegin_any s.st app snd ha hs (by omega)).mono ?_
    rintro e w' ⟨h1, sv2, h2⟩
    exact ⟨h1, sv2, s.trans h2⟩
  have HF : Hid (∀ (W' : World) (sv' : Value), RStep w W' b sv sv' (beg L app snd).1 → RS (w, rfoot b sv) (W'.alloc (.cells #[.pointer (some ⟨b, 0, none⟩), .int .i64 ((beg L app snd).2 : Nat), .int .i64 0, .slice none 0 0] 101)) W'.heap.size b sv' (.slice none 0 0) (beg L app snd).1 [] 0 (beg L app snd).2) := fun W' sv' s => by
    have hb := (Below.refl W'.heap.size W').alloc (Nat.le_refl _) (.cells #[.pointer (some ⟨b, 0, none⟩), .int .i64 ((beg L app snd).2 : Nat), .int .i64 0, .slice none 0 0] 101)
    have s2 := s.after hb
    have m := go_R s2
    have hsz := s.fr.size
    refine ⟨s2.st, ⟨heap_alloc_new _ _, rfl, Or.inl ⟨rfl, rfl⟩⟩, s2.fr, fun x hx => ?_⟩
    simp [Value.ownBlock] at hx
    rcases hx with rfl | hx
    · right; simp only; omega
    · exact m.place x hx
  clear h ha hs hl
  generalize getT L app = t at *
  generalize (beg L app snd).1 = L2 at *
  generalize (beg L app snd).2 = x at *
  go_enter Tryz.func6, Tryz.ntmps6
  go_wp2_with fail
  refine (unhide KG).mono ?_
  rintro e w1 ⟨rfl, y⟩
  have K2 := hide (unhide KB _ (y.alloc y.size (.cells #[.int .u8 t.kd, .int .i64 t.n, .int .i64 t.a, .int .i64 t.b] 89)))
  clear KG H0 y KB
  go_wp2_with fail
  refine (unhide K2).mono ?_
  rintro e w2 ⟨rfl, sv2, s2⟩
  have HC := hide (unhide HF w2 sv2 s2)
  clear s2 K2 HF
  go_wp2
  go_ret2
  exact ⟨_, sv2, rfl, unhide HC⟩
set_option maxRecDepth 100000 in
set_option maxHeartbeats 4000000 in
theorem rnew_err {b : Nat} {sv : Value} {L : List Tm} {w : World} (h : Rs w b sv L) (app snd : Int) (ha : thr L.length app = false) :
    Calls Tryz.prog 6 #[.pointer (some ⟨b, 0, none⟩), .int .i64 app, .int .i64 snd] w fun e w' => e = .returned (.tuple #[.pointer none, .int .i64 1]) ∧ Below w.heap.size w w' := by
  have KG := hide (rget_any b sv L app w h)
  rw [ha] at KG
  clear h ha
  generalize getT L app = t at *
  go_enter Tryz.func6, Tryz.ntmps6
  go_wp2_with fail
  refine (unhide KG).mono ?_
  rintro e w1 ⟨rfl, y⟩
  have y2 := y.alloc y.size (.cells #[.int .u8 t.kd, .int .i64 t.n, .int .i64 t.a, .int .i64 t.b] 89)
  clear KG y
  go_wp2
  go_ret2
  exact ⟨rfl, y2⟩
end Go.Proofs.YtkaioidneknmjaaGreatDoor.Tn

/- The document's Take. -/
namespace Go.Proofs.YtkaioidneknmjaaGreatDoor.Tn
open Go.RowKit Go.Maps

/-- Its chain and its store as one thing. -/
def RC (w : World × List Nat) (W : World) (c b : Nat) (s : Cst) : Prop := ∃ sv lv, RS w W c b sv lv s.L s.l s.nx s.x
theorem step_app_r {P : Program} {ops : Array Oper} {o : Oper} {a : Act} {w : World} {K : Act → World → Prop} {Q : Exit → Act → World → Prop} {E : Prop}
    (hg : o.guard = none) (s x : Operand) (t : TypeId) (hop : o.op = Op.call { callee := Callee.builtin Builtin.append, args := #[s, x], argTypes := #[t, t] })
    (base : Nat) (e : TypeId) (i : TypeInfo) (z : Value) (size bytes : Nat) (h1 : P.underlying t = some (.slice e)) (h2 : P.info? e = some i) (h3 : i.zero = some z) (h4 : i.size = size) (h5 : i.bytes = bytes) (h6 : z.cells.size = size) (h7 : 0 < size)
    (v : Value) (n : Nat) (xs : List Value) (hs : a.eval s = v) (hown : w.ownsRow base e size v n xs)
    (ad : Addr) (m c : Nat) (news : List Value) (hx : a.eval x = .slice (some ad) m c) (hn : news.length = m * size) (hc : ∀ j u, news[j]? = some u → w.cell? (ad.add j) = some u) (h1c : ∀ u ∈ news, u.oneCell' = true)
    (b1 : n + m ≤ maxLen) (b2 : (n + m) * bytes ≤ 140737488355328) (hbase : base ≤ w.heap.size)
    (hK : ∀ v' w', w'.ownsRow base e size v' (n + m) (xs ++ news) → w.grownBy w' v.ownBlock → (v'.ownBlock = v.ownBlock ∨ v'.ownBlock = some w.heap.size) → K (a.put o.dst v') w') :
    if Region.wanted o (yielded ops a.tmps) = true then Oper.wp P o a w K Q else E := by
  have hw : Region.wanted o (yielded ops a.tmps) = true := by simp [Region.wanted, hg]
  rw [if_pos hw]
  obtain ⟨v', w', hr, r2, r3, _, r5⟩ := run_append_own_at (P := P) w base t o.type e i z size bytes h1 h2 h3 h4 h5 h6 h7 v n xs hown ad m c news hn hc h1c b1 b2 hbase
  unfold Oper.wp
  simp [execOp, hop, resolve, invoke, builtin, hs, hx, hr, Result.andThen]
  exact hK v' w' r2 r3 r5
theorem cells_r2 (w : World) (x0 x1 : Value) (t : TypeId) : ∀ j u, [x0, x1][j]? = some u → (w.alloc (.cells #[x0, x1] t)).cell? ((⟨w.heap.size, 0, none⟩ : Addr).add j) = some u := by
  intro j u hj
  have e : ∀ j, (⟨w.heap.size, 0, none⟩ : Addr).add j = ⟨w.heap.size, j, none⟩ := fun j => by cases j <;> simp [Addr.add]
  rw [e]
  have hb : (w.alloc (.cells #[x0, x1] t)).heap[w.heap.size]? = some (.cells #[x0, x1] t (0, 0)) := heap_alloc_new _ _
  match j, hj with
  | 0, hj => simp at hj; subst hj; exact blk_cell hb rfl
  | 1, hj => simp at hj; subst hj; exact blk_cell hb rfl
theorem one_ln (l : Lfs) : ∀ u ∈ l.flatMap lnC, u.oneCell' = true := by
  intro u hu
  obtain ⟨p, -, hp⟩ := List.mem_flatMap.1 hu
  simp [lnC] at hp
  rcases hp with rfl | rfl <;> rfl
theorem slice_r_upto (w : World) (g n cap i : Nat) (hi : i ≤ n) (hc : n ≤ cap) : (Instr.slice 99 (.slice (some ⟨g, 0, none⟩) n cap) none (some (.int .i64 (i : Int))) none).run Tryz.prog w = .ok (.slice (some ⟨g, 0, none⟩) i cap) w := by
  have ht : Tryz.prog.underlying 99 = some (.slice (Tryz.prog.elem 99)) := by kernel_rfl
  have he : Tryz.prog.elem 99 = 109 := by kernel_rfl
  have hs : (Go.sizeOf 109).run Tryz.prog w = .ok 2 w := by kernel_rfl
  rw [run_slice_h (P := Tryz.prog) w 99 (some ⟨g, 0, none⟩) n cap ht .i64 i (by omega) (by omega), he, hs]
  simp [Result.andThen, sliced, Addr.add]
theorem slice_r_from (g n cap i : Nat) (hi : i ≤ n) (hc : n ≤ cap) : ∃ o, (∀ w, (Instr.slice 99 (.slice (some ⟨g, 0, none⟩) n cap) (some (.int .i64 (i : Int))) none none).run Tryz.prog w = .ok (.slice (some ⟨g, o, none⟩) (n - i) (cap - i)) w) ∧ (i < n → o = i * 2) := by
  refine ⟨if cap = i then 0 else i * 2, fun w => ?_, fun h => by rw [if_neg (by omega)]⟩
  have ht : Tryz.prog.underlying 99 = some (.slice (Tryz.prog.elem 99)) := by kernel_rfl
  have he : Tryz.prog.elem 99 = 109 := by kernel_rfl
  have hs : (Go.sizeOf 109).run Tryz.prog w = .ok 2 w := by kernel_rfl
  rw [run_slice_l (P := Tryz.prog) w 99 (some ⟨g, 0, none⟩) n cap ht .i64 i (by omega) (by omega), he, hs]
  by_cases h : cap = i
  · simp [Result.andThen, sliced, h]
  · simp [Result.andThen, sliced, h, Addr.add]
    try (intro h0; omega)
theorem FRow.cells {B : Nat} {W : World} {a : Option Addr} {m cap : Nat} {l : Lfs} (h : FRow B W (.slice a m cap) l) {i : Nat} {p : Nat × Nat} (hp : l[i]? = some p) : ∃ g, a = some ⟨g, 0, none⟩ ∧ m ≤ cap ∧ W.cell? ⟨g, i * 2, none⟩ = some (.int .i64 (p.1 : Int)) ∧ W.cell? ⟨g, i * 2 + 1, none⟩ = some (.int .i64 (p.2 : Int)) ∧ (∀ j u, (l.flatMap lnC)[j]? = some u → W.cell? ⟨g, j, none⟩ = some u) := by
  have hl : i < l.length := (List.getElem?_eq_some_iff.1 hp).1
  obtain ⟨g, cp, e, hg⟩ := own_open h (by omega)
  simp only [Value.slice.injEq] at e
  obtain ⟨rfl, e2, rfl⟩ := e
  refine ⟨g, rfl, by omega, own_cell h rfl (lnC_get l i p hp).1, own_cell h rfl (lnC_get l i p hp).2, fun j u hu => own_cell h rfl hu⟩
theorem flat_take (l : Lfs) (i : Nat) : (l.take i).flatMap lnC = (l.flatMap lnC).take (i * 2) := by
  induction l generalizing i with
  | nil => simp
  | cons p l ih =>
    cases i with
    | zero => simp
    | succ i => rw [List.take_succ_cons, List.flatMap_cons, List.flatMap_cons, ih, show (i + 1) * 2 = i * 2 + 1 + 1 by omega]; simp [lnC]
theorem flat_drop (l : Lfs) (i : Nat) : (l.drop i).flatMap lnC = (l.flatMap lnC).drop (i * 2) := by
  induction l generalizing i with
  | nil => simp
  | cons p l ih =>
    cases i with
    | zero => simp
    | succ i => rw [List.drop_succ_cons, List.flatMap_cons, ih, show (i + 1) * 2 = i * 2 + 1 + 1 by omega]; simp [lnC]
theorem RS.kept5 {w : World × List Nat} {W W5 : World} {c b : Nat} {sv lv : Value} {L : List Tm} {l : Lfs} {nx x : Nat} (h : RS w W c b sv lv L l nx x) (f : Fr lv.ownBlock.toList W W5) :
    W5.cell? ⟨c, 0, none⟩ = some (.pointer (some ⟨b, 0, none⟩)) ∧ W5.cell? ⟨c, 1, none⟩ = some (.int .i64 (x : Int)) ∧ W5.cell? ⟨c, 2, none⟩ = some (.int .i64 (nx : Int)) ∧ W5.cell? ⟨c, 3, none⟩ = some lv := by
  have k5 : W5.heap[c]? = some (.cells (rnC b lv nx x) 101 (0, 0)) := by rw [f.block c (lt_of_blk h.cn.blk) (by simp; exact h.cn.ne)]; exact h.cn.blk
  exact ⟨blk_cell k5 rfl, blk_cell k5 rfl, blk_cell k5 rfl, blk_cell k5 rfl⟩
end Go.Proofs.YtkaioidneknmjaaGreatDoor.Tn

/- The document's Take: a key that was left. -/
namespace Go.Proofs.YtkaioidneknmjaaGreatDoor.Tn
open Go.RowKit Go.Maps

set_option maxRecDepth 100000 in
set_option maxHeartbeats 8000000 in
theorem rtake_found {w : World × List Nat} {W : World} {c b : Nat} {sv : Value} {a : Option Addr} {N cap : Nat} {L : List Tm} {l : Lfs} {nx x : Nat} (h : RS w W c b sv (.slice a N cap) L l nx x) (hlf : Lf nx l) (hN : N = l.length) (hll : N ≤ 64) {i : Nat} {p : Nat × Nat} (hp : l[i]? = some p) (hf : ∀ (j : Nat) (q : Nat × Nat), j < i → l[j]? = some q → q.1 ≠ p.1) :
    Calls Tryz.prog 10 #[.pointer (some ⟨c, 0, none⟩), .int .i64 (p.1 : Int)] W fun e W' => e = .returned (.tuple #[.int .i64 (p.2 : Int), .int .i64 0]) ∧ ∃ lv, RS w W' c b sv lv L (rmv l (p.1 : Int)) nx x := by
  obtain ⟨i0, hi, hz0, hz1, hzb⟩ := info_parts Tryz.infoLeft
  have hiN : i < N := by rw [hN]; exact (List.getElem?_eq_some_iff.1 hp).1
  obtain ⟨g, rfl, hcap, r0, r1, rall⟩ := h.cn.row.cells hp
  obtain ⟨c0, c1, c2, c3⟩ := h.cells
  have hcr := cut_rmv hlf hp
  obtain ⟨o, ho⟩ : ∃ o, (cap = i + 1 ∧ o = 0) ∨ (¬ cap = i + 1 ∧ o = (i + 1) * 2) := by
    by_cases q : cap = i + 1
    · exact ⟨_, Or.inl ⟨q, rfl⟩⟩
    · exact ⟨_, Or.inr ⟨q, rfl⟩⟩
  have hoe : i + 1 < N → o = (i + 1) * 2 := fun q => by rcases ho with ⟨e, -⟩ | ⟨-, e⟩; omega; exact e
  have hL1 : ((l.take i).flatMap lnC).length = i * 2 := by rw [lnC_len, List.length_take]; omega
  have hL2 : ((l.drop (i + 1)).flatMap lnC).length = (N - (i + 1)) * 2 := by rw [lnC_len, List.length_drop]; omega
  have ad0 : ∀ (o j : Nat), (⟨g, o, none⟩ : Addr).add j = ⟨g, o + j, none⟩ := fun o j => by cases j <;> simp [Addr.add]
  have HC : Hid (∀ W', Below W.heap.size W W' → (∀ j u, ((l.take i).flatMap lnC)[j]? = some u → W'.cell? ((⟨g, 0, none⟩ : Addr).add j) = some u) ∧ (∀ j u, ((l.drop (i + 1)).flatMap lnC)[j]? = some u → W'.cell? ((⟨g, o, none⟩ : Addr).add j) = some u) ∧ W'.cell? ⟨c, 3, none⟩ = some (.slice (some ⟨g, 0, none⟩) N cap) ∧ RS w W' c b sv (.slice (some ⟨g, 0, none⟩) N cap) L l nx x) := fun W' hb => by
    have h' := h.new hb
    obtain ⟨g', e', -, -, -, rall'⟩ := h'.cn.row.cells hp
    simp only [Option.some.injEq, Addr.mk.injEq] at e'
    obtain ⟨rfl, -⟩ := e'
    refine ⟨fun j u hu => ?_, fun j u hu => ?_, h'.cells.2.2.2, h'⟩
    · rw [ad0, Nat.zero_add]
      rw [flat_take] at hu
      rw [List.getElem?_take] at hu
      split at hu
      · exact rall' j u hu
      · cases hu
    · have hjl := (List.getElem?_eq_some_iff.1 hu).1
      rw [hL2] at hjl
      rw [ad0, hoe (by omega)]
      rw [flat_drop, List.getElem?_drop] at hu
      exact rall' _ u hu
  have HEnd : Hid (∀ (W5 : World) (v' : Value), Below W.heap.size W W5 → W5.ownsRow W.heap.size 109 2 v' (i + (N - (i + 1))) ((l.take i).flatMap lnC ++ (l.drop (i + 1)).flatMap lnC) → (W5.cell? ⟨c, 3, none⟩ = some (.slice (some ⟨g, 0, none⟩) N cap) ∧ W5.frozen? ⟨c, 3, none⟩ = false) ∧ RS w (W5.setCell ⟨c, 3, none⟩ v') c b sv v' L (rmv l (p.1 : Int)) nx x) := fun W5 v' hb ho => by
    rw [← List.flatMap_append, hcr] at ho
    have hrl : i + (N - (i + 1)) = (rmv l (p.1 : Int)).length := by rw [← hcr, List.length_append, List.length_take, List.length_drop]; omega
    rw [hrl] at ho
    exact h.put ((Fr.ofBelow hb).mono (fun _ _ c => by cases c)) (own_monoT ho (Nat.zero_le _)) (fun k hk => Or.inr (World.ownsRow.lt ho k hk).1)
  have hmx : i + (N - (i + 1)) ≤ maxLen := by unfold maxLen; omega
  have hby : (i + (N - (i + 1))) * 16 ≤ 140737488355328 := by omega
  have hmx1 : 0 + i ≤ maxLen := by unfold maxLen; omega
  have hby1 : (0 + i) * 16 ≤ 140737488355328 := by omega
  have HL := hide (And.intro hL1 (And.intro hL2 (And.intro hmx (And.intro hby (And.intro hmx1 (And.intro hby1 (And.intro (one_ln (l.take i)) (one_ln (l.drop (i + 1))))))))))
  have HI := hide (And.intro hi (And.intro hz0 (And.intro hz1 hzb)))
  have HJ : Hid (∀ (j : Nat), j < i → ∃ q : Nat × Nat, W.cell? ⟨g, j * 2, none⟩ = some (.int .i64 (q.1 : Int)) ∧ ((q.1 : Int) == (p.1 : Int)) = false ∧ decide ((q.1 : Int) = (p.1 : Int)) = false) := fun j hj => by
    obtain ⟨q, hq⟩ : ∃ q, l[j]? = some q := ⟨_, List.getElem?_eq_getElem (by omega)⟩
    obtain ⟨g', e', -, z0, -⟩ := h.cn.row.cells hq
    simp only [Option.some.injEq, Addr.mk.injEq] at e'
    obtain ⟨rfl, -⟩ := e'
    have := hf j q hj hq
    exact ⟨q, z0, by simp; omega, decide_eq_false (by omega)⟩
  have n0 : (0 : Int) ≤ (p.1 : Int) := by omega
  have q64 : (N : Int) ≤ 64 := by omega
  have hic : i ≤ cap := by omega
  have hicI : (i : Int) ≤ (cap : Int) := by omega
  have HSz := hide ho
  have hE : Hid (∀ (cur : Array Value) , (W.drew.alloc (.cells #[] 109)).ownsRow W.heap.size 109 2 (.slice (some ⟨W.heap.size, 0, none⟩) 0 0) 0 []) := fun _ => ⟨rfl, Or.inr ⟨W.heap.size, 0, #[], rfl, Nat.le_refl _, heap_alloc_new _ _, Nat.le_refl _, by unfold maxLen; omega, rfl, rfl⟩⟩
  generalize p.1 = p1 at *
  generalize p.2 = p2 at *
  clear h hlf hN hll hp hf hcr hcap rall hL1 hL2 hmx hby hmx1 hby1 hi hz0 hz1 hzb ad0 hoe ho
  generalize rmv l (p1 : Int) = l2 at *
  go_enter Tryz.func10, Tryz.ntmps10
  go_wp2_with fail
  go_loopw [6] (fun iv wr => ∃ j : Nat, iv = .int .i64 (j : Int) ∧ j ≤ i ∧ wr = W) (fun iv _ => (i - intOf iv).toNat)
  case atStart => exact ⟨0, rfl, by omega, rfl⟩
  case round =>
    obtain ⟨j, rfl, hj, rfl⟩ := hrel
    have qj : (j : Int) < (N : Int) := by omega
    have qj0 : (0 : Int) ≤ (j : Int) := by omega
    by_cases hlt : j < i
    · obtain ⟨q, z0, z1, z2⟩ := unhide HJ j hlt
      clear r0 r1
      go_wp2_with fail
      go_roundw
      case rel => exact ⟨j + 1, by go_num, by omega, by first | rfl | trivial⟩
      case measure => simp only [intOf]; omega
    · have hje : j = i := by omega
      subst hje
      clear HJ hlt hj
      obtain ⟨J, hJ⟩ : ∃ J, J = j + 1 := ⟨_, rfl⟩
      have hJw : IntKind.i64.wrap ((j : Int) + 1) = (J : Int) := by rw [IntKind.wrap_i64]; omega
      have hJ3 : IntKind.i64.wrap (J : Int) = (J : Int) := by rw [IntKind.wrap_i64]; omega
      have hJ1 : (J : Int) ≤ (N : Int) := by omega
      have hJ0 : (0 : Int) ≤ (J : Int) := by omega
      have hJe : (j : Int) + 1 = (J : Int) := by omega
      rw [← hJ] at HL HC HEnd HSz
      clear hJ
      obtain ⟨T1, hT1⟩ : ∃ T1, T1 = (l.take j).flatMap lnC := ⟨_, rfl⟩
      obtain ⟨T2, hT2⟩ : ∃ T2, T2 = (l.drop J).flatMap lnC := ⟨_, rfl⟩
      rw [← hT1, ← hT2] at HL HC HEnd
      have hEE := unhide hE #[]
      have bD : Below wr.heap.size wr wr.drew := (Below.refl _ _).drew
      have bE : Below wr.heap.size wr (wr.drew.alloc (.cells #[] 109)) := bD.alloc (Nat.le_refl _) _
      have xD := (unhide HC _ bD).2.2.1
      have xE := (unhide HC _ bE).2.2.1
      have xA := (unhide HC _ ((Below.refl wr.heap.size wr).alloc (Nat.le_refl _) (.cells #[] 109))).2.2.1
      have HEE := hide hEE
      have HB := hide (And.intro bE (unhide HC _ bE).1)
      clear hT1 hT2 hE hEE bD bE
      clear c0 c1 c2
      rcases unhide HSz with ⟨hcJ, rfl⟩ | ⟨hcJ, rfl⟩
      all_goals
        clear HSz
        try subst hcJ
        go_upto_region 8 with fail
        clear r0 r1
        go_cut [] from 38 to 56 (fun wx => Hid (∃ lv, RS w wx c b sv lv L l2 nx x))
        case first =>
          go_region_law (first
            | (refine step_app_r rfl (.tmp 39) (.tmp 45) 99 rfl wr.heap.size 109 i0 (.agg #[.int .i64 0, .int .i64 0]) 2 16 Tryz.underlying99 (unhide HI).1 (unhide HI).2.1 (unhide HI).2.2.1 (unhide HI).2.2.2 rfl (by decide) (.slice (some ⟨wr.heap.size, 0, none⟩) 0 0) 0 [] (by first | rfl | simp [Act.eval, Act.put]) (unhide HEE) ⟨g, 0, none⟩ j cap T1 (by first | rfl | simp [Act.eval, Act.put]) (unhide HL).1 (unhide HB).2 (unhide HL).2.2.2.2.2.2.1 (unhide HL).2.2.2.2.1 (unhide HL).2.2.2.2.2.1 (unhide HB).1.size ?_; intro v1 w1 o1 g1 at1; have B1 := hide (Fr.toBase (unhide HB).1 (Fr.ofGrown g1) (fun k hk => (by simp [Value.ownBlock] at hk; omega))); have y1 := (unhide HC _ (unhide B1)).2.2.1)
            | (refine step_app_r rfl (.tmp 46) (.tmp 53) 99 rfl wr.heap.size 109 i0 (.agg #[.int .i64 0, .int .i64 0]) 2 16 Tryz.underlying99 (unhide HI).1 (unhide HI).2.1 (unhide HI).2.2.1 (unhide HI).2.2.2 rfl (by decide) v1 (0 + j) ([] ++ T1) (by first | rfl | simp [Act.eval, Act.put]) o1 ⟨g, _, none⟩ _ _ T2 (by first | rfl | (simp [Act.eval, Act.put]; done)) (unhide HL).2.1 (unhide HC _ (unhide B1)).2.1 (unhide HL).2.2.2.2.2.2.2 (by rw [Nat.zero_add]; exact (unhide HL).2.2.1) (by rw [Nat.zero_add]; exact (unhide HL).2.2.2.1) (unhide B1).size ?_; intro v2 w2 o2 g2 at2; obtain ⟨a2, cp2, rfl⟩ := own_slice o2; have B2 := hide (Fr.toBase (unhide B1) (Fr.ofGrown g2) (fun k hk => (World.ownsRow.lt o1 k (by simpa using hk)).1)); have Z := unhide HEnd w2 _ (unhide B2) (by rw [Nat.zero_add, List.nil_append] at o2; exact o2); obtain ⟨⟨z1, z2⟩, z3⟩ := Z; have HZ := hide z3; clear z3)
            | fail)
          all_goals
            go_wp2_with fail
            go_meet
            case rel => exact ⟨_, unhide HZ⟩
        case rest =>
          go_wp2
          go_ret2
          exact ⟨rfl, unhide hcut⟩
end Go.Proofs.YtkaioidneknmjaaGreatDoor.Tn

/- The document's Take: no key that was left. -/
namespace Go.Proofs.YtkaioidneknmjaaGreatDoor.Tn
open Go.RowKit Go.Maps

def rK (b : Nat) (lab : Int) (x y : Nat) (L L' : List Tm) : Prop := ∀ (W : World) (sv : Value), Rs W b sv L → Calls Tryz.prog 32 #[.pointer (some ⟨b, 0, none⟩), .int .i64 lab, .int .i64 (x : Int), .int .i64 0] W fun e w' => e = .returned (.int .i64 (y : Int)) ∧ ∃ sv2, RStep W w' b sv sv2 L'
theorem rK_key {b : Nat} {p : List Tm × Nat} (hg : Gd p) (hl : p.1.length < 1048576) : rK b 11 p.2 (kyS p).2 p.1 (kyS p).1 := fun _ _ h => rput (RStep.refl h) hg hl 11 (by omega)
theorem rK_next {b : Nat} {p : List Tm × Nat} (hg : Gd p) (hl : p.1.length + 2 ≤ 1048576) : rK b 10 p.2 (stp p).2 (kyS p).1 (stp p).1 := fun _ _ h => by
  have h1 := kyS_len p
  exact rput (p := ((kyS p).1, p.2)) (RStep.refl h) (kyS_keep hg) (by simp only; omega) 10 (by omega)
theorem up_len {nx : Nat} : ∀ (l : Lfs) (k : Nat), k ≤ nx → l.Pairwise (fun p q => p.1 < q.1) → (∀ p ∈ l, k ≤ p.1 ∧ p.1 < nx) → l.length + k ≤ nx
  | [], k, hk, _, _ => by simpa using hk
  | p :: l, k, _, up, h => by
    have hp := h p (by simp)
    have := up_len l (p.1 + 1) (by omega) (List.pairwise_cons.1 up).2 (fun q hq => ⟨(List.pairwise_cons.1 up).1 q hq, (h q (List.mem_cons_of_mem _ hq)).2⟩)
    simp only [List.length_cons]
    omega
theorem Lf.le {nx : Nat} {l : Lfs} (h : Lf nx l) : l.length ≤ nx := by
  have := up_len l 0 (Nat.zero_le _) h.up (fun p hp => ⟨Nat.zero_le _, h.lt p hp⟩)
  omega
set_option maxRecDepth 100000 in
set_option maxHeartbeats 8000000 in
theorem rtake_miss {w : World × List Nat} {W : World} {c b : Nat} {sv : Value} {a : Option Addr} {N cap : Nat} {L : List Tm} {l : Lfs} {nx x : Nat} (h : RS w W c b sv (.slice a N cap) L l nx x) (hg : Gd (L, x)) (hlf : Lf nx l) (hN : N = l.length) (hll : N ≤ 64) (n : Nat) (hm : ∀ (j : Nat) (q : Nat × Nat), l[j]? = some q → q.1 ≠ n) (hn : (n : Int) ≤ 9223372036854775807) (hL : L.length ≤ 1000000) (hnx : nx ≤ 1000000) :
    Calls Tryz.prog 10 #[.pointer (some ⟨c, 0, none⟩), .int .i64 (n : Int)] W fun e W' => (n < nx ∧ e = .returned (.tuple #[.int .i64 0, .int .i64 10]) ∧ RS w W' c b sv (.slice a N cap) L l nx x) ∨ (nx ≤ n ∧ nx + 64 < n + N ∧ e = .returned (.tuple #[.int .i64 0, .int .i64 3]) ∧ RS w W' c b sv (.slice a N cap) L l nx x) ∨ (∃ d, n = nx + d ∧ d + N ≤ 64 ∧ e = .returned (.tuple #[.int .i64 ((kyS (wkS (L, x) d)).2 : Nat), .int .i64 0]) ∧ ∃ sv' lv, RS w W' c b sv' lv (wkS (L, x) (d + 1)).1 (l ++ nlf (L, x) nx d) (nx + d + 1) (wkS (L, x) (d + 1)).2) := by
  obtain ⟨c0, c1, c2, c3⟩ := h.cells
  have HJ : Hid (∀ (j : Nat), j < N → ∃ (g : Nat) (q : Nat × Nat), a = some ⟨g, 0, none⟩ ∧ W.cell? ⟨g, j * 2, none⟩ = some (.int .i64 (q.1 : Int)) ∧ ((q.1 : Int) == (n : Int)) = false ∧ decide ((q.1 : Int) = (n : Int)) = false) := fun j hj => by
    obtain ⟨q, hq⟩ : ∃ q, l[j]? = some q := ⟨_, List.getElem?_eq_getElem (by omega)⟩
    obtain ⟨g', e', -, z0, -⟩ := h.cn.row.cells hq
    have := hm j q hq
    exact ⟨g', q, e', z0, by simp; omega, decide_eq_false (by omega)⟩
  have n0 : (0 : Int) ≤ (n : Int) := by omega
  have hNx : N ≤ nx := by rw [hN]; exact hlf.le
  have q64 : (N : Int) ≤ 64 := by omega
  have hnxI : (nx : Int) ≤ 1000000 := by omega
  have HR := hide h
  have HG := hide (And.intro hg (And.intro hN (And.intro hll (And.intro hL hnx))))
  obtain ⟨i0, hi, hz0, hz1, hzb⟩ := info_parts Tryz.infoLeft
  have HI := hide (And.intro hi (And.intro hz0 (And.intro hz1 hzb)))
  have HNX := hide hNx
  clear h hg hN hll hm hL hnx hlf hi hz0 hz1 hzb hNx
  go_enter Tryz.func10, Tryz.ntmps10
  go_wp2_with fail
  go_loopw [6] (fun iv wr => ∃ j : Nat, iv = .int .i64 (j : Int) ∧ j ≤ N ∧ wr = W) (fun iv _ => (N - intOf iv).toNat)
  case atStart => exact ⟨0, rfl, by omega, rfl⟩
  case round =>
    obtain ⟨j, rfl, hj, rfl⟩ := hrel
    by_cases hlt : j < N
    · obtain ⟨g, q, rfl, z0, z1, z2⟩ := unhide HJ j hlt
      have qj : (j : Int) < (N : Int) := by omega
      have qj0 : (0 : Int) ≤ (j : Int) := by omega
      clear HG HR
      go_wp2_with fail
      go_roundw
      case rel => exact ⟨j + 1, by go_num, by omega, by first | rfl | trivial⟩
      case measure => simp only [intOf]; omega
    · have hje : j = N := by omega
      subst hje
      clear HJ hlt hj
      by_cases hst : n < nx
      · have hst' : (n : Int) < (nx : Int) := by omega
        clear HG
        go_wp2
        go_ret2
        exact Or.inl ⟨hst, rfl, unhide HR⟩
      · have hst' : ¬ (n : Int) < (nx : Int) := by omega
        have hst2 : decide ((n : Int) < (nx : Int)) = false := decide_eq_false hst'
        obtain ⟨d, hd⟩ : ∃ d, n = nx + d := ⟨n - nx, by omega⟩
        have hdw : IntKind.i64.wrap ((n : Int) - (nx : Int)) = (d : Int) := by rw [IntKind.wrap_i64]; omega
        have hde : (n : Int) - (nx : Int) = (d : Int) := by omega
        have hdw2 : IntKind.i64.wrap (d : Int) = (d : Int) := by rw [IntKind.wrap_i64]; omega
        have hs1 : IntKind.i64.wrap ((d : Int) + (j : Int)) = (d : Int) + (j : Int) := by have := unhide HNX; rw [IntKind.wrap_i64]; omega
        have x2 : wr.drew.cell? ⟨c, 2, none⟩ = some (.int .i64 (nx : Int)) := c2
        have x3 : wr.drew.cell? ⟨c, 3, none⟩ = some (.slice a j cap) := c3
        have HF : Hid (RS w wr.drew c b sv (.slice a j cap) L l nx x) := (unhide HR).new (Below.refl _ _).drew
        have HD := hide hd
        clear HR hd
        by_cases hlim : 64 < d + j
        · have hs2 : (64 : Int) < (d : Int) + (j : Int) := by omega
          have hs3 : decide ((64 : Int) < (d : Int) + (j : Int)) = true := decide_eq_true hs2
          clear HG
          go_upto_region 12 with fail
          go_region
          all_goals
            go_wp2
            go_ret2
            first | exact Or.inr (Or.inl ⟨by omega, by have := unhide HD; omega, rfl, unhide HF⟩) | exact Or.inl ⟨by omega, by have := unhide HD; omega, rfl, unhide HF⟩
        · have hs2 : ¬ (64 : Int) < (d : Int) + (j : Int) := by omega
          have hs3 : decide ((64 : Int) < (d : Int) + (j : Int)) = false := decide_eq_false hs2
          go_upto_region 12 with fail
          go_region
          obtain ⟨hg, hjl, hj64, hL, hnx⟩ := unhide HG
          have HGi : Hid (∀ i, i ≤ d → Gd (wkS (L, x) i) ∧ (wkS (L, x) i).1.length + 2 ≤ 1048576) := fun i hi => ⟨wkS_gd hg i (by simp only; omega), by have := wkS_len (L, x) i; simp only at this; omega⟩
          have HP1 : Hid (∀ i, i ≤ d → rK b 11 (wkS (L, x) i).2 (kyS (wkS (L, x) i)).2 (wkS (L, x) i).1 (kyS (wkS (L, x) i)).1) := fun i hi => rK_key (unhide HGi i hi).1 (by have := (unhide HGi i hi).2; omega)
          have HP2 : Hid (∀ i, i ≤ d → rK b 10 (wkS (L, x) i).2 (wkS (L, x) (i + 1)).2 (kyS (wkS (L, x) i)).1 (wkS (L, x) (i + 1)).1) := fun i hi => rK_next (unhide HGi i hi).1 (unhide HGi i hi).2
          have HB := hide (And.intro hjl (And.intro hj64 (And.intro hL (And.intro hnx hlim))))
          have S0 : Hid (∃ (i : Nat) (sv1 : Value) (a1 : Option Addr) (cap1 : Nat), i ≤ d ∧ RS w wr.drew c b sv1 (.slice a1 (j + i) cap1) (wkS (L, x) i).1 (l ++ nlf (L, x) nx i) (nx + i) (wkS (L, x) i).2) := ⟨0, sv, a, cap, Nat.zero_le _, by rw [show l ++ nlf (L, x) nx 0 = l from List.append_nil l]; exact unhide HF⟩
          clear hg hjl hj64 hL hnx HGi HG HF hlim x2 x3 hs1 hs2 hs3 hdw hde hdw2 c0 c1 c2 c3 hst hst' hst2
          go_wp2_with fail
          go_loopw [] (fun wq => Hid (∃ (i : Nat) (sv1 : Value) (a1 : Option Addr) (cap1 : Nat), i ≤ d ∧ RS w wq c b sv1 (.slice a1 (j + i) cap1) (wkS (L, x) i).1 (l ++ nlf (L, x) nx i) (nx + i) (wkS (L, x) i).2)) (fun wq => (n - intOf ((wq.cell? ⟨c, 2, none⟩).getD (.int .i64 0))).toNat)
          case atStart => exact S0
          case round =>
            clear S0
            obtain ⟨i, sv1, a1, cap1, hi, R⟩ := unhide hrel
            obtain ⟨c0, c1, c2, c3⟩ := R.cells
            obtain ⟨X, hX⟩ : ∃ X : Nat, X = (wkS (L, x) i).2 := ⟨_, rfl⟩
            obtain ⟨ky, hky⟩ : ∃ ky : Nat, ky = (kyS (wkS (L, x) i)).2 := ⟨_, rfl⟩
            obtain ⟨Xn, hXn⟩ : ∃ Xn : Nat, Xn = (wkS (L, x) (i + 1)).2 := ⟨_, rfl⟩
            have K1 := hide (unhide HP1 i hi)
            have K2 := hide (unhide HP2 i hi)
            rw [← hX, ← hky] at K1
            rw [← hX, ← hXn] at K2
            rw [← hX] at R c1
            obtain ⟨m, hmm⟩ : ∃ m, m = nx + i := ⟨_, rfl⟩
            rw [← hmm] at R c2
            have HE := hide (And.intro hX (And.intro hky (And.intro hXn hmm)))
            have R0 : Hid (RS w wr.drew c b sv1 (.slice a1 (j + i) cap1) (wkS (L, x) i).1 (l ++ nlf (L, x) nx i) m X) := R.new (Below.refl _ _).drew
            have K1' := hide (unhide K1 wr.drew sv1 (unhide R0).st)
            have x0 : wr.drew.cell? ⟨c, 0, none⟩ = some (.pointer (some ⟨b, 0, none⟩)) := c0
            have x1 : wr.drew.cell? ⟨c, 1, none⟩ = some (.int .i64 (X : Int)) := c1
            have x2 : wr.drew.cell? ⟨c, 2, none⟩ = some (.int .i64 (m : Int)) := c2
            have x3 : wr.drew.cell? ⟨c, 3, none⟩ = some (.slice a1 (j + i) cap1) := c3
            have hm6 : (m : Int) ≤ 1000064 := by have := unhide HB; omega
            by_cases hlt : i < d
            · have hmn : (m : Int) < (n : Int) := by have := unhide HD; omega
              have hmeas : Hid ((wr.cell? ⟨c, 2, none⟩).getD (.int .i64 0) = .int .i64 (m : Int)) := by unfold Hid; rw [c2]; rfl
              obtain ⟨J, hJ⟩ : ∃ J, J = j + i := ⟨_, rfl⟩
              rw [← hJ] at R0 c3 x3
              have hJb : J ≤ 64 := by have := unhide HB; omega
              have hlen : (l ++ nlf (L, x) nx i).length = J := by rw [List.length_append, nlf_len, hJ, (unhide HB).1]
              have HN : Hid (J + 1 = j + (i + 1) ∧ (l ++ nlf (L, x) nx i).length = J ∧ J + 1 ≤ maxLen ∧ (J + 1) * 16 ≤ 140737488355328 ∧ l ++ nlf (L, x) nx i ++ [(m, ky)] = l ++ nlf (L, x) nx (i + 1)) := ⟨by omega, hlen, by unfold maxLen; omega, by omega, by rw [List.append_assoc, hmm, hky]; rfl⟩
              clear hrel R hX hky hXn hmm HP1 HP2 hJ hlen hJb K1
              obtain ⟨Lk, hLk⟩ : ∃ Lk, Lk = (kyS (wkS (L, x) i)).1 := ⟨_, rfl⟩
              obtain ⟨li, hli⟩ : ∃ li, li = l ++ nlf (L, x) nx i := ⟨_, rfl⟩
              obtain ⟨lj, hlj⟩ : ∃ lj, lj = l ++ nlf (L, x) nx (i + 1) := ⟨_, rfl⟩
              rw [← hLk] at K1' K2
              rw [← hli] at R0
              rw [← hli, ← hlj] at HN
              have HLk := hide (And.intro hLk (And.intro hli hlj))
              clear hLk hli hlj
              go_upto_region 15 with fail
              go_cut [] from 83 to 105 (fun wx => Hid (∃ a2 cap2 sv2, RS w wx c b sv2 (.slice a2 (J + 1) cap2) Lk lj m X))
              case first =>
                clear c0 c1 c2 c3 hmeas K2 HLk HE HB HNX HD hn n0 hnxI q64 hm6 hmn
                go_region_law (first
                  | (refine step_app_r rfl (.tmp 87) (.tmp 102) 99 rfl 0 109 i0 (.agg #[.int .i64 0, .int .i64 0]) 2 16 Tryz.underlying99 (unhide HI).1 (unhide HI).2.1 (unhide HI).2.2.1 (unhide HI).2.2.2 rfl (by decide) (.slice a1 J cap1) J (li.flatMap lnC) (by first | rfl | (simp [Act.eval, Act.put]; done)) (World.ownsRow.alloc hrow _) ⟨zz.heap.size, 0, none⟩ 1 1 [.int .i64 (m : Int), .int .i64 (ky : Int)] (by first | rfl | (simp [Act.eval, Act.put]; done)) rfl (cells_r2 zz _ _ _) (one_ln [(m, ky)]) (unhide HN).2.2.1 (unhide HN).2.2.2.1 (Nat.zero_le _) ?_; intro v' w5 hown' hgrow hat; obtain ⟨a5, cp5, rfl⟩ := own_slice hown'; have Z := (unhide RZ).put (v' := .slice a5 (J + 1) cp5) (l' := lj) (((Fr.refl _ zz).alloc _).tr (Fr.ofGrown hgrow)) (by unfold FRow; rw [← (unhide HN).2.2.2.2, List.flatMap_append, List.length_append, (unhide HN).2.1]; exact hown') (fun k hk => (by rcases hat with e | e; exact Or.inl (by rw [← e]; exact hk); right; rw [e] at hk; simp at hk; omega)); obtain ⟨⟨z1, z2⟩, z3⟩ := Z; have HZ := hide z3; clear z3)
                  | (go_simp; go_wp2_with (first | (go_at_call 32; refine (unhide K1').mono ?_; rintro e_ zz ⟨rfl, sv2, s2⟩; have RZ := hide ((unhide R0).stepR s2); have hrow : zz.ownsRow 0 109 2 (.slice a1 J cap1) J (li.flatMap lnC) := (by have := (unhide RZ).cn.row; unfold FRow at this; rw [(unhide HN).2.1] at this; exact this); obtain ⟨y0, y1, y2, y3⟩ := (unhide RZ).cells; have y3a := cell_al (o := .cells #[.int .i64 (m : Int), .int .i64 (ky : Int)] 109) y3 (lt_of_cell y3))))
                  | fail)
                all_goals
                  go_wp2_with fail
                  go_meet
                  case rel => exact ⟨_, _, _, unhide HZ⟩
              case rest =>
              clear K1' R0 c0 c1 c2 c3 x0 x1 x2 x3
              obtain ⟨a2, cap2, sv2, R2⟩ := unhide hcut
              obtain ⟨c0, c1, c2, c3⟩ := R2.cells
              have R0 : Hid (RS w wc.drew c b sv2 (.slice a2 (J + 1) cap2) Lk lj m X) := R2.new (Below.refl _ _).drew
              have K2' := hide (unhide K2 wc.drew sv2 (unhide R0).st)
              have x0 : wc.drew.cell? ⟨c, 0, none⟩ = some (.pointer (some ⟨b, 0, none⟩)) := c0
              have x1 : wc.drew.cell? ⟨c, 1, none⟩ = some (.int .i64 (X : Int)) := c1
              clear hcut R2 K2
              have HZ1 : Hid (∀ zz sv3, RStep wc.drew zz b sv2 sv3 (wkS (L, x) (i + 1)).1 → (zz.cell? ⟨c, 0, none⟩ = some (.pointer (some ⟨b, 0, none⟩)) ∧ zz.cell? ⟨c, 1, none⟩ = some (.int .i64 (X : Int)) ∧ zz.frozen? ⟨c, 1, none⟩ = false) ∧ RS w (zz.setCell ⟨c, 1, none⟩ (.int .i64 (Xn : Int))) c b sv3 (.slice a2 (J + 1) cap2) (wkS (L, x) (i + 1)).1 lj m Xn) := fun zz sv3 s3 => by
                have h2 := (unhide R0).stepR s3
                exact ⟨⟨h2.cells.1, h2.cells.2.1, h2.froz 1⟩, h2.poke 1 (.int .i64 (Xn : Int)) (nx' := m) (x' := Xn) rfl⟩
              clear R0 c2 c3
              obtain ⟨Ln, hLn⟩ : ∃ Ln, Ln = (wkS (L, x) (i + 1)).1 := ⟨_, rfl⟩
              rw [← hLn] at HZ1 K2'
              have HLn := hide hLn
              clear hLn
              go_upto_region 16 with fail
              go_cut [] from 106 to 117 (fun wx => Hid (∃ sv3, RS w wx c b sv3 (.slice a2 (J + 1) cap2) Ln lj m Xn))
              case first =>
                go_region_law ((go_simp; go_wp2_with (first | (go_at_call 32; refine (unhide K2').mono ?_; rintro e_ zz ⟨rfl, sv3, s3⟩; obtain ⟨⟨y0, y1, y2⟩, y3⟩ := unhide HZ1 zz sv3 s3; have HZ := hide y3; clear y3))))
                all_goals
                  go_wp2_with fail
                  go_meet
                  case rel => exact ⟨_, unhide HZ⟩
              case rest =>
              rename World => W3
              obtain ⟨sv3, R3⟩ := unhide hcut
              clear hcut HZ1 K2' c0 c1 x0 x1
              obtain ⟨c0, c1, c2, c3⟩ := R3.cells
              have f2 := R3.froz 2
              have R4 := R3.poke 2 (.int .i64 ((m : Int) + 1)) (nx' := m + 1) (x' := Xn) rfl
              have HR4 : Hid (RS w (W3.setCell ⟨c, 2, none⟩ (.int .i64 ((m : Int) + 1))) c b sv3 (.slice a2 (j + (i + 1)) cap2) (wkS (L, x) (i + 1)).1 (l ++ nlf (L, x) nx (i + 1)) (nx + (i + 1)) (wkS (L, x) (i + 1)).2) := by
                have h1 := R4
                obtain ⟨e1, e2, e3, e4⟩ := unhide HE
                rw [(unhide HN).1, unhide HLn, (unhide HLk).2.2, e3] at h1
                rw [show nx + (i + 1) = m + 1 by omega]
                exact h1
              have hc4 : Hid ((W3.setCell ⟨c, 2, none⟩ (.int .i64 ((m : Int) + 1))).cell? ⟨c, 2, none⟩ = some (.int .i64 ((m : Int) + 1))) := R4.cells.2.2.1
              clear R3 R4 c0 c1 c3
              go_wp2_with fail
              go_roundw
              case rel => exact ⟨i + 1, sv3, a2, cap2, by omega, unhide HR4⟩
              case measure =>
                rw [unhide hmeas, unhide hc4]
                simp only [Option.getD_some, intOf]
                omega
            · have hie : i = d := by omega
              subst hie
              have hmn : ¬ (m : Int) < (n : Int) := by have := unhide HD; omega
              have hmn2 : decide ((m : Int) < (n : Int)) = false := decide_eq_false hmn
              clear hrel R hX hky hXn hmm HP1 HP2 K1 hlt hi
              obtain ⟨Lk, hLk⟩ : ∃ Lk, Lk = (kyS (wkS (L, x) i)).1 := ⟨_, rfl⟩
              obtain ⟨Ln, hLn⟩ : ∃ Ln, Ln = (wkS (L, x) (i + 1)).1 := ⟨_, rfl⟩
              rw [← hLk] at K1' K2
              rw [← hLn] at K2
              have HLn := hide hLn
              obtain ⟨li, hli⟩ : ∃ li, li = l ++ nlf (L, x) nx i := ⟨_, rfl⟩
              rw [← hli] at R0
              have HLi := hide hli
              obtain ⟨V1, hV1⟩ : ∃ V1 : Value, V1 = .slice a1 (j + i) cap1 := ⟨_, rfl⟩
              rw [← hV1] at R0
              clear hLk hLn hli c3 x2 x3 c0 c1 hV1
              go_upto_region 18 with fail
              clear c2
              go_cut [8] from 125 to 133 (fun kv wx => kv = .int .i64 (ky : Int) ∧ Hid (∃ sv2, RS w wx c b sv2 V1 Lk li m X))
              case first =>
                go_region_law ((go_simp; go_wp2_with (first | (go_at_call 32; refine (unhide K1').mono ?_; rintro e_ zz ⟨rfl, sv2, s2⟩; have RZ := hide ((unhide R0).stepR s2)))))
                all_goals
                  go_wp2_with fail
                  go_meet
                  case rel => exact ⟨rfl, _, unhide RZ⟩
              case rest =>
              obtain ⟨rfl, hcut⟩ := hcut
              obtain ⟨sv2, R2⟩ := unhide hcut
              clear hcut K1' R0 x0 x1
              obtain ⟨c0, c1, c2, c3⟩ := R2.cells
              have R0 : Hid (RS w wc.drew c b sv2 V1 Lk li m X) := R2.new (Below.refl _ _).drew
              have K2' := hide (unhide K2 wc.drew sv2 (unhide R0).st)
              have x0 : wc.drew.cell? ⟨c, 0, none⟩ = some (.pointer (some ⟨b, 0, none⟩)) := c0
              have x1 : wc.drew.cell? ⟨c, 1, none⟩ = some (.int .i64 (X : Int)) := c1
              have HZ1 : Hid (∀ zz sv3, RStep wc.drew zz b sv2 sv3 Ln → (zz.cell? ⟨c, 0, none⟩ = some (.pointer (some ⟨b, 0, none⟩)) ∧ zz.cell? ⟨c, 1, none⟩ = some (.int .i64 (X : Int)) ∧ zz.frozen? ⟨c, 1, none⟩ = false) ∧ RS w (zz.setCell ⟨c, 1, none⟩ (.int .i64 (Xn : Int))) c b sv3 V1 Ln li m Xn) := fun zz sv3 s3 => by
                have h2 := (unhide R0).stepR s3
                exact ⟨⟨h2.cells.1, h2.cells.2.1, h2.froz 1⟩, h2.poke 1 (.int .i64 (Xn : Int)) (nx' := m) (x' := Xn) rfl⟩
              clear R2 R0 K2 c2 c3
              go_upto_region 19 with fail
              go_cut [8] from 134 to 145 (fun kv wx => kv = .int .i64 (ky : Int) ∧ Hid (∃ sv3, RS w wx c b sv3 V1 Ln li m Xn))
              case first =>
                go_region_law ((go_simp; go_wp2_with (first | (go_at_call 32; refine (unhide K2').mono ?_; rintro e_ zz ⟨rfl, sv3, s3⟩; obtain ⟨⟨y0, y1, y2⟩, y3⟩ := unhide HZ1 zz sv3 s3; have HZ := hide y3; clear y3))))
                all_goals
                  go_wp2_with fail
                  go_meet
                  case rel => exact ⟨rfl, _, unhide HZ⟩
              case rest =>
              rename World => W3
              obtain ⟨rfl, hcut⟩ := hcut
              obtain ⟨sv3, R3⟩ := unhide hcut
              clear hcut HZ1 K2' c0 c1 x0 x1
              obtain ⟨c0, c1, c2, c3⟩ := R3.cells
              have f2 := R3.froz 2
              have R4 := R3.poke 2 (.int .i64 ((m : Int) + 1)) (nx' := m + 1) (x' := Xn) rfl
              have HR4 : Hid (RS w (W3.setCell ⟨c, 2, none⟩ (.int .i64 ((m : Int) + 1))) c b sv3 V1 (wkS (L, x) (i + 1)).1 (l ++ nlf (L, x) nx i) (nx + i + 1) (wkS (L, x) (i + 1)).2) := by
                have h1 := R4
                obtain ⟨e1, e2, e3, e4⟩ := unhide HE
                rw [unhide HLn, unhide HLi, e3] at h1
                rw [show nx + i + 1 = m + 1 by omega]
                exact h1
              have hlast : Hid (n = nx + i ∧ i + j ≤ 64 ∧ ky = (kyS (wkS (L, x) i)).2) := ⟨unhide HD, by have := unhide HB; omega, (unhide HE).2.1⟩
              clear R3 R4 c0 c1 c3
              go_wp2
              go_ret2
              obtain ⟨e1, e2, e3⟩ := unhide hlast
              have hfin : ∃ d, n = nx + d ∧ d + j ≤ 64 ∧ Ending.returned (.tuple #[.int .i64 (ky : Int), .int .i64 0]) = .returned (.tuple #[.int .i64 ((kyS (wkS (L, x) d)).2 : Nat), .int .i64 0]) ∧ ∃ sv' lv, RS w (W3.setCell ⟨c, 2, none⟩ (.int .i64 ((m : Int) + 1))) c b sv' lv (wkS (L, x) (d + 1)).1 (l ++ nlf (L, x) nx d) (nx + d + 1) (wkS (L, x) (d + 1)).2 := ⟨i, e1, e2, by rw [e3], sv3, V1, unhide HR4⟩
              first | exact Or.inr (Or.inr hfin) | exact Or.inr hfin | exact hfin
end Go.Proofs.YtkaioidneknmjaaGreatDoor.Tn
