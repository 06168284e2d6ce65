/- Texts joined: AcA NTmRL NTmPut NTmRDag. -/
import Derived.Test.YtokdflbajnecpaaZ05
import Derived.Test.YtokdflbajnecpaaZ03
/- Package account: public numbers and terms put behind one another, plainly; what a list that is put together leaves as it was. -/
namespace Go.Proofs.Ytokdflbajnecpaa.Tn.Ax
open Go.RowKit Go.Maps
def dat (p : List Tm × List Nat) (z : Int) : List Tm × List Nat := (mkL p.1 ⟨2, z, 0, 0⟩, p.2 ++ [mkN p.1 ⟨2, z, 0, 0⟩])
def dats (p : List Tm × List Nat) (zs : List Int) : List Tm × List Nat := zs.foldl dat p
theorem dat_len (p : List Tm × List Nat) (z : Int) : (dat p z).1.length ≤ p.1.length + 1 ∧ p.1.length ≤ (dat p z).1.length ∧ (dat p z).2.length = p.2.length + 1 := ⟨mkL_len _ _, mkL_le _ _, by simp [dat]⟩
theorem dats_len (zs : List Int) : ∀ p : List Tm × List Nat, (dats p zs).1.length ≤ p.1.length + zs.length ∧ p.1.length ≤ (dats p zs).1.length ∧ (dats p zs).2.length = p.2.length + zs.length := by
  induction zs with
  | nil => intro p; simp [dats]
  | cons z r ih =>
    intro p
    have h := ih (dat p z)
    have k := dat_len p z
    have e : dats p (z :: r) = dats (dat p z) r := rfl
    rw [e]
    simp only [List.length_cons]
    omega
theorem dats_snoc (p : List Tm × List Nat) (l : List Int) (k : Nat) (z : Int) (h : l[k]? = some z) : dats p (l.take (k + 1)) = dat (dats p (l.take k)) z := by
  unfold dats
  rw [List.take_add_one, h]
  simp
theorem may_dat (N : Nat) (z : Int) : may N ⟨2, z, 0, 0⟩ = true := by simp [may]
def i64r (z : Int) : Prop := -9223372036854775808 ≤ z ∧ z ≤ 9223372036854775807
def Rg (N : Nat) (l : List Nat) : Prop := ∀ m ∈ l, 1 ≤ m ∧ m ≤ N
theorem Rg.mono {N M : Nat} {l : List Nat} (h : Rg N l) (hN : N ≤ M) : Rg M l := fun m hm => by have := h m hm; omega
theorem Rg.snoc {N : Nat} {l : List Nat} {n : Nat} (h : Rg N l) (h1 : 1 ≤ n ∧ n ≤ N) : Rg N (l ++ [n]) := fun m hm => by
  rcases List.mem_append.1 hm with c | c
  · exact h m c
  · simp at c; subst c; exact h1
theorem Rg.dat {p : List Tm × List Nat} (h : Rg p.1.length p.2) (z : Int) (hl : p.1.length < 1048576) : Rg (dat p z).1.length (dat p z).2 := by
  refine (h.mono (mkL_le _ _)).snoc ?_
  have := thr_iff.1 (mkN_thr (may_dat p.1.length z) hl).1
  exact ⟨by omega, by show mkN p.1 _ ≤ (mkL p.1 _).length; omega⟩
theorem Rg.dats (zs : List Int) : ∀ {p : List Tm × List Nat}, Rg p.1.length p.2 → p.1.length + zs.length ≤ 1048576 → Rg (Ax.dats p zs).1.length (Ax.dats p zs).2 := by
  induction zs with
  | nil => intro p h _; exact h
  | cons z r ih =>
    intro p h hl
    simp only [List.length_cons] at hl
    exact ih (h.dat z (by omega)) (by have := (dat_len p z).1; omega)
theorem lsF_ok : ∀ (r : List Int) (L : List Tm) (n : Int), (∀ a ∈ r, thr L.length a = true) → thr L.length n = true → L.length + r.length ≤ 1048576 →
    (lsF L r n).2.2 = 0 ∧ thr (lsF L r n).1.length (lsF L r n).2.1 = true ∧ (lsF L r n).1.length ≤ L.length + r.length ∧ L.length ≤ (lsF L r n).1.length := by
  intro r
  induction r with
  | nil => intro L n _ hn _; exact ⟨rfl, hn, by simp [lsF], by simp [lsF]⟩
  | cons a r ih =>
    intro L n ha hn hl
    simp only [List.length_cons] at hl ⊢
    have hm : may L.length ⟨3, 0, a, n⟩ = true := by
      have := ha a (by simp)
      simp [may, this, hn]
    obtain ⟨h1, h2, h3⟩ := mk_ok hm (by omega : L.length < 1048576)
    have t := mkN_thr hm (by omega : L.length < 1048576)
    have l1 := mkL_len L ⟨3, 0, a, n⟩
    have l2 := mkL_le L ⟨3, 0, a, n⟩
    have e : lsF L (a :: r) n = lsF (mkL L ⟨3, 0, a, n⟩) r (mkN L ⟨3, 0, a, n⟩ : Nat) := by
      show (if mkE L ⟨3, 0, a, n⟩ = 0 then _ else _) = _
      rw [if_pos h1]
    rw [e]
    obtain ⟨q1, q2, q3, q4⟩ := ih (mkL L ⟨3, 0, a, n⟩) (mkN L ⟨3, 0, a, n⟩ : Nat) (fun x hx => thr_mono (ha x (by simp [hx])) l2) t.1 (by omega)
    exact ⟨q1, q2, by omega, by omega⟩
def cI (l : List Nat) : List Int := l.map fun (m : Nat) => (m : Int)
theorem ls_ok {L : List Tm} {acc : List Nat} (h : Rg L.length acc) (hne : acc ≠ []) (hl : L.length + acc.length ≤ 1048576) :
    (ls L (cI acc)).2.2 = 0 ∧ thr (ls L (cI acc)).1.length (ls L (cI acc)).2.1 = true ∧ (ls L (cI acc)).1.length ≤ L.length + acc.length ∧ L.length ≤ (ls L (cI acc)).1.length := by
  have hall : ∀ a ∈ cI acc, thr L.length a = true := fun a ha => by
    obtain ⟨m, hm, rfl⟩ := List.mem_map.1 ha
    have := h m hm
    exact thr_iff.2 (by omega)
  have hr : ∀ a ∈ (cI acc).reverse, thr L.length a = true := fun a ha => hall a (List.mem_reverse.1 ha)
  have hlen : (cI acc).reverse.length = acc.length := by simp [cI]
  unfold ls
  rw [if_pos (List.all_eq_true.2 hall)]
  cases hq : (cI acc).reverse with
  | nil => rw [hq] at hlen; simp at hlen; exact absurd (List.length_eq_zero_iff.1 hlen.symm) hne
  | cons n r =>
    rw [hq] at hr hlen
    simp only [List.length_cons] at hlen
    obtain ⟨q1, q2, q3, q4⟩ := lsF_ok r L n (fun a ha => hr a (by simp [ha])) (hr n (by simp)) (by omega)
    exact ⟨q1, q2, by show (lsF L r n).1.length ≤ _; omega, q4⟩
structure AS (w w' : World) (b : Nat) (sv sv' : Value) (mb : Nat) (L' : List Tm) (p : Nat) (lv lv' : Value) (acc' : List Nat) : Prop where
  st : St w' b sv' mb L'
  blk : w'.heap[p]? = some (.cells #[.pointer (some ⟨b, 0, none⟩), lv', .int .i64 0] 77 (0, 0))
  row : NRow 0 w' lv' acc'
  fr : Fr (foot b sv mb ++ p :: lv.ownBlock.toList) w w'
  place : ∀ k, sv'.ownBlock = some k → sv.ownBlock = some k ∨ w.heap.size ≤ k
  placeL : ∀ k, lv'.ownBlock = some k → lv.ownBlock = some k ∨ w.heap.size ≤ k
theorem AS.refl {w : World} {b : Nat} {sv : Value} {mb : Nat} {L : List Tm} {p : Nat} {lv : Value} {acc : List Nat} (h : St w b sv mb L) (hb : w.heap[p]? = some (.cells #[.pointer (some ⟨b, 0, none⟩), lv, .int .i64 0] 77 (0, 0))) (hr : NRow 0 w lv acc) : AS w w b sv sv mb L p lv lv acc := ⟨h, hb, hr, Fr.refl _ _, fun _ hk => Or.inl hk, fun _ hk => Or.inl hk⟩
theorem AS.step {w W W' : World} {b : Nat} {sv sv1 sv2 : Value} {mb : Nat} {L1 L2 : List Tm} {p : Nat} {lv lv1 : Value} {acc : List Nat} (h : AS w W b sv sv1 mb L1 p lv lv1 acc) (s : SStep W W' b sv1 sv2 mb L2) : AS w W' b sv sv2 mb L2 p lv lv1 acc :=
  ⟨s.st, kept_fr h.blk h.st s.fr (by decide) (by decide), h.row.keep (fun x hx => s.fr.block x (h.row.lt x hx).2 (h.row.foot h.st x hx)),
   h.fr.trans s.fr (fun _ _ c => c) (fun x hx c => by
     rcases mem_foot.1 c with e | e | e
     · exact List.mem_append_left _ (mem_foot.2 (Or.inl e))
     · exact List.mem_append_left _ (mem_foot.2 (Or.inr (Or.inl e)))
     · rcases h.place x e with q | q
       · exact List.mem_append_left _ (mem_foot.2 (Or.inr (Or.inr q)))
       · omega),
   fun k hk => by
     rcases s.place k hk with q | q
     · exact h.place k q
     · exact Or.inr (Nat.le_trans h.fr.size q),
   h.placeL⟩
theorem AS.bw {w W W' : World} {b : Nat} {sv sv1 : Value} {mb : Nat} {L1 : List Tm} {p : Nat} {lv lv1 : Value} {acc : List Nat} (h : AS w W b sv sv1 mb L1 p lv lv1 acc) (hb : Below W.heap.size W W') : AS w W' b sv sv1 mb L1 p lv lv1 acc := h.step (SStep.same h.st hb)
theorem AS.before {w w0 W : World} {b : Nat} {sv sv1 : Value} {mb : Nat} {L1 : List Tm} {p : Nat} {lv lv1 : Value} {acc : List Nat} (hb : Below w.heap.size w w0) (h : AS w0 W b sv sv1 mb L1 p lv lv1 acc) : AS w W b sv sv1 mb L1 p lv lv1 acc :=
  ⟨h.st, h.blk, h.row, ((Fr.ofBelow hb).mono (fun _ _ c => by cases c)).tr h.fr, fun k hk => (h.place k hk).imp id (Nat.le_trans hb.size), fun k hk => (h.placeL k hk).imp id (Nat.le_trans hb.size)⟩
theorem AS.frs {w W V : World} {b : Nat} {sv sv1 : Value} {mb : Nat} {L1 : List Tm} {p : Nat} {lv lv1 : Value} {acc : List Nat} (h : AS w W b sv sv1 mb L1 p lv lv1 acc) (k : Fr (foot b sv1 mb ++ p :: lv1.ownBlock.toList) W V) : Fr (foot b sv mb ++ p :: lv.ownBlock.toList) w V := by
  refine h.fr.trans k (fun _ _ c => c) (fun x hx c => ?_)
  rcases List.mem_append.1 c with c | c
  · rcases mem_foot.1 c with e | e | e
    · exact List.mem_append_left _ (mem_foot.2 (Or.inl e))
    · exact List.mem_append_left _ (mem_foot.2 (Or.inr (Or.inl e)))
    · rcases h.place x e with q | q
      · exact List.mem_append_left _ (mem_foot.2 (Or.inr (Or.inr q)))
      · omega
  · rcases List.mem_cons.1 c with c | c
    · exact List.mem_append_right _ (by simp [c])
    · rcases h.placeL x (by simpa using c) with q | q
      · exact List.mem_append_right _ (by simp [q])
      · omega
theorem AS.trans {w W W' : World} {b : Nat} {sv sv1 sv2 : Value} {mb : Nat} {L1 L2 : List Tm} {p : Nat} {lv lv1 lv2 : Value} {acc acc2 : List Nat} (h : AS w W b sv sv1 mb L1 p lv lv1 acc) (k : AS W W' b sv1 sv2 mb L2 p lv1 lv2 acc2) : AS w W' b sv sv2 mb L2 p lv lv2 acc2 := by
  refine ⟨k.st, k.blk, k.row, h.frs k.fr, fun x hx => ?_, fun x hx => ?_⟩
  · rcases k.place x hx with q | q
    · exact h.place x q
    · exact Or.inr (Nat.le_trans h.fr.size q)
  · rcases k.placeL x hx with q | q
    · exact h.placeL x q
    · exact Or.inr (Nat.le_trans h.fr.size q)
theorem row_ne {w : World} {b : Nat} {p : Nat} {lv v : Value} {acc : List Nat} (hb : w.heap[p]? = some (.cells #[.pointer (some ⟨b, 0, none⟩), v, .int .i64 0] 77 (0, 0))) (hr : NRow 0 w lv acc) : ∀ k, lv.ownBlock = some k → k ≠ p := fun k hk c => by
  obtain ⟨cur, hc⟩ := hr.block hk
  rw [c, hb] at hc
  injection hc with hc; injection hc with _ hc; exact absurd hc (by decide)
theorem AS.grown {w W5 : World} {b : Nat} {sv : Value} {mb : Nat} {L : List Tm} {p : Nat} {lv v' : Value} {acc acc' : List Nat} (h : St w b sv mb L) (hb : w.heap[p]? = some (.cells #[.pointer (some ⟨b, 0, none⟩), lv, .int .i64 0] 77 (0, 0))) (hrow : NRow 0 w lv acc) (hr : NRow 0 W5 v' acc') (hg : w.grownBy W5 lv.ownBlock) (hp : v'.ownBlock = lv.ownBlock ∨ v'.ownBlock = some w.heap.size) :
    AS w (W5.setCell ⟨p, 1, none⟩ v') b sv sv mb L p lv v' acc' := by
  have f1 : Fr lv.ownBlock.toList w W5 := Fr.ofGrown hg
  have hd := hrow.foot h
  have hne := row_ne hb hrow
  have hb5 : W5.heap[p]? = some (.cells #[.pointer (some ⟨b, 0, none⟩), lv, .int .i64 0] 77 (0, 0)) := by
    rw [f1.block p (lt_of_blk hb) (fun c => hne p (by simpa using c) rfl)]; exact hb
  have s5 : St W5 b sv mb L := h.keep f1 (fun x hx c => hd x (by simpa using c) hx)
  have hnp : ∀ k, v'.ownBlock = some k → k ≠ p := row_ne hb5 hr
  have f2 : Fr [p] W5 (W5.setCell ⟨p, 1, none⟩ v') := (Fr.refl _ _).setCell (a := ⟨p, 1, none⟩) (Or.inr (by simp)) v'
  refine ⟨s5.keep f2 (fun x hx c => ?_), ?_, hr.keep (fun x hx => f2.block x (hr.lt x hx).2 (by simpa using hnp x hx)), ?_, fun _ hk => Or.inl hk, fun k hk => ?_⟩
  · simp at c; subst c; exact s5.notin hb5 (by decide) (by decide) hx
  · have := poke_blk (i := 1) hb5 v'
    simpa using this
  · exact f1.trans f2 (fun x hx c => List.mem_append_right _ (List.mem_cons_of_mem _ c)) (fun x hx c => List.mem_append_right _ (by simp at c; simp [c]))
  · rcases hp with hp | hp
    · exact Or.inl (by rw [← hp]; exact hk)
    · right; rw [hp] at hk; cases hk; exact Nat.le_refl _
theorem AS.sstep {w W : World} {b : Nat} {sv sv1 : Value} {mb : Nat} {L1 : List Tm} {lv1 : Value} {acc : List Nat} {ob : Obj} (h : AS (w.alloc ob) W b sv sv1 mb L1 w.heap.size (.slice none 0 0) lv1 acc) : SStep w W b sv sv1 mb L1 :=
  ⟨h.st, (((Fr.refl (foot b sv mb ++ [w.heap.size]) w).alloc ob).tr (h.fr.mono (fun x _ c => by simpa [Value.ownBlock] using c))).mono (fun x hx c => by
      rcases List.mem_append.1 c with c | c
      · exact c
      · simp at c; omega), fun k hk => (h.place k hk).imp id (fun q => by simp at q; omega)⟩
set_option maxRecDepth 100000 in
set_option maxHeartbeats 4000000 in
theorem terms_any {b : Nat} {sv : Value} {mb : Nat} {L : List Tm} {w : World} (h : St w b sv mb L) (p : Nat) (lv : Value) (acc : List Nat) (hb : w.heap[p]? = some (.cells #[.pointer (some ⟨b, 0, none⟩), lv, .int .i64 0] 77 (0, 0))) (hr : NRow 0 w lv acc) (q : Nat) (n : Nat) (hq : w.cell? ⟨q, 0, none⟩ = some (.int .i64 (n : Int))) (hac : acc.length ≤ 1000) :
    Calls Try.prog 42 #[.pointer (some ⟨p, 0, none⟩), .slice (some ⟨q, 0, none⟩) 1 1] w fun e w' => e = .returned (.tuple #[]) ∧ ∃ lv', AS w w' b sv sv mb L p lv lv' (acc ++ [n]) := by
  obtain ⟨j0, hj, hy0, hy1, hy2⟩ := info_parts Try.infoInt
  have c1 : w.cell? ⟨p, 1, none⟩ = some lv := blk_cell hb rfl
  have hqc : ∀ j u, [Value.int .i64 (n : Int)][j]? = some u → w.cell? ((⟨q, 0, none⟩ : Addr).add j) = some u := fun j u hu => by
    match j, hu with
    | 0, hu => cases hu; exact hq
  obtain ⟨A2, hA2⟩ : ∃ A2, A2 = acc.length := ⟨_, rfl⟩
  have hrow : w.ownsRow 0 3 1 lv A2 (acc.map (fun m => .int .i64 ((m : Nat) : Int))) := by rw [hA2]; exact hr
  have hal : A2 ≤ 1000 := by omega
  have HX := hide (And.intro h (And.intro hb (And.intro hr hA2)))
  clear h hb hr hA2 hac
  go_enter Try.func42, Try.ntmps42
  go_wp2_with (at_builtin; refine wpList_append_own_at _ rfl (.tmp 8) (.tmp 9) 24 rfl 0 3 j0 (.int .i64 0) 1 8 Try.underlying24 hj hy0 hy1 hy2 rfl (by decide) _ A2 _ rfl hrow ⟨q, 0, none⟩ 1 1 [.int .i64 (n : Int)] rfl rfl hqc ?c2 ?c3 ?c4 ?c5 ?nx)
  case c2 => intro u hu; simp at hu; subst hu; rfl
  case c3 => unfold maxLen; omega
  case c4 => omega
  case c5 => exact Nat.zero_le _
  case nx =>
    intro v' w5 hown' hgrow _ hpl
    obtain ⟨h, hb, hr, hA⟩ := unhide HX
    have hn5 : NRow 0 w5 v' (acc ++ [n]) := by
      rw [hA] at hown'
      unfold NRow; simpa using hown'
    obtain ⟨ga, cap, rfl⟩ : ∃ ga cap, v' = .slice ga (acc ++ [n]).length cap := by
      rcases hn5.form with ⟨-, c⟩ | ⟨g, cap, c, -⟩
      · simp at c
      · exact ⟨_, cap, c⟩
    have D5 := hide (AS.grown h hb hr hn5 hgrow (by simpa using hpl))
    have hb5 : w5.heap[p]? = some (.cells #[.pointer (some ⟨b, 0, none⟩), lv, .int .i64 0] 77 (0, 0)) := by
      rw [(Fr.ofGrown hgrow).block p (lt_of_blk hb) (fun c => row_ne hb hr p (by simpa using c) rfl)]; exact hb
    have c5 : w5.cell? ⟨p, 1, none⟩ = some lv := blk_cell hb5 rfl
    have f5 : w5.frozen? ⟨p, 1, none⟩ = false := blk_froz hb5
    clear hown' hgrow hn5 hpl hrow h hb hr hA HX hb5 c1 hq hqc
    generalize (acc ++ [n]).length = N2 at *
    go_wp2_with fail
    go_end0
    exact ⟨rfl, _, unhide D5⟩
end Go.Proofs.Ytokdflbajnecpaa.Tn.Ax

/- Contracts of the document's List and Data. -/
namespace Go.Proofs.Ytokdflbajnecpaa.Tn
open Go.RowKit Go.Maps
theorem NRow.rfoot {B : Nat} {w : World} {v : Value} {l : List Nat} {b : Nat} {sv : Value} {L : List Tm} (h : NRow B w v l) (hs : Rs w b sv L) : ∀ k, v.ownBlock = some k → k ∉ rfoot b sv := by
  intro k hk c
  obtain ⟨cur, hc⟩ := h.block hk
  rcases mem_rfoot.1 c with rfl | c
  · have := hs.blk; rw [hc] at this; simp at this
  · exact rows_apart hs.row h c hk
end Go.Proofs.Ytokdflbajnecpaa.Tn

/- The document's Dag of a term: the contract of put. -/
namespace Go.Proofs.Ytokdflbajnecpaa.Tn
open Go.RowKit Go.Maps
structure Pt (w wr : World) (L : List Tm) (ov : Value) (gt : Nat) (o : List Nat) : Prop where
  told : Told L o
  rl : TmRow w.heap.size wr ov (outs L o)
  blk : ∃ cur, wr.heap[gt]? = some (.cells cur 3 (0, 0)) ∧ ∀ k, k ≤ L.length → cur[k]? = some (.int .i64 ((pos o k : Nat) : Int))
  low : w.heap.size ≤ gt
  bel : Below w.heap.size w wr
structure PStep (wr w' : World) (gt : Nat) (ov ov' : Value) : Prop where
  fr : Fr (gt :: ov.ownBlock.toList) wr w'
  place : ∀ k, ov'.ownBlock = some k → ov.ownBlock = some k ∨ wr.heap.size ≤ k
theorem PStep.refl (wr : World) (gt : Nat) (ov : Value) : PStep wr wr gt ov ov := ⟨Fr.refl _ _, fun _ h => Or.inl h⟩
theorem PStep.trans {wr w1 w2 : World} {gt : Nat} {ov ov1 ov2 : Value} (h : PStep wr w1 gt ov ov1) (k : PStep w1 w2 gt ov1 ov2) : PStep wr w2 gt ov ov2 := by
  refine ⟨h.fr.trans k.fr (fun _ _ c => c) (fun x hx c => ?_), fun x hx => ?_⟩
  · rcases List.mem_cons.1 c with c | c
    · exact List.mem_cons.2 (Or.inl c)
    · rcases h.place x (by simpa using c) with q | q
      · exact List.mem_cons.2 (Or.inr (by simpa using q))
      · omega
  · rcases k.place x hx with c | c
    · exact h.place x c
    · exact Or.inr (Nat.le_trans h.fr.size c)
theorem PStep.ofBelow {wr w' : World} (gt : Nat) (ov : Value) (h : Below wr.heap.size wr w') : PStep wr w' gt ov ov := ⟨(Fr.ofBelow h).mono (fun _ _ c => by cases c), fun _ q => Or.inl q⟩
theorem Pt.lt {w wr : World} {L : List Tm} {ov : Value} {gt : Nat} {o : List Nat} (h : Pt w wr L ov gt o) : gt < wr.heap.size := by obtain ⟨cur, hc, _⟩ := h.blk; exact lt_of_blk hc
theorem Pt.apart {w wr : World} {L : List Tm} {ov : Value} {gt : Nat} {o : List Nat} (h : Pt w wr L ov gt o) : ov.ownBlock ≠ some gt := by
  intro c
  obtain ⟨cur, hc, _⟩ := h.blk
  obtain ⟨_, h1⟩ := h.rl.block c
  rw [hc] at h1
  simp only [Option.some.injEq, Obj.cells.injEq] at h1
  exact term_ne_int h1.2.1.symm
theorem Pt.new {w wr w' : World} {L : List Tm} {ov : Value} {gt : Nat} {o : List Nat} (h : Pt w wr L ov gt o) (hb : Below wr.heap.size wr w') : Pt w w' L ov gt o := by
  obtain ⟨cur, hc, hk⟩ := h.blk
  exact ⟨h.told, h.rl.bw hb, ⟨cur, by rw [hb.block gt h.lt]; exact hc, hk⟩, h.low, bw_tr h.bel hb⟩
theorem Pt.cell {w wr : World} {L : List Tm} {ov : Value} {gt : Nat} {o : List Nat} (h : Pt w wr L ov gt o) {k : Nat} (hk : k ≤ L.length) : wr.cell? ⟨gt, k, none⟩ = some (.int .i64 ((pos o k : Nat) : Int)) ∧ wr.frozen? ⟨gt, k, none⟩ = false := by
  obtain ⟨cur, hc, hk'⟩ := h.blk
  exact ⟨by simp [World.cell?, hc, hk' k hk], by simp [World.frozen?, hc]⟩
end Go.Proofs.Ytokdflbajnecpaa.Tn

/- The contract of Dag of the document's store. -/
namespace Go.Proofs.Ytokdflbajnecpaa.Tn
open Go.RowKit Go.Maps
theorem made_zero (n k : Nat) (h : k < n) : (madeCells (Value.int .i64 0).cells (n * 1)).toList[k]? = some (.int .i64 0) := by
  have hs : (Value.int .i64 0).cells = #[Value.int .i64 0] := rfl
  rw [hs]
  simp [madeCells, h, Nat.mod_one]
theorem Pt.start {w w1 : World} {L : List Tm} (hg : w.grownBy w1 none) (hrow : w1.ownsRow w.heap.size 3 1 (.slice (some ⟨w.heap.size, 0, none⟩) (L.length + 1) (L.length + 1)) (L.length + 1) (madeCells (Value.int .i64 0).cells ((L.length + 1) * 1)).toList) : Pt w w1 L (.slice none 0 0) w.heap.size [] := by
  refine ⟨told_nil L, TmRow.nil _ _, ?_, Nat.le_refl _, ⟨hg.os, hg.tape, hg.output, hg.size, fun k hk => hg.block k hk (by simp)⟩⟩
  rcases hrow.2 with ⟨c, _⟩ | ⟨g, cap, cur, hv, _, hgg, _, _, _, ht⟩
  · cases c
  · cases hv
    refine ⟨cur, hgg, fun k hk => ?_⟩
    have e := made_zero (L.length + 1) k (by omega)
    rw [← ht, List.getElem?_take, if_pos (by omega)] at e
    simpa [pos] using e
end Go.Proofs.Ytokdflbajnecpaa.Tn
