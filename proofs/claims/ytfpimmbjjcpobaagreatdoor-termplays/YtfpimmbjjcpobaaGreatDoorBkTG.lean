/- What law TermPlays keeps: both stores, and a Book of lists of terms. -/
import Derived.Test.YtfpimmbjjcpobaaGreatDoorBkTF
import Derived.Test.YtfpimmbjjcpobaaGreatDoorTmBuild
import Derived.Test.YtfpimmbjjcpobaaGreatDoorTmRDag
namespace Go.Proofs.YtfpimmbjjcpobaaGreatDoor
open Go.RowKit Go.Maps

set_option maxHeartbeats 1000000 in
theorem rget_any (b : Nat) (sv : Value) (L : List Tm) (x : Int) (w : World) (h : Rs w b sv L) :
    Calls Tryz.prog 7 #[.pointer (some ⟨b, 0, none⟩), .int .i64 x] w fun e w' => e = .returned (.tuple #[.agg #[.int .u8 (getT L x).kd, .int .i64 (getT L x).n, .int .i64 (getT L x).a, .int .i64 (getT L x).b], .bool (thr L.length x)]) ∧ Below w.heap.size w w' := by
  have K := there_any b sv L x _ (h.bw ((Below.refl w.heap.size w).alloc (Nat.le_refl _) (.cells #[.int .u8 0, .int .i64 0, .int .i64 0, .int .i64 0] 69)))
  cases ht : thr L.length x
  · have e : getT L x = ⟨0, 0, 0, 0⟩ := by simp [getT, ht]
    rw [e]
    rw [ht] at K
    clear e ht h
    go_enter Tryz.func7, Tryz.ntmps7
    go_wp2_with fail
    refine K.mono ?_
    rintro e w1 ⟨rfl, rfl⟩
    go_wp2
    exact bodyPost_ret (v := .tuple #[.agg #[.int .u8 0, .int .i64 0, .int .i64 0, .int .i64 0], .bool false]) (by simp [results, Tryz.results7, go_sem]) rfl ⟨rfl, (Below.refl _ _).alloc (Nat.le_refl _) _⟩
  · rw [ht] at K
    obtain ⟨i, t, rfl, hi, hlt, e⟩ := thr_open ht
    rw [e]
    have hl := h.len
    obtain ⟨c0, _⟩ := h.cells
    have hbw := lt_of_blk h.blk
    obtain ⟨g, cap, rfl, hg, t0, t1, t2, t3⟩ : ∃ g cap, sv = .slice (some ⟨g, 0, none⟩) L.length cap ∧ g < w.heap.size ∧ TAt w g (i * 4) t := by
      rcases h.row.form with ⟨_, rfl⟩ | ⟨g, cap, hv, _, hg, _⟩
      · simp at hlt
      · exact ⟨g, cap, hv, hg, h.row.at (by rw [hv]; rfl) hi⟩
    have hlt' : (i : Int) < (L.length : Int) := by omega
    clear e ht h hi
    generalize L.length = N at *
    go_enter Tryz.func7, Tryz.ntmps7
    go_wp2_with fail
    refine K.mono ?_
    rintro e w1 ⟨rfl, rfl⟩
    go_wp2
    exact bodyPost_ret (v := .tuple #[.agg #[.int .u8 t.kd, .int .i64 t.n, .int .i64 t.a, .int .i64 t.b], .bool true]) (by simp [results, Tryz.results7, go_sem]) rfl ⟨rfl, (Below.refl _ _).alloc (Nat.le_refl _) _⟩

theorem getT_ok {w : World} {b : Nat} {sv : Value} {mb : Nat} {L : List Tm} (h : St w b sv mb L) (x : Int) : (getT L x).ok := by
  cases ht : thr L.length x
  · have e : getT L x = ⟨0, 0, 0, 0⟩ := by simp [getT, ht]
    rw [e]; exact ⟨by decide, by decide, by decide, by decide, by decide, by decide, by decide, by decide⟩
  · obtain ⟨i, t, _, hi, _, e⟩ := thr_open ht
    rw [e]; exact h.fit t (List.mem_of_getElem? hi)
theorem dag_short {L : List Tm} (hG : Good L) (x : Int) : (dag L x).length ≤ 1048576 := by
  unfold dag
  split
  · rename_i c
    rw [outs_len]
    have := (ord_told hG (n := x.toNat) (by have := thr_iff.1 c; omega)).len
    have := hG.len
    omega
  · simp

/-- A Book without lists. -/
theorem book_zero (w : World) : Hl w.heap.size (w.alloc (.cells (bookCells 0 nilS) 66)) w.heap.size (.slice none 0 0) [] [] :=
  ⟨⟨heap_alloc_new _ _, World.ownsRow_nil _ _ _ _⟩, rfl, fun i v l hv _ => by simp at hv, fun i j u v k _ hu => by simp at hu⟩
theorem Hl.mono {B B' : Nat} {w : World} {b : Nat} {lv : Value} {vs : List Value} {ls : List (List Tm)} (h : Hl B w b lv vs ls) (hB : B' ≤ B) : Hl B' w b lv vs ls := by
  refine ⟨⟨h.bk.blk, ⟨h.bk.own.1, ?_⟩⟩, h.len, fun i v l hv hl => (h.row i v l hv hl).mono hB, h.apart⟩
  rcases h.bk.own.2 with h2 | ⟨g, cap, cur, q, q0, r⟩
  · exact Or.inl h2
  · exact Or.inr ⟨g, cap, cur, q, Nat.le_trans hB q0, r⟩
/-- A list more, that lies behind all. -/
theorem Hl.add {B : Nat} {w w' : World} {b : Nat} {lv lv' v : Value} {vs : List Value} {ls : List (List Tm)} {l : List Tm} (h : Hl B w b lv vs ls) (hv : TmRow B w v l) (hn : ∀ (i : Nat) (u : Value) (k : Nat), vs[i]? = some u → u.ownBlock = some k → v.ownBlock ≠ some k)
    (hk : Bk B w' b lv' (vs ++ [v])) (hf : Fr (b :: lv.ownBlock.toList) w w') : Hl B w' b lv' (vs ++ [v]) (ls ++ [l]) := by
  have keep : ∀ (u : Value) (m : List Tm), TmRow B w u m → TmRow B w' u m := fun u m hu => hu.fr hf (fun k hk c => by
    obtain ⟨cur, hc⟩ := hu.block hk
    rcases List.mem_cons.1 c with e | e
    · rw [e, h.bk.blk] at hc; simp at hc
    · have e2 : lv.ownBlock = some k := by simpa using e
      have := owns_type h.bk.own e2 hc
      exact absurd this (by decide))
  have hlen := h.len
  refine ⟨hk, by simp [hlen], fun i u m hu hm => ?_, fun i j u y k hij hu hy hk1 => ?_⟩
  · rcases Nat.lt_or_ge i vs.length with c | c
    · rw [List.getElem?_append_left c] at hu
      rw [List.getElem?_append_left (by omega)] at hm
      exact keep u m (h.row i u m hu hm)
    · rw [List.getElem?_append_right c] at hu
      rw [List.getElem?_append_right (by omega)] at hm
      have e0 : i - vs.length = 0 := by
        rcases Nat.eq_zero_or_pos (i - vs.length) with e | e
        · exact e
        · rw [List.getElem?_eq_none (by simp; omega)] at hu; cases hu
      rw [← hlen] at hm
      rw [e0] at hu hm
      simp at hu hm
      subst hu; subst hm
      exact keep v l hv
  · have split : ∀ (i : Nat) (u : Value), (vs ++ [v])[i]? = some u → (i < vs.length ∧ vs[i]? = some u) ∨ (i = vs.length ∧ u = v) := fun i u hu => by
      rcases Nat.lt_or_ge i vs.length with c | c
      · rw [List.getElem?_append_left c] at hu; exact Or.inl ⟨c, hu⟩
      · rw [List.getElem?_append_right c] at hu
        rcases Nat.eq_zero_or_pos (i - vs.length) with e | e
        · rw [e] at hu; simp at hu; exact Or.inr ⟨by omega, hu.symm⟩
        · rw [List.getElem?_eq_none (by simp; omega)] at hu; cases hu
    rcases split i u hu with ⟨c1, c2⟩ | ⟨c1, rfl⟩
    · rcases split j y hy with ⟨d1, d2⟩ | ⟨d1, rfl⟩
      · exact h.apart i j u y k hij c2 d2 hk1
      · exact hn i u k c2 hk1
    · rcases split j y hy with ⟨d1, d2⟩ | ⟨d1, rfl⟩
      · intro e; exact hn j y k d2 e hk1
      · omega

/-- Both stores, and the Book, in memory of the law's own. -/
structure Tp (w W : World) (b : Nat) (sv : Value) (mb rb : Nat) (rv : Value) (L : List Tm) (bb : Nat) (lv : Value) (vs : List Value) (ls : List (List Tm)) : Prop where
  two : Two w W b sv mb rb rv L L
  hl : Hl w.heap.size W bb lv vs ls
  low : w.heap.size ≤ bb
theorem Tp.new {w W W' : World} {b : Nat} {sv : Value} {mb rb : Nat} {rv : Value} {L : List Tm} {bb : Nat} {lv : Value} {vs : List Value} {ls : List (List Tm)} (h : Tp w W b sv mb rb rv L bb lv vs ls) (hb : Below W.heap.size W W') : Tp w W' b sv mb rb rv L bb lv vs ls :=
  ⟨h.two.new hb, h.hl.bw hb, h.low⟩
theorem Tp.start {w W : World} {b : Nat} {sv : Value} {mb rb : Nat} {rv : Value} {L : List Tm} (h : Two w W b sv mb rb rv L L) : Tp w (W.alloc (.cells (bookCells 0 nilS) 66)) b sv mb rb rv L W.heap.size (.slice none 0 0) [] [] :=
  ⟨h.new (bw_al _ _), (book_zero W).mono h.bel.size, h.bel.size⟩
/-- Behind a list that is kept. -/
theorem Tp.kept {w W0 W W' : World} {b : Nat} {sv : Value} {mb rb : Nat} {rv : Value} {L : List Tm} {bb : Nat} {lv lv' v : Value} {vs : List Value} {ls : List (List Tm)} {l : List Tm} (h0 : Tp w W0 b sv mb rb rv L bb lv vs ls) (hb : Below W0.heap.size W0 W) (hv : TmRow W0.heap.size W v l)
    (hk : Bk w.heap.size W' bb lv' (vs ++ [v])) (hf : Fr (bb :: lv.ownBlock.toList) W W') : Tp w W' b sv mb rb rv L bb lv' (vs ++ [v]) (ls ++ [l]) := by
  have h := h0.new hb
  have hB : w.heap.size ≤ W0.heap.size := h0.two.bel.size
  have out : ∀ x, (∃ cur T, W.heap[x]? = some (.cells cur T (0, 0)) ∧ T ≠ 66 ∧ T ≠ 99) ∨ (∃ es c, W.heap[x]? = some (.map es c)) → x ∉ (bb :: lv.ownBlock.toList) := by
    intro x hx c
    rcases List.mem_cons.1 c with e | e
    · subst e
      rcases hx with ⟨cur, T, h1, h2, _⟩ | ⟨es, cc, h1⟩
      · rw [h.hl.bk.blk] at h1; simp at h1; exact h2 h1.2.symm
      · rw [h.hl.bk.blk] at h1; simp at h1
    · have e2 : lv.ownBlock = some x := by simpa using e
      rcases hx with ⟨cur, T, h1, _, h3⟩ | ⟨es, cc, h1⟩
      · exact h3 (owns_type h.hl.bk.own e2 h1).symm
      · rcases h.hl.bk.own.2 with ⟨q, _⟩ | ⟨g, cap, cur, q, _, hg, _⟩
        · rw [q] at e2; cases e2
        · rw [q] at e2; simp [Value.ownBlock] at e2; subst e2; rw [hg] at h1; simp at h1
  have os : ∀ x ∈ foot b sv mb, x ∉ (bb :: lv.ownBlock.toList) := fun x hx => by
    rcases mem_foot.1 hx with e | e | e
    · exact out x (Or.inl ⟨_, _, by rw [e]; exact h.two.st.blk, by decide, by decide⟩)
    · obtain ⟨es, c, hm⟩ := h.two.st.map.block
      exact out x (Or.inr ⟨es, c, by rw [e]; exact hm⟩)
    · obtain ⟨cur, hc⟩ := h.two.st.row.block e
      exact out x (Or.inl ⟨cur, _, hc, by decide, by decide⟩)
  have or' : ∀ x ∈ rfoot rb rv, x ∉ (bb :: lv.ownBlock.toList) := fun x hx => by
    rcases mem_rfoot.1 hx with e | e
    · exact out x (Or.inl ⟨_, _, by rw [e]; exact h.two.rs.blk, by decide, by decide⟩)
    · obtain ⟨cur, hc⟩ := h.two.rs.row.block e
      exact out x (Or.inl ⟨cur, _, hc, by decide, by decide⟩)
  have hlow : ∀ x ∈ (bb :: lv.ownBlock.toList), w.heap.size ≤ x := by
    intro x hx
    rcases List.mem_cons.1 hx with e | e
    · rw [e]; exact h.low
    · exact (World.ownsRow.lt h.hl.bk.own x (by simpa using e)).1
  refine ⟨⟨h.two.st.keep hf os, h.two.rs.keep hf or', h.two.low, h.two.rlow, h.two.dis, Fr.toBase h.two.bel hf hlow⟩, ?_, h.low⟩
  refine h.hl.add (hv.mono hB) (fun i u k hu hk1 hk2 => ?_) hk hf
  have hlen := h0.hl.len
  have hi : i < vs.length := by
    rcases Nat.lt_or_ge i vs.length with c | c
    · exact c
    · rw [List.getElem?_eq_none c] at hu; cases hu
  have := (h0.hl.row i u _ hu (List.getElem?_eq_getElem (by omega))).lt k hk1
  have := hv.lt k hk2
  omega

end Go.Proofs.YtfpimmbjjcpobaaGreatDoor
