/- The contract of fillTerm: every term of every held list becomes the list's mark. -/
import Derived.Test.YtfpimmbjjcpobaaGreatDoorBkTM
namespace Go.Proofs.YtfpimmbjjcpobaaGreatDoor
open Go.RowKit Go.Maps

theorem rep_set (l : List Tm) (k : Nat) (c : Tm) (h : k < l.length) : (List.replicate k c ++ l.drop k).set k c = List.replicate (k + 1) c ++ l.drop (k + 1) := by
  rw [List.set_append_right _ _ (by simp)]
  simp only [List.length_replicate, Nat.sub_self]
  rw [List.drop_eq_getElem_cons h, List.set_cons_zero, List.replicate_succ', List.append_assoc]
  rfl
theorem setCell_below {B : Nat} {w wq : World} {G k : Nat} {c : Value} (h : Below B w wq) (hG : B ≤ G) : Below B w (wq.setCell ⟨G, k, none⟩ c) :=
  ⟨h.os, h.tape, h.output, by simpa [World.setCell] using h.size, fun j hj => by rw [Below.heap_setCell _ _ _ _ (show j ≠ G by omega)]; exact h.block j hj⟩

theorem heap_keep {w w' : World} (hb : Below w.heap.size w w') {k : Nat} {o : Obj} (h : w.heap[k]? = some o) : w'.heap[k]? = some o := by
  rw [hb.block k (lt_of_blk h)]; exact h
theorem Hl.bw {B : Nat} {w w' : World} {b : Nat} {lv : Value} {vs : List Value} {ls : List (List Tm)} (h : Hl B w b lv vs ls) (hb : Below w.heap.size w w') : Hl B w' b lv vs ls := by
  refine ⟨⟨heap_keep hb h.bk.blk, ?_⟩, h.len, fun i v l hv hl => (h.row i v l hv hl).bw hb, h.apart⟩
  refine ⟨h.bk.own.1, ?_⟩
  rcases h.bk.own.2 with h2 | ⟨g, cap, cur, q, q0, hg, r⟩
  · exact Or.inl h2
  · exact Or.inr ⟨g, cap, cur, q, q0, heap_keep hb hg, r⟩
/-- What stands while a term of a held list is marked. -/
structure Fq (B : Nat) (w W : World) (b : Nat) (lv : Value) (vs : List Value) (lq : List (List Tm)) (g i gv M cp k : Nat) (t : Tm) : Prop where
  hl : Hl B W b lv vs lq
  d1 : W.cell? ⟨g, i * 2, none⟩ = some (.slice (some ⟨gv, 0, none⟩) M cp)
  d2 : W.cell? ⟨g, i * 2 + 1, none⟩ = some (.int .i64 (i : Int))
  ta : TAt W gv (k * 4) t
  fz : ∀ j, W.frozen? ⟨gv, j, none⟩ = false
  hB : B ≤ gv
  ne : g ≠ gv
  bel : Below B w W
theorem Fq.new {B : Nat} {w W W1 : World} {b : Nat} {lv : Value} {vs : List Value} {lq : List (List Tm)} {g i gv M cp k : Nat} {t : Tm} (h : Fq B w W b lv vs lq g i gv M cp k t) (hb : Below W.heap.size W W1) : Fq B w W1 b lv vs lq g i gv M cp k t := by
  have hlt := h.ta.lt
  have hB := h.hB
  refine ⟨h.hl.bw hb, by rw [World.cell?_of_block (w := W) (hb.block _ (lt_of_cell h.d1))]; exact h.d1, by rw [World.cell?_of_block (w := W) (hb.block _ (lt_of_cell h.d2))]; exact h.d2, h.ta.keep (hb.block _ hlt), fun j => ?_, h.hB, h.ne, h.bel.trans (bw_mono hb (by omega))⟩
  have := h.fz j
  unfold World.frozen? at this ⊢
  rw [hb.block gv hlt]; exact this
theorem keep4 (W : World) {g gv : Nat} (hne : g ≠ gv) (o0 o1 o2 o3 : Nat) (x0 x1 x2 x3 : Value) : ((((W.setCell ⟨gv, o0, none⟩ x0).setCell ⟨gv, o1, none⟩ x1).setCell ⟨gv, o2, none⟩ x2).setCell ⟨gv, o3, none⟩ x3).heap[g]? = W.heap[g]? := by
  rw [Below.heap_setCell _ _ _ _ hne, Below.heap_setCell _ _ _ _ hne, Below.heap_setCell _ _ _ _ hne, Below.heap_setCell _ _ _ _ hne]
theorem Fq.stored {B : Nat} {w W : World} {b : Nat} {lv : Value} {vs : List Value} {lq : List (List Tm)} {g i gv M cp k : Nat} {t : Tm} (h : Fq B w W b lv vs lq g i gv M cp k t) (x0 x1 x2 x3 : Value) :
    ((((W.setCell ⟨gv, k * 4, none⟩ x0).setCell ⟨gv, k * 4 + 1, none⟩ x1).setCell ⟨gv, k * 4 + 2, none⟩ x2).setCell ⟨gv, k * 4 + 3, none⟩ x3).cell? ⟨g, i * 2, none⟩ = some (.slice (some ⟨gv, 0, none⟩) M cp) ∧
    ((((W.setCell ⟨gv, k * 4, none⟩ x0).setCell ⟨gv, k * 4 + 1, none⟩ x1).setCell ⟨gv, k * 4 + 2, none⟩ x2).setCell ⟨gv, k * 4 + 3, none⟩ x3).cell? ⟨g, i * 2 + 1, none⟩ = some (.int .i64 (i : Int)) := by
  have e : ((((W.setCell ⟨gv, k * 4, none⟩ x0).setCell ⟨gv, k * 4 + 1, none⟩ x1).setCell ⟨gv, k * 4 + 2, none⟩ x2).setCell ⟨gv, k * 4 + 3, none⟩ x3).heap[g]? = W.heap[g]? := by
    exact keep4 W h.ne _ _ _ _ _ _ _ _
  generalize ((((W.setCell ⟨gv, k * 4, none⟩ x0).setCell ⟨gv, k * 4 + 1, none⟩ x1).setCell ⟨gv, k * 4 + 2, none⟩ x2).setCell ⟨gv, k * 4 + 3, none⟩ x3) = Y at e ⊢
  exact ⟨by rw [World.cell?_of_block (w := W) e]; exact h.d1, by rw [World.cell?_of_block (w := W) e]; exact h.d2⟩
theorem entry2 {B : Nat} {w : World} {b : Nat} {lv : Value} {vs : List Value} {g cap : Nat} (h : Bk B w b lv vs) (hlv : lv = .slice (some ⟨g, 0, none⟩) vs.length cap) (i : Nat) (v : Value) (hv : vs[i]? = some v) :
    w.cell? ⟨g, i * 2, none⟩ = some v ∧ w.cell? ⟨g, i * 2 + 1, none⟩ = some (.int .i64 (i : Int)) := by
  obtain ⟨g', cap', h1, _, h3, h4, _⟩ := h.entry i v hv
  rw [h1] at hlv
  cases hlv
  rw [Nat.mul_comm i 2]
  exact ⟨h3, h4⟩

set_option maxRecDepth 100000 in
set_option maxHeartbeats 4000000 in
theorem fill_any (B b : Nat) (lv : Value) (vs : List Value) (ls : List (List Tm)) (w : World) (h : Hl B w b lv vs ls) (h0 : 0 < vs.length) (h100 : vs.length ≤ 100) (hls : ∀ l ∈ ls, l.length ≤ 1048576) :
    Calls Tryz.prog 27 #[.pointer (some ⟨b, 0, none⟩)] w fun e w' => e = .returned (.tuple #[]) ∧ (∃ ls', Hl B w' b lv vs ls' ∧ ∀ (j : Nat) (l : List Tm), ls[j]? = some l → ls'[j]? = some (List.replicate l.length (mkT j))) ∧ Below B w w' := by
  have c2 := h.bk.cell.2.2.1
  obtain ⟨g, cap, hlv, hgB⟩ : ∃ g cap, lv = .slice (some ⟨g, 0, none⟩) vs.length cap ∧ B ≤ g := by
    obtain ⟨g, cap, h1, h2, _⟩ := h.bk.entry 0 (vs[0]) (List.getElem?_eq_getElem h0)
    exact ⟨g, cap, h1, h2⟩
  subst hlv
  obtain ⟨N, hN⟩ : ∃ N, vs.length = N := ⟨_, rfl⟩
  have hlen := h.len
  rw [hN] at c2 h100 h0 h hlen ⊢
  have HN := hide hN
  have HL := hide (And.intro hlen (And.intro hls h))
  clear hN hlen hls h
  go_enter Tryz.func27, Tryz.ntmps27
  go_wp2_with fail
  go_loopw [10] (fun iv wr => ∃ (i : Nat) (ls' : List (List Tm)), iv = .int .i64 i ∧ i ≤ N ∧ Hid (Hl B wr b (.slice (some ⟨g, 0, none⟩) N cap) vs ls' ∧ ∀ (j : Nat) (l : List Tm), ls[j]? = some l → ls'[j]? = some (if j < i then List.replicate l.length (mkT j) else l)) ∧ Below B w wr) (fun iv _ => (N - intOf iv).toNat)
  case atStart => exact ⟨0, ls, rfl, by omega, ⟨(unhide HL).2.2, fun j l hj => by simpa using hj⟩, Below.refl _ _⟩
  case round =>
    obtain ⟨i, ls', rfl, hi, hst, hbel⟩ := hrel
    by_cases hin : i < N
    · obtain ⟨v, hv⟩ : ∃ v, vs[i]? = some v := ⟨_, List.getElem?_eq_getElem (by have := unhide HN; omega)⟩
      obtain ⟨l, hl⟩ : ∃ l, ls[i]? = some l := ⟨_, List.getElem?_eq_getElem (by have := (unhide HL).1; omega)⟩
      have hl' : ls'[i]? = some l := by have := (unhide hst).2 i l hl; simpa using this
      have hI := (unhide hst).1.row i v l hv hl'
      obtain ⟨p, cp, rfl⟩ : ∃ p cp, v = .slice p l.length cp := by
        rcases hI.form with ⟨e1, e2⟩ | ⟨g', c', e1, _⟩
        · exact ⟨none, 0, by rw [e1, e2]; rfl⟩
        · exact ⟨_, _, e1⟩
      have hll : l.length ≤ 1048576 := (unhide HL).2.1 l (List.mem_of_getElem? hl)
      obtain ⟨d1, d2⟩ := entry2 (unhide hst).1.bk (by rw [unhide HN]) i _ hv
      have e2 := (unhide hst).1.bk.cell.2.2.1
      have K := fun w' => markT_any i w' (by omega)
      have hiN : (i : Int) < (N : Int) := by omega
      obtain ⟨M, hM⟩ : ∃ M, l.length = M := ⟨_, rfl⟩
      rw [hM] at hll hv d1
      have HV := hide (And.intro hv (And.intro hl (And.intro hl' (And.intro hM hI))))
      clear hv hl hl' hM hI
      go_wp2_with fail
      go_loopw [24] (fun kv wq => ∃ (k : Nat) (lq : List (List Tm)), kv = .int .i64 k ∧ k ≤ M ∧ Hid (Hl B wq b (.slice (some ⟨g, 0, none⟩) N cap) vs lq ∧ ∀ (j : Nat) (m : List Tm), ls[j]? = some m → lq[j]? = some (if j < i then List.replicate m.length (mkT j) else if j = i then List.replicate k (mkT i) ++ m.drop k else m)) ∧ Below B w wq) (fun kv _ => (M - intOf kv).toNat)
      case atStart =>
        refine ⟨0, ls', rfl, by omega, ⟨(unhide hst).1, fun j m hj => ?_⟩, hbel⟩
        have := (unhide hst).2 j m hj
        rw [this]
        by_cases q : j < i
        · simp [q]
        · simp [q]
      case round =>
        obtain ⟨k, lq, rfl, hk, hsq, hbq⟩ := hrel
        by_cases hkM : k < M
        · obtain ⟨d1', d2'⟩ := entry2 (unhide hsq).1.bk (by rw [unhide HN]) i _ (unhide HV).1
          have hlM : l.length = M := (unhide HV).2.2.2.1
          have hlk : lq[i]? = some (List.replicate k (mkT i) ++ l.drop k) := by
            have := (unhide hsq).2 i l (unhide HV).2.1
            simpa using this
          have hlen2 : (List.replicate k (mkT i) ++ l.drop k).length = M := by simp; omega
          have hIq := (unhide hsq).1.row i _ _ (unhide HV).1 hlk
          obtain ⟨gv, hgv⟩ : ∃ gv, p = some ⟨gv, 0, none⟩ := by
            rcases hIq.2 with ⟨q, _⟩ | ⟨g', cap', cur, q, _⟩
            · cases q; omega
            · cases q; exact ⟨g', rfl⟩
          subst hgv
          have hvv : vs[i]? = some (.slice (some ⟨gv, 0, none⟩) (List.replicate k (mkT i) ++ l.drop k).length cp) := by rw [hlen2]; exact (unhide HV).1
          have hst4 := fun W (hq : Hl B W b (.slice (some ⟨g, 0, none⟩) N cap) vs lq) => hq.store hvv hlk (k := k) (by omega) (mkT i)
          have hs4 := (hst4 _ (unhide hsq).1).2
          have hkM' : (k : Int) < (M : Int) := by omega
          have hspec : ∀ (j : Nat) (m : List Tm), ls[j]? = some m → (lq.set i ((List.replicate k (mkT i) ++ l.drop k).set k (mkT i)))[j]? = some (if j < i then List.replicate m.length (mkT j) else if j = i then List.replicate (k + 1) (mkT i) ++ m.drop (k + 1) else m) := by
            intro j m hj
            by_cases q2 : j = i
            · subst q2
              rw [(unhide HV).2.1] at hj
              cases hj
              have hlt : j < lq.length := by
                rcases Nat.lt_or_ge j lq.length with q | q
                · exact q
                · rw [List.getElem?_eq_none q] at hlk; cases hlk
              rw [List.getElem?_set_self hlt, rep_set _ _ _ (by omega)]
              simp
            · rw [List.getElem?_set_ne (Ne.symm q2), (unhide hsq).2 j m hj]
              simp [q2]
          have hTat : ∀ W (hq : Hl B W b (.slice (some ⟨g, 0, none⟩) N cap) vs lq), ∃ t, TAt W gv (k * 4) t ∧ (∀ j, W.frozen? ⟨gv, j, none⟩ = false) ∧ g ≠ gv := fun W hq => by
            have hr := hq.row i _ _ hvv hlk
            obtain ⟨_, cur, _, _, hblk, _⟩ := terms_block hr (k := gv) rfl
            exact ⟨_, hr.at rfl (List.getElem?_eq_getElem (by omega)), fun j => by simp [World.frozen?, hblk], fun c => by
              obtain ⟨g', cap', e1, _, _, _, _, cur', hcur'⟩ := hq.bk.entry i _ hvv
              cases e1
              rw [c, hblk] at hcur'
              simp at hcur'⟩
          have HS := hide (And.intro hst4 (And.intro hspec hs4))
          obtain ⟨t, hta, hfz, hne⟩ := hTat _ (unhide hsq).1
          have Q0 : Fq B w wr.drew b (.slice (some ⟨g, 0, none⟩) N cap) vs lq g i gv M cp k t := ⟨(unhide hsq).1.drew, d1', d2', hta, hfz, hs4, hne, hbq.drew⟩
          have HK := hide K
          have S0 := And.intro Q0.d1 Q0.d2
          clear hst4 hspec hvv hIq hlen2 hlk hlM hs4 hTat hta hfz hne K
          go_wp2_with fail
          go_region_held3 (fun w' : World => w'.cell? ⟨g, i * 2, none⟩ = some (.slice (some ⟨gv, 0, none⟩) M cp) ∧ w'.cell? ⟨g, i * 2 + 1, none⟩ = some (.int .i64 (i : Int))) (first | exact S0 | exact S1 | exact Q1.stored _ _ _ _) (first
            | (go_at_call 131; refine (unhide HK _).mono ?_; rintro e z1 ⟨rfl, b1⟩; have Q1 := Q0.new b1; have S1 := And.intro Q1.d1 Q1.d2; obtain ⟨ta0, ta1, ta2, ta3⟩ := Q1.ta; have fz := Q1.fz))
          all_goals
            go_wp2_with fail
            go_roundw
            case rel => exact ⟨k + 1, _, by go_num, by omega, ⟨((unhide HS).1 _ Q1.hl).1, (unhide HS).2.1⟩, setCell_below (setCell_below (setCell_below (setCell_below Q1.bel (unhide HS).2.2) (unhide HS).2.2) (unhide HS).2.2) (unhide HS).2.2⟩
            case measure => simp only [intOf]; omega
        · have hke : k = M := by omega
          subst hke
          go_wp2_with fail
          go_roundw
          case rel =>
            refine ⟨i + 1, lq, by go_num, by omega, ⟨(unhide hsq).1, fun j m hj => ?_⟩, hbq⟩
            have := (unhide hsq).2 j m hj
            rw [this]
            by_cases q : j < i
            · rw [if_pos q, if_pos (by omega)]
            · by_cases q2 : j = i
              · subst q2
                rw [(unhide HV).2.1] at hj
                cases hj
                rw [if_neg q, if_pos rfl, if_pos (by omega), List.drop_eq_nil_of_le (by have := (unhide HV).2.2.2.1; omega), List.append_nil, (unhide HV).2.2.2.1]
              · rw [if_neg q, if_neg q2, if_neg (by omega)]
          case measure => simp only [intOf]; omega
    · have hie : i = N := by omega
      subst hie
      go_wp2_with fail
      go_end0
      refine ⟨rfl, ⟨ls', (unhide hst).1, fun j l hj => ?_⟩, hbel⟩
      have := (unhide hst).2 j l hj
      rw [if_pos] at this
      · exact this
      · have h1 := (unhide HL).1
        have h2 := unhide HN
        rcases Nat.lt_or_ge j ls.length with q | q
        · omega
        · rw [List.getElem?_eq_none q] at hj; cases hj

end Go.Proofs.YtfpimmbjjcpobaaGreatDoor
