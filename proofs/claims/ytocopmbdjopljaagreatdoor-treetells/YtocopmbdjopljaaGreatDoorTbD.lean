/- The contract of growNumber: each held list grows by three marks of its own. -/
import Derived.Test.YtocopmbdjopljaaGreatDoorTbC
namespace Go.Proofs.YtocopmbdjopljaaGreatDoor
open Go.RowKit

theorem owns_fr {w w0 : World} {B size n : Nat} {e : TypeId} {v : Value} {xs : List Value} (h : w.ownsRow B e size v n xs) (hf : Fr [] w w0) : w0.ownsRow B e size v n xs := by
  refine ⟨h.1, ?_⟩
  rcases h.2 with h2 | ⟨g, cap, cur, rfl, q0, hg, r⟩
  · exact Or.inl h2
  · refine Or.inr ⟨g, cap, cur, rfl, q0, ?_, r⟩
    rw [hf.block g _ (by simp)]
    · exact hg
    · rcases Nat.lt_or_ge g w.heap.size with h1 | h1
      · exact h1
      · rw [Array.getElem?_eq_none h1] at hg; cases hg
theorem owns_set {w : World} {B size n : Nat} {e : TypeId} {v : Value} {xs : List Value} {g k : Nat} {c : Value} (h : w.ownsRow B e size v n xs) (hg : v.ownBlock ≠ some g) : (w.setCell ⟨g, k, none⟩ c).ownsRow B e size v n xs := by
  refine ⟨h.1, ?_⟩
  rcases h.2 with h2 | ⟨g', cap, cur, rfl, q0, hg', r⟩
  · exact Or.inl h2
  · refine Or.inr ⟨g', cap, cur, rfl, q0, ?_, r⟩
    have : g' ≠ g := by rintro rfl; exact hg rfl
    rw [Below.heap_setCell _ _ _ _ this]; exact hg'
theorem owns_type {w : World} {B size n : Nat} {e e' : TypeId} {v : Value} {xs : List Value} {k : Nat} {cur : Array Value} (h : w.ownsRow B e size v n xs) (hk : v.ownBlock = some k) (hc : w.heap[k]? = some (.cells cur e' (0, 0))) : e = e' := by
  rcases h.2 with ⟨rfl, _⟩ | ⟨g', cap, cur', rfl, q0, hg', r⟩
  · cases hk
  · simp [Value.ownBlock] at hk; subst hk; rw [hc] at hg'; simp at hg'; exact hg'.2.symm
theorem hel_set (vs : List Value) (n i : Nat) (v : Value) (hi : i < vs.length) : hel n (vs.set i v) = (hel n vs).set (i * 2) v := by
  induction vs generalizing n i with
  | nil => simp at hi
  | cons u vs ih =>
    cases i with
    | zero => simp [hel]
    | succ i =>
      have e : (i + 1) * 2 = i * 2 + 1 + 1 := by omega
      rw [e]
      simp only [List.set_cons_succ, hel]
      rw [ih (n + 1) i (by simpa using hi)]
/-- The store of a list that has grown. -/
theorem Hl.grown {B : Nat} {w w0 w1 : World} {b : Nat} {g cap : Nat} {vs : List Value} {ls : List (List Int)} {i : Nat} {v v' : Value} {l : List Int} {c : Int} (h : Hl B w b (.slice (some ⟨g, 0, none⟩) vs.length cap) vs ls) (hv : vs[i]? = some v) (hl : ls[i]? = some l)
    (h0 : Fr [] w w0) (hown : w1.ownsRow B 3 1 v' (l.length + 1) (l.map I64 ++ [.int .i64 c])) (hg : w0.grownBy w1 v.ownBlock) (hat : v'.ownBlock = v.ownBlock ∨ v'.ownBlock = some w0.heap.size) (hB : B ≤ w.heap.size) :
    Hl B (w1.setCell ⟨g, i * 2, none⟩ v') b (.slice (some ⟨g, 0, none⟩) vs.length cap) (vs.set i v') (ls.set i (l ++ [c])) ∧ Below B w (w1.setCell ⟨g, i * 2, none⟩ v') ∧ w1.cell? ⟨g, i * 2, none⟩ = some v ∧ w1.frozen? ⟨g, i * 2, none⟩ = false := by
  have hlvo := h.bk.own
  have hgt : ∃ cur, w.heap[g]? = some (.cells cur 128 (0, 0)) := by
    rcases hlvo.2 with ⟨q, _⟩ | ⟨g', cap', cur, q, _, hg', _⟩
    · cases q
    · cases q; exact ⟨cur, hg'⟩
  obtain ⟨gcur, hgt⟩ := hgt
  have hI := h.row i v l hv hl
  have hi : i < vs.length := by
    rcases Nat.lt_or_ge i vs.length with h1 | h1
    · exact h1
    · rw [List.getElem?_eq_none h1] at hv; cases hv
  have hli : i < ls.length := by have := h.len; omega
  have hlt : ∀ {k : Nat} {o : Obj}, w.heap[k]? = some o → k < w.heap.size := fun {k o} hk => by
    rcases Nat.lt_or_ge k w.heap.size with h1 | h1
    · exact h1
    · rw [Array.getElem?_eq_none h1] at hk; cases hk
  have hgw := hlt hgt
  have hbw := hlt h.bk.blk
  have hs0 := h0.size
  have hvb : v.ownBlock ≠ some b := fun e => by have := owns_type hI e h.bk.blk; exact absurd this (by decide)
  have hvg : v.ownBlock ≠ some g := fun e => by have := owns_type hI e hgt; exact absurd this (by decide)
  have hv'g : v'.ownBlock ≠ some g := by
    rcases hat with q | q
    · rw [q]; exact hvg
    · rw [q]; intro e; simp at e; omega
  have hb1 : w1.heap[b]? = some (.cells (bookCells vs.length (.slice (some ⟨g, 0, none⟩) vs.length cap)) 70 (0, 0)) := by
    rw [hg.block b (by omega) (fun q => hvb q.symm), h0.block b hbw (by simp)]; exact h.bk.blk
  have hgb : b ≠ g := by rintro rfl; rw [h.bk.blk] at hgt; simp at hgt
  have hlv1 : w1.ownsRow B 128 2 (.slice (some ⟨g, 0, none⟩) vs.length cap) vs.length (hel 0 vs) := (owns_fr hlvo h0).kept hg (Or.inr (fun q => hvg q.symm))
  have hge : B ≤ g := (World.ownsRow.lt hlvo g rfl).1
  refine ⟨⟨⟨?_, ?_⟩, ?_, ?_, ?_⟩, ?_, ?_, ?_⟩
  · rw [List.length_set, Below.heap_setCell _ _ _ _ hgb]; exact hb1
  · rw [List.length_set, hel_set vs 0 i v' hi]
    exact (World.ownsRow.stored hlv1 (i * 2) v').1
  · simp only [List.length_set]; exact h.len
  · intro j u m hu hm
    by_cases q : j = i
    · subst q
      rw [List.getElem?_set_self hi] at hu
      rw [List.getElem?_set_self hli] at hm
      cases hu; cases hm
      have : w1.ownsRow B 3 1 v' (l ++ [c]).length ((l ++ [c]).map I64) := by simpa [I64] using hown
      exact owns_set this hv'g
    · rw [List.getElem?_set_ne (Ne.symm q)] at hu hm
      have hu2 := h.row j u m hu hm
      have hug : u.ownBlock ≠ some g := fun e => by have := owns_type hu2 e hgt; exact absurd this (by decide)
      refine owns_set ((owns_fr hu2 h0).kept hg ?_) hug
      cases hub : u.ownBlock with
      | none => exact Or.inl rfl
      | some k => exact Or.inr (fun e => h.apart j i u v k q hu hv hub (by rw [← e]))
  · intro j m u y k hjm hu hy huk hyk
    by_cases q : j = i
    · subst q
      rw [List.getElem?_set_self hi] at hu
      cases hu
      rw [List.getElem?_set_ne hjm] at hy
      rcases hat with q2 | q2
      · rw [q2] at huk; exact h.apart j m v y k hjm hv hy huk hyk
      · rw [q2] at huk; simp at huk
        have hm2 : m < ls.length := by
          rcases Nat.lt_or_ge m vs.length with h1 | h1
          · have := h.len; omega
          · rw [List.getElem?_eq_none h1] at hy; cases hy
        have := (World.ownsRow.lt (h.row m y _ hy (List.getElem?_eq_getElem hm2)) k hyk).2
        omega
    · rw [List.getElem?_set_ne (Ne.symm q)] at hu
      by_cases q3 : m = i
      · subst q3
        rw [List.getElem?_set_self hi] at hy
        cases hy
        rcases hat with q2 | q2
        · rw [q2] at hyk; exact h.apart j m u v k hjm hu hv huk hyk
        · rw [q2] at hyk; simp at hyk
          have hj2 : j < ls.length := by
            rcases Nat.lt_or_ge j vs.length with h1 | h1
            · have := h.len; omega
            · rw [List.getElem?_eq_none h1] at hu; cases hu
          have := (World.ownsRow.lt (h.row j u _ hu (List.getElem?_eq_getElem hj2)) k huk).2
          omega
      · rw [List.getElem?_set_ne (Ne.symm q3)] at hy
        exact h.apart j m u y k hjm hu hy huk hyk
  · refine setCell_below ?_ hge
    have hbel : Below B w w0 := bw_mono h0.toBelow hB
    exact hbel.grown hg (by omega) (fun k hk => (World.ownsRow.lt hI k hk).1)
  · obtain ⟨e1, _⟩ := entry2 (w := w1) (b := b) ⟨hb1, hlv1⟩ rfl i v hv
    exact e1
  · have : ∃ cur, w1.heap[g]? = some (.cells cur 128 (0, 0)) := by
      rcases hlv1.2 with ⟨q, _⟩ | ⟨g', cap', cur, q, _, hg', _⟩
      · cases q
      · cases q; exact ⟨cur, hg'⟩
    obtain ⟨cur, q⟩ := this
    simp [World.frozen?, q]

theorem row_form {B : Nat} {w : World} {e : TypeId} {v : Value} {n : Nat} {xs : List Value} (h : w.ownsRow B e 1 v (n + 1) xs) : ∃ g cap, v = .slice (some ⟨g, 0, none⟩) (n + 1) cap := by
  rcases h.2 with ⟨_, h⟩ | ⟨g, cap, _, h, _⟩
  · omega
  · exact ⟨g, cap, h⟩

theorem grown_len {B : Nat} {w : World} {b g cap N : Nat} {vq vs : List Value} {ls : List (List Int)} (hN : vq.length = N) (h : Hl B w b (.slice (some ⟨g, 0, none⟩) vq.length cap) vs ls) : Hl B w b (.slice (some ⟨g, 0, none⟩) N cap) vs ls := by rw [← hN]; exact h

set_option maxRecDepth 100000 in
set_option maxHeartbeats 4000000 in
theorem grow_any (B b : Nat) (lv : Value) (vs : List Value) (ls : List (List Int)) (w : World) (h : Hl B w b lv vs ls) (h0 : 0 < vs.length) (h100 : vs.length ≤ 100) (hls : ∀ l ∈ ls, l.length ≤ 1000) (hB : B ≤ w.heap.size) :
    Calls Tryz.prog 88 #[.pointer (some ⟨b, 0, none⟩)] w fun e w' => e = .returned (.tuple #[]) ∧ (∃ vs' ls', vs'.length = vs.length ∧ Hl B w' b lv vs' ls' ∧ ∀ (j : Nat) (l : List Int), ls[j]? = some l → ls'[j]? = some (l ++ List.replicate 3 (mk j))) ∧ Below B w w' := by
  obtain ⟨i0, hi0, hz0, hz1, hz2⟩ := info_parts Tryz.infoInt
  have c2 := h.bk.cell.2.2.1
  obtain ⟨g, cap, hlv, hgB⟩ : ∃ g cap, lv = .slice (some ⟨g, 0, none⟩) vs.length cap ∧ B ≤ g := by
    obtain ⟨g, cap, h1, h2, _⟩ := h.bk.entry 0 (vs[0]) (List.getElem?_eq_getElem h0)
    exact ⟨g, cap, h1, h2⟩
  subst hlv
  obtain ⟨N, hN⟩ : ∃ N, vs.length = N := ⟨_, rfl⟩
  have hlen := h.len
  rw [hN] at c2 h100 h0 h hlen ⊢
  have HN := hide hN
  have HL := hide (And.intro hlen (And.intro hls h))
  clear hN hlen hls h
  go_enter Tryz.func88, Tryz.ntmps88
  go_wp2_with fail
  go_loopw [10] (fun iv wr => ∃ (i : Nat) (vs' : List Value) (ls' : List (List Int)), iv = .int .i64 i ∧ i ≤ N ∧ Hid (vs'.length = N ∧ Hl B wr b (.slice (some ⟨g, 0, none⟩) N cap) vs' ls' ∧ ∀ (j : Nat) (l : List Int), ls[j]? = some l → ls'[j]? = some (if j < i then l ++ List.replicate 3 (mk j) else l)) ∧ Below B w wr) (fun iv _ => (N - intOf iv).toNat)
  case atStart => exact ⟨0, vs, ls, rfl, by omega, ⟨unhide HN, (unhide HL).2.2, fun j l hj => by simpa using hj⟩, Below.refl _ _⟩
  case round =>
    obtain ⟨i, vs', ls', rfl, hi, hst, hbel⟩ := hrel
    by_cases hin : i < N
    · have e2 := (unhide hst).2.1.bk.cell.2.2.1
      have hiN : (i : Int) < (N : Int) := by omega
      go_wp2_with fail
      go_loopw [4] (fun kv wq => ∃ (k : Nat) (vq : List Value) (lq : List (List Int)), kv = .int .i64 k ∧ k ≤ 3 ∧ Hid (vq.length = N ∧ Hl B wq b (.slice (some ⟨g, 0, none⟩) N cap) vq lq ∧ ∀ (j : Nat) (m : List Int), ls[j]? = some m → lq[j]? = some (if j < i then m ++ List.replicate 3 (mk j) else if j = i then m ++ List.replicate k (mk i) else m)) ∧ Below B w wq) (fun kv _ => (3 - intOf kv).toNat)
      case atStart =>
        refine ⟨0, vs', ls', rfl, by omega, ⟨(unhide hst).1, (unhide hst).2.1, fun j m hj => ?_⟩, hbel⟩
        rw [(unhide hst).2.2 j m hj]
        by_cases q : j < i
        · simp [q]
        · simp [q]
      case round =>
        obtain ⟨k, vq, lq, rfl, hk, hsq, hbq⟩ := hrel
        by_cases hk3 : k < 3
        · obtain ⟨v, hv⟩ : ∃ v, vq[i]? = some v := ⟨_, List.getElem?_eq_getElem (by have := (unhide hsq).1; omega)⟩
          obtain ⟨l, hl⟩ : ∃ l, ls[i]? = some l := ⟨_, List.getElem?_eq_getElem (by have := (unhide HL).1; omega)⟩
          have hlq : lq[i]? = some (l ++ List.replicate k (mk i)) := by have := (unhide hsq).2.2 i l hl; simpa using this
          have hll : l.length ≤ 1000 := (unhide HL).2.1 l (List.mem_of_getElem? hl)
          have hHq := (unhide hsq).2.1
          rw [← (unhide hsq).1] at hHq
          have hI := hHq.row i v _ hv hlq
          obtain ⟨d1, d2⟩ := entry2 hHq.bk rfl i v hv
          have hgw : g < wr.heap.size := (World.ownsRow.lt hHq.bk.own g rfl).2
          have K := fun w' => mark_any i w' (by omega)
          have hspec : ∀ (j : Nat) (m : List Int), ls[j]? = some m → (lq.set i (l ++ List.replicate k (mk i) ++ [mk i]))[j]? = some (if j < i then m ++ List.replicate 3 (mk j) else if j = i then m ++ List.replicate (k + 1) (mk i) else m) := by
            intro j m hj
            by_cases q2 : j = i
            · subst q2
              rw [hl] at hj
              cases hj
              have hlt : j < lq.length := by
                rcases Nat.lt_or_ge j lq.length with q | q
                · exact q
                · rw [List.getElem?_eq_none q] at hlq; cases hlq
              rw [List.getElem?_set_self hlt, if_neg (by omega), if_pos rfl, List.replicate_succ', List.append_assoc]
            · rw [List.getElem?_set_ne (Ne.symm q2), (unhide hsq).2.2 j m hj]
              simp [q2]
          generalize hmi : mk i = mi at *
          have d1a : (wr.alloc (.cells #[.int .i64 mi] 3)).cell? ⟨g, i * 2, none⟩ = some v := by
            rw [World.cell?_of_block (w := wr) (Below.heap_alloc _ _ _ hgw)]; exact d1
          have h00 : Fr [] wr (wr.drew.alloc (.cells #[.int .i64 mi] 3)) := ((Fr.refl [] wr).drew).alloc _
          obtain ⟨lk, hlk⟩ : ∃ lk, l ++ List.replicate k mi = lk := ⟨_, rfl⟩
          rw [hlk] at hlq hI hspec
          have hlkl : lk.length ≤ 1003 := by rw [← hlk]; simp; omega
          have hmx : lk.length + 1 ≤ maxLen := by unfold maxLen; omega
          have hby : (lk.length + 1) * 8 ≤ 140737488355328 := by omega
          have hone : ∀ u ∈ [Value.int .i64 mi], u.oneCell' = true := by
            intro u hu
            rcases List.mem_cons.1 hu with rfl | hu
            · rfl
            · cases hu
          have hBw : B ≤ wr.heap.size := Nat.le_trans hB hbq.size
          have hBw2 : B ≤ (wr.drew.alloc (.cells #[.int .i64 mi] 3)).heap.size := Nat.le_trans hBw h00.size
          have HA := hide (And.intro hmx (And.intro hby (And.intro hone (And.intro hI (And.intro hHq (And.intro hv (And.intro hlq (And.intro h00 (And.intro hBw hspec)))))))))
          clear hmx hby hone hI hHq hv hlq h00 hspec hl hlk hll hmi hlkl
          go_wp2_with fail
          go_region_law (first | (refine step_append_own rfl (.tmp 27) (.tmp 33) 31 rfl B 3 i0 (.int .i64 0) 1 8 Tryz.underlying31 hi0 hz0 hz1 hz2 rfl (by decide) v lk.length (lk.map I64) (by simp [Act.eval]) ((unhide HA).2.2.2.1.drew.alloc _) ⟨wr.heap.size, 0, none⟩ 1 1 [.int .i64 mi] (by simp [Act.eval]) rfl (cell_one_new wr.drew _ _) (unhide HA).2.2.1 (unhide HA).1 (unhide HA).2.1 hBw2 ?_; intro v' w1 hown' hgrow hat; obtain ⟨k1, k2, k3, k4⟩ := (unhide HA).2.2.2.2.1.grown (unhide HA).2.2.2.2.2.1 (unhide HA).2.2.2.2.2.2.1 (unhide HA).2.2.2.2.2.2.2.1 hown' hgrow hat (unhide HA).2.2.2.2.2.2.2.2.1; obtain ⟨gv, cp, rfl⟩ := row_form hown') | (go_simp; go_wp2_with (first | (go_at_call 178; refine (K _).mono ?_; rintro e w5 ⟨rfl, rfl⟩))))
          all_goals
            go_wp2_with fail
            go_roundw
            case rel => refine ⟨k + 1, _, _, by go_num, by omega, ⟨?_, grown_len (unhide hsq).1 k1, (unhide HA).2.2.2.2.2.2.2.2.2⟩, hbq.trans k2⟩; rw [List.length_set]; exact (unhide hsq).1
            case measure => simp only [intOf]; omega
        · have hke : k = 3 := by omega
          subst hke
          go_wp2_with fail
          go_roundw
          case rel =>
            refine ⟨i + 1, vq, lq, by go_num, by omega, ⟨(unhide hsq).1, (unhide hsq).2.1, fun j m hj => ?_⟩, hbq⟩
            rw [(unhide hsq).2.2 j m hj]
            by_cases q : j < i
            · rw [if_pos q, if_pos (by omega)]
            · by_cases q2 : j = i
              · subst q2; rw [if_neg q, if_pos rfl, if_pos (by omega)]
              · rw [if_neg q, if_neg q2, if_neg (by omega)]
          case measure => simp only [intOf]; omega
    · have hie : i = N := by omega
      subst hie
      go_wp2_with fail
      go_end0
      refine ⟨rfl, ⟨vs', ls', by rw [(unhide hst).1], (unhide hst).2.1, fun j l hj => ?_⟩, hbel⟩
      have := (unhide hst).2.2 j l hj
      rw [if_pos] at this
      · exact this
      · have h1 := (unhide HL).1
        rcases Nat.lt_or_ge j ls.length with q | q
        · omega
        · rw [List.getElem?_eq_none q] at hj; cases hj

end Go.Proofs.YtocopmbdjopljaaGreatDoor
