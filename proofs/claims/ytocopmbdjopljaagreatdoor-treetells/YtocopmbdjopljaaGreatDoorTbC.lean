/- The contract of fillNumber: every number of every held list becomes the list's mark. -/
import Derived.Test.YtocopmbdjopljaaGreatDoorTbB
import Derived.Test.YtocopmbdjopljaaGreatDoorBaQ
namespace Go.Proofs.YtocopmbdjopljaaGreatDoor
open Go.RowKit

def mk (i : Nat) : Int := -1000 - (i : Int)

theorem mark_any (i : Nat) (w : World) (hi : i ≤ 100) : Calls Tryz.prog 178 #[.int .i64 (i : Int)] w fun e w' => e = .returned (.int .i64 (mk i)) ∧ w' = w := by
  have hw : wrap64 (-1000 - (i : Int)) = -1000 - (i : Int) := by unfold wrap64; omega
  unfold mk
  go_enter Tryz.func178, Tryz.ntmps178
  go_wp2
  go_ret
  exact ⟨rfl, rfl⟩

theorem rep_set (l : List Int) (k : Nat) (c : Int) (h : k < l.length) : (List.replicate k c ++ l.drop k).set k c = List.replicate (k + 1) c ++ l.drop (k + 1) := by
  rw [List.set_append_right _ _ (by simp)]
  simp only [List.length_replicate, Nat.sub_self]
  rw [List.drop_eq_getElem_cons h, List.set_cons_zero, List.replicate_succ', List.append_assoc]
  rfl
theorem setCell_below {B : Nat} {w wq : World} {G k : Nat} {c : Value} (h : Below B w wq) (hG : B ≤ G) : Below B w (wq.setCell ⟨G, k, none⟩ c) :=
  ⟨h.os, h.tape, h.output, by simpa [World.setCell] using h.size, fun j hj => by rw [Below.heap_setCell _ _ _ _ (show j ≠ G by omega)]; exact h.block j hj⟩

theorem entry2 {B : Nat} {w : World} {b : Nat} {lv : Value} {vs : List Value} {g cap : Nat} (h : Bk B w b lv vs) (hlv : lv = .slice (some ⟨g, 0, none⟩) vs.length cap) (i : Nat) (v : Value) (hv : vs[i]? = some v) :
    w.cell? ⟨g, i * 2, none⟩ = some v ∧ w.cell? ⟨g, i * 2 + 1, none⟩ = some (.int .i64 (i : Int)) := by
  obtain ⟨g', cap', h1, _, h3, h4, _⟩ := h.entry i v hv
  rw [h1] at hlv
  cases hlv
  rw [Nat.mul_comm i 2]
  exact ⟨h3, h4⟩

set_option maxRecDepth 100000 in
set_option maxHeartbeats 4000000 in
theorem fill_any (B b : Nat) (lv : Value) (vs : List Value) (ls : List (List Int)) (w : World) (h : Hl B w b lv vs ls) (h0 : 0 < vs.length) (h100 : vs.length ≤ 100) (hls : ∀ l ∈ ls, l.length ≤ 1000) :
    Calls Tryz.prog 55 #[.pointer (some ⟨b, 0, none⟩)] w fun e w' => e = .returned (.tuple #[]) ∧ (∃ ls', Hl B w' b lv vs ls' ∧ ∀ (j : Nat) (l : List Int), ls[j]? = some l → ls'[j]? = some (List.replicate l.length (mk j))) ∧ Below B w w' := by
  have c2 := h.bk.cell.2.2.1
  obtain ⟨g, cap, hlv, hgB⟩ : ∃ g cap, lv = .slice (some ⟨g, 0, none⟩) vs.length cap ∧ B ≤ g := by
    obtain ⟨g, cap, h1, h2, _⟩ := h.bk.entry 0 (vs[0]) (List.getElem?_eq_getElem h0)
    exact ⟨g, cap, h1, h2⟩
  subst hlv
  obtain ⟨N, hN⟩ : ∃ N, vs.length = N := ⟨_, rfl⟩
  have hlen := h.len
  rw [hN] at c2 h100 h0 h hlen ⊢
  have HN := hide hN
  have HL := hide (And.intro hlen (And.intro hls h))
  clear hN hlen hls h
  go_enter Tryz.func55, Tryz.ntmps55
  go_wp2_with fail
  go_loopw [10] (fun iv wr => ∃ (i : Nat) (ls' : List (List Int)), iv = .int .i64 i ∧ i ≤ N ∧ Hid (Hl B wr b (.slice (some ⟨g, 0, none⟩) N cap) vs ls' ∧ ∀ (j : Nat) (l : List Int), ls[j]? = some l → ls'[j]? = some (if j < i then List.replicate l.length (mk j) else l)) ∧ Below B w wr) (fun iv _ => (N - intOf iv).toNat)
  case atStart => exact ⟨0, ls, rfl, by omega, ⟨(unhide HL).2.2, fun j l hj => by simpa using hj⟩, Below.refl _ _⟩
  case round =>
    obtain ⟨i, ls', rfl, hi, hst, hbel⟩ := hrel
    by_cases hin : i < N
    · obtain ⟨v, hv⟩ : ∃ v, vs[i]? = some v := ⟨_, List.getElem?_eq_getElem (by have := unhide HN; omega)⟩
      obtain ⟨l, hl⟩ : ∃ l, ls[i]? = some l := ⟨_, List.getElem?_eq_getElem (by have := (unhide HL).1; omega)⟩
      have hl' : ls'[i]? = some l := by have := (unhide hst).2 i l hl; simpa using this
      have hI := (unhide hst).1.row i v l hv hl'
      obtain ⟨⟨p, cp, rfl⟩, hmax⟩ := hI.nums.form
      have hll : l.length ≤ 1000 := (unhide HL).2.1 l (List.mem_of_getElem? hl)
      obtain ⟨d1, d2⟩ := entry2 (unhide hst).1.bk (by rw [unhide HN]) i _ hv
      have e2 := (unhide hst).1.bk.cell.2.2.1
      have K := fun w' => mark_any i w' (by omega)
      have hiN : (i : Int) < (N : Int) := by omega
      obtain ⟨M, hM⟩ : ∃ M, l.length = M := ⟨_, rfl⟩
      rw [hM] at hll hv d1
      have HV := hide (And.intro hv (And.intro hl (And.intro hl' (And.intro hM hI))))
      clear hv hl hl' hM hI hmax
      go_wp2_with fail
      go_loopw [24] (fun kv wq => ∃ (k : Nat) (lq : List (List Int)), kv = .int .i64 k ∧ k ≤ M ∧ Hid (Hl B wq b (.slice (some ⟨g, 0, none⟩) N cap) vs lq ∧ ∀ (j : Nat) (m : List Int), ls[j]? = some m → lq[j]? = some (if j < i then List.replicate m.length (mk j) else if j = i then List.replicate k (mk i) ++ m.drop k else m)) ∧ Below B w wq) (fun kv _ => (M - intOf kv).toNat)
      case atStart =>
        refine ⟨0, ls', rfl, by omega, ⟨(unhide hst).1, fun j m hj => ?_⟩, hbel⟩
        have := (unhide hst).2 j m hj
        rw [this]
        by_cases q : j < i
        · simp [q]
        · simp [q]
      case round =>
        obtain ⟨k, lq, rfl, hk, hsq, hbq⟩ := hrel
        by_cases hkM : k < M
        · obtain ⟨d1', d2'⟩ := entry2 (unhide hsq).1.bk (by rw [unhide HN]) i _ (unhide HV).1
          have hlM : l.length = M := (unhide HV).2.2.2.1
          have hlk : lq[i]? = some (List.replicate k (mk i) ++ l.drop k) := by
            have := (unhide hsq).2 i l (unhide HV).2.1
            simpa using this
          have hlen2 : (List.replicate k (mk i) ++ l.drop k).length = M := by simp; omega
          have hIq := (unhide hsq).1.row i _ _ (unhide HV).1 hlk
          obtain ⟨gv, hgv⟩ : ∃ gv, p = some ⟨gv, 0, none⟩ := by
            rcases hIq.2 with ⟨q, _⟩ | ⟨g', cap', cur, q, _⟩
            · cases q; omega
            · cases q; exact ⟨g', rfl⟩
          subst hgv
          have hvv : vs[i]? = some (.slice (some ⟨gv, 0, none⟩) (List.replicate k (mk i) ++ l.drop k).length cp) := by rw [hlen2]; exact (unhide HV).1
          obtain ⟨hs1, hs2, hs3, hs4⟩ := (unhide hsq).1.store hvv hlk (k := k) (by omega) (mk i)
          obtain ⟨x, hx⟩ := Option.isSome_iff_exists.1 hs2
          have hkM' : (k : Int) < (M : Int) := by omega
          have hspec : ∀ (j : Nat) (m : List Int), ls[j]? = some m → (lq.set i ((List.replicate k (mk i) ++ l.drop k).set k (mk i)))[j]? = some (if j < i then List.replicate m.length (mk j) else if j = i then List.replicate (k + 1) (mk i) ++ m.drop (k + 1) else m) := by
            intro j m hj
            by_cases q2 : j = i
            · subst q2
              rw [(unhide HV).2.1] at hj
              cases hj
              have hlt : j < lq.length := by
                rcases Nat.lt_or_ge j lq.length with q | q
                · exact q
                · rw [List.getElem?_eq_none q] at hlk; cases hlk
              rw [List.getElem?_set_self hlt, rep_set _ _ _ (by omega)]
              simp
            · rw [List.getElem?_set_ne (Ne.symm q2), (unhide hsq).2 j m hj]
              simp [q2]
          have HS := hide (And.intro hs1.drew (And.intro hspec hs4))
          have e2q := (unhide hsq).1.bk.cell.2.2.1
          clear hs1 hs2 hspec hvv hIq hlen2 hlk hlM hs4
          generalize mk i = mi at *
          go_wp2_with fail
          go_region_with (first | (go_at_call 178; refine (K _).mono ?_; rintro e w5 ⟨rfl, rfl⟩))
          all_goals
            go_wp2_with fail
            go_roundw
            case rel => exact ⟨k + 1, _, by go_num, by omega, ⟨(unhide HS).1, (unhide HS).2.1⟩, (setCell_below hbq (unhide HS).2.2).drew⟩
            case measure => simp only [intOf]; omega
        · have hke : k = M := by omega
          subst hke
          go_wp2_with fail
          go_roundw
          case rel =>
            refine ⟨i + 1, lq, by go_num, by omega, ⟨(unhide hsq).1, fun j m hj => ?_⟩, hbq⟩
            have := (unhide hsq).2 j m hj
            rw [this]
            by_cases q : j < i
            · rw [if_pos q, if_pos (by omega)]
            · by_cases q2 : j = i
              · subst q2
                rw [(unhide HV).2.1] at hj
                cases hj
                rw [if_neg q, if_pos rfl, if_pos (by omega), List.drop_eq_nil_of_le (by have := (unhide HV).2.2.2.1; omega), List.append_nil, (unhide HV).2.2.2.1]
              · rw [if_neg q, if_neg q2, if_neg (by omega)]
          case measure => simp only [intOf]; omega
    · have hie : i = N := by omega
      subst hie
      go_wp2_with fail
      go_end0
      refine ⟨rfl, ⟨ls', (unhide hst).1, fun j l hj => ?_⟩, hbel⟩
      have := (unhide hst).2 j l hj
      rw [if_pos] at this
      · exact this
      · have h1 := (unhide HL).1
        have h2 := unhide HN
        rcases Nat.lt_or_ge j ls.length with q | q
        · omega
        · rw [List.getElem?_eq_none q] at hj; cases hj

end Go.Proofs.YtocopmbdjopljaaGreatDoor
