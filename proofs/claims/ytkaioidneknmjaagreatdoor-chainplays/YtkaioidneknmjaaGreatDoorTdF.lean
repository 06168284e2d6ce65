/- The contract of Apart: of a Book whose held lists are rows of their own it answers true. -/
import Derived.Test.YtkaioidneknmjaaGreatDoorZ16
namespace Go.Proofs.YtkaioidneknmjaaGreatDoor.Tn.Td
open Go.RowKit

set_option maxRecDepth 100000 in
set_option maxHeartbeats 4000000 in
theorem bits_nil (b : Nat) (k : Int) (w : World) (h : w.cell? ⟨b, 1, none⟩ = some (.slice none 0 0)) :
    Calls Tryz.prog 103 #[.pointer (some ⟨b, 0, none⟩), .int .u64 k] w fun e w' => e = .returned (.bool true) ∧ w' = w := by
  go_enter Tryz.func103, Tryz.ntmps103
  go_wp2_with fail
  go_loopw [19] (fun iv wr => iv = .int .i64 0 ∧ wr = w) (fun _ _ => 0)
  case atStart => exact ⟨rfl, rfl⟩
  case round =>
    obtain ⟨rfl, rfl⟩ := hrel
    go_wp2_with fail
    go_loopw [44] (fun iv wq => iv = .int .i64 0 ∧ wq = wr) (fun _ _ => 0)
    case atStart => exact ⟨rfl, rfl⟩
    case round =>
      obtain ⟨rfl, rfl⟩ := hrel
      go_wp2_with fail
      go_loopw [77] (fun iv wq => iv = .int .i64 0 ∧ wq = wr) (fun _ _ => 0)
      case atStart => exact ⟨rfl, rfl⟩
      case round =>
        obtain ⟨rfl, rfl⟩ := hrel
        go_wp2
        go_ret
        exact ⟨rfl, rfl⟩

theorem all_marks {ls ls1 ls2 : List (List Int)} (_hl1 : ls1.length = ls.length) (hl2 : ls2.length = ls.length) (s1 : ∀ (j : Nat) (l : List Int), ls[j]? = some l → ls1[j]? = some (List.replicate l.length (mk j))) (s2 : ∀ (j : Nat) (l : List Int), ls1[j]? = some l → ls2[j]? = some (l ++ List.replicate 3 (mk j))) :
    ∀ (i : Nat) (l : List Int), ls2[i]? = some l → ∀ z ∈ l, z = mk i := by
  intro i l hl z hz
  have hi : i < ls.length := by
    rcases Nat.lt_or_ge i ls2.length with q | q
    · omega
    · rw [List.getElem?_eq_none q] at hl; cases hl
  have h1 := s1 i _ (List.getElem?_eq_getElem hi)
  have h2 := s2 i _ h1
  rw [hl] at h2
  cases h2
  rcases List.mem_append.1 hz with h | h
  · exact List.eq_of_mem_replicate h
  · exact List.eq_of_mem_replicate h
theorem all_short {ls ls1 : List (List Int)} (hl1 : ls1.length = ls.length) (s1 : ∀ (j : Nat) (l : List Int), ls[j]? = some l → ls1[j]? = some (List.replicate l.length (mk j))) (h : ∀ l ∈ ls, l.length ≤ 1000) : ∀ l ∈ ls1, l.length ≤ 1000 := by
  intro l hl
  obtain ⟨i, hi, rfl⟩ := List.mem_iff_getElem.1 hl
  have hi2 : i < ls.length := by omega
  have h1 := s1 i _ (List.getElem?_eq_getElem hi2)
  rw [List.getElem?_eq_getElem hi] at h1
  have h2 := Option.some.inj h1
  rw [h2, List.length_replicate]
  exact h _ (List.getElem_mem hi2)

set_option maxRecDepth 100000 in
set_option maxHeartbeats 20000000 in
theorem apart_any (B b : Nat) (lv : Value) (vs : List Value) (ls : List (List Int)) (w : World) (h : Hl B w b lv vs ls) (h0 : 0 < vs.length) (h100 : vs.length ≤ 100) (hls : ∀ l ∈ ls, l.length ≤ 1000) (hB : B ≤ w.heap.size) (D : List Nat) (hD : ∀ v ∈ vs, ∀ k, v.ownBlock = some k → k ∉ D) (hDl : ∀ k, lv.ownBlock = some k → k ∉ D) (hDw : ∀ k ∈ D, k < w.heap.size) :
    Calls Tryz.prog 15 #[.pointer (some ⟨b, 0, none⟩)] w fun e w' => e = .returned (.bool true) ∧ Bz B D w w' := by
  have K1 := fill_any B b lv vs ls w h h0 h100 hls D hD
  have hlen := h.len
  go_enter Tryz.func15, Tryz.ntmps15
  go_wp2_with fail
  refine K1.mono ?_
  rintro e w1 ⟨rfl, ⟨ls1, h1, s1⟩, b1⟩
  have c1 := h1.bk.cell.2.2.2.1
  have HC := hide c1
  clear c1
  go_wp2_with fail
  refine (fillWide_nil b w1 (unhide HC 3 (by decide) (by decide))).mono ?_
  rintro e w1 ⟨rfl, rfl⟩
  go_wp2_with fail
  refine (fillText_nil b w1 (unhide HC 4 (by decide) (by decide))).mono ?_
  rintro e w1 ⟨rfl, rfl⟩
  go_wp2_with fail
  refine (fillTerm_nil b w1 (unhide HC 5 (by decide) (by decide))).mono ?_
  rintro e w1 ⟨rfl, rfl⟩
  go_wp2_with fail
  refine (fillSeal_nil b w1 (unhide HC 6 (by decide) (by decide))).mono ?_
  rintro e w1 ⟨rfl, rfl⟩
  go_wp2_with fail
  refine (fillKey_nil b w1 (unhide HC 7 (by decide) (by decide))).mono ?_
  rintro e w1 ⟨rfl, rfl⟩
  go_wp2_with fail
  refine (fillAdd_nil b w1 (unhide HC 8 (by decide) (by decide))).mono ?_
  rintro e w1 ⟨rfl, rfl⟩
  go_wp2_with fail
  refine (fillJoin_nil b w1 (unhide HC 9 (by decide) (by decide))).mono ?_
  rintro e w1 ⟨rfl, rfl⟩
  go_wp2_with fail
  refine (fillPast_nil b w1 (unhide HC 10 (by decide) (by decide))).mono ?_
  rintro e w1 ⟨rfl, rfl⟩
  go_wp2_with fail
  refine (fillCard_nil b w1 (unhide HC 11 (by decide) (by decide))).mono ?_
  rintro e w1 ⟨rfl, rfl⟩
  go_wp2_with fail
  refine (fillGot_nil b w1 (unhide HC 12 (by decide) (by decide))).mono ?_
  rintro e w1 ⟨rfl, rfl⟩
  go_wp2_with fail
  refine (fillNote_nil b w1 (unhide HC 13 (by decide) (by decide))).mono ?_
  rintro e w1 ⟨rfl, rfl⟩
  go_wp2_with fail
  refine (fillAnswer_nil b w1 (unhide HC 14 (by decide) (by decide))).mono ?_
  rintro e w1 ⟨rfl, rfl⟩
  go_wp2_with fail
  refine (fillOutcome_nil b w1 (unhide HC 15 (by decide) (by decide))).mono ?_
  rintro e w1 ⟨rfl, rfl⟩
  go_wp2_with fail
  refine (fillFinding_nil b w1 (unhide HC 16 (by decide) (by decide))).mono ?_
  rintro e w1 ⟨rfl, rfl⟩
  go_wp2_with fail
  refine (fillStep_nil b w1 (unhide HC 17 (by decide) (by decide))).mono ?_
  rintro e w1 ⟨rfl, rfl⟩
  go_wp2_with fail
  refine (fillWrite_nil b w1 (unhide HC 18 (by decide) (by decide))).mono ?_
  rintro e w1 ⟨rfl, rfl⟩
  go_wp2_with fail
  refine (fillNode_nil b w1 (unhide HC 19 (by decide) (by decide))).mono ?_
  rintro e w1 ⟨rfl, rfl⟩
  go_wp2_with fail
  refine (fillTree_nil b w1 (unhide HC 20 (by decide) (by decide))).mono ?_
  rintro e w1 ⟨rfl, rfl⟩
  go_wp2_with fail
  refine (fillCommit_nil b w1 (unhide HC 21 (by decide) (by decide))).mono ?_
  rintro e w1 ⟨rfl, rfl⟩
  go_wp2_with fail
  refine (fillState_nil b w1 (unhide HC 22 (by decide) (by decide))).mono ?_
  rintro e w1 ⟨rfl, rfl⟩
  go_wp2_with fail
  refine (fillFace_nil b w1 (unhide HC 23 (by decide) (by decide))).mono ?_
  rintro e w1 ⟨rfl, rfl⟩
  go_wp2_with fail
  refine (fillRequest_nil b w1 (unhide HC 24 (by decide) (by decide))).mono ?_
  rintro e w1 ⟨rfl, rfl⟩
  go_wp2_with fail
  refine (fillMail_nil b w1 (unhide HC 25 (by decide) (by decide))).mono ?_
  rintro e w1 ⟨rfl, rfl⟩
  go_wp2_with fail
  refine (fillPending_nil b w1 (unhide HC 26 (by decide) (by decide))).mono ?_
  rintro e w1 ⟨rfl, rfl⟩
  go_wp2_with fail
  refine (fillFeed_nil b w1 (unhide HC 27 (by decide) (by decide))).mono ?_
  rintro e w1 ⟨rfl, rfl⟩
  go_wp2_with fail
  refine (fillLog_nil b w1 (unhide HC 28 (by decide) (by decide))).mono ?_
  rintro e w1 ⟨rfl, rfl⟩
  go_wp2_with fail
  refine (fillBox_nil b w1 (unhide HC 29 (by decide) (by decide))).mono ?_
  rintro e w1 ⟨rfl, rfl⟩
  go_wp2_with fail
  refine (fillEarly_nil b w1 (unhide HC 30 (by decide) (by decide))).mono ?_
  rintro e w1 ⟨rfl, rfl⟩
  go_wp2_with fail
  refine (fillLink_nil b w1 (unhide HC 31 (by decide) (by decide))).mono ?_
  rintro e w1 ⟨rfl, rfl⟩
  go_wp2_with fail
  refine (fillPacket_nil b w1 (unhide HC 32 (by decide) (by decide))).mono ?_
  rintro e w1 ⟨rfl, rfl⟩
  go_wp2_with fail
  refine (fillTermRow_nil b w1 (unhide HC 33 (by decide) (by decide))).mono ?_
  rintro e w1 ⟨rfl, rfl⟩
  go_wp2_with fail
  refine (fillNumberRow_nil b w1 (unhide HC 34 (by decide) (by decide))).mono ?_
  rintro e w1 ⟨rfl, rfl⟩
  have K2 := grow_any B b lv vs ls1 w1 h1 h0 h100 (all_short (by rw [← h1.len]; exact hlen) s1 hls) (Nat.le_trans hB b1.size) D hD hDl (fun k hk => Nat.lt_of_lt_of_le (hDw k hk) b1.size)
  go_wp2_with fail
  refine K2.mono ?_
  rintro e w2 ⟨rfl, ⟨vs2, ls2, hvl, h2, s2⟩, b2⟩
  have c2 := h2.bk.cell.2.2.2.1
  have f2 := h2.bk.cell.2.1
  have HD := hide c2
  clear c2 HC
  go_wp2_with fail
  refine (growWide_nil b w2 (unhide HD 3 (by decide) (by decide))).mono ?_
  rintro e w2 ⟨rfl, rfl⟩
  go_wp2_with fail
  refine (growText_nil b w2 (unhide HD 4 (by decide) (by decide))).mono ?_
  rintro e w2 ⟨rfl, rfl⟩
  go_wp2_with fail
  refine (growTerm_nil b w2 (unhide HD 5 (by decide) (by decide))).mono ?_
  rintro e w2 ⟨rfl, rfl⟩
  go_wp2_with fail
  refine (growSeal_nil b w2 (unhide HD 6 (by decide) (by decide))).mono ?_
  rintro e w2 ⟨rfl, rfl⟩
  go_wp2_with fail
  refine (growKey_nil b w2 (unhide HD 7 (by decide) (by decide))).mono ?_
  rintro e w2 ⟨rfl, rfl⟩
  go_wp2_with fail
  refine (growAdd_nil b w2 (unhide HD 8 (by decide) (by decide))).mono ?_
  rintro e w2 ⟨rfl, rfl⟩
  go_wp2_with fail
  refine (growJoin_nil b w2 (unhide HD 9 (by decide) (by decide))).mono ?_
  rintro e w2 ⟨rfl, rfl⟩
  go_wp2_with fail
  refine (growPast_nil b w2 (unhide HD 10 (by decide) (by decide))).mono ?_
  rintro e w2 ⟨rfl, rfl⟩
  go_wp2_with fail
  refine (growCard_nil b w2 (unhide HD 11 (by decide) (by decide))).mono ?_
  rintro e w2 ⟨rfl, rfl⟩
  go_wp2_with fail
  refine (growGot_nil b w2 (unhide HD 12 (by decide) (by decide))).mono ?_
  rintro e w2 ⟨rfl, rfl⟩
  go_wp2_with fail
  refine (growNote_nil b w2 (unhide HD 13 (by decide) (by decide))).mono ?_
  rintro e w2 ⟨rfl, rfl⟩
  go_wp2_with fail
  refine (growAnswer_nil b w2 (unhide HD 14 (by decide) (by decide))).mono ?_
  rintro e w2 ⟨rfl, rfl⟩
  go_wp2_with fail
  refine (growOutcome_nil b w2 (unhide HD 15 (by decide) (by decide))).mono ?_
  rintro e w2 ⟨rfl, rfl⟩
  go_wp2_with fail
  refine (growFinding_nil b w2 (unhide HD 16 (by decide) (by decide))).mono ?_
  rintro e w2 ⟨rfl, rfl⟩
  go_wp2_with fail
  refine (growStep_nil b w2 (unhide HD 17 (by decide) (by decide))).mono ?_
  rintro e w2 ⟨rfl, rfl⟩
  go_wp2_with fail
  refine (growWrite_nil b w2 (unhide HD 18 (by decide) (by decide))).mono ?_
  rintro e w2 ⟨rfl, rfl⟩
  go_wp2_with fail
  refine (growNode_nil b w2 (unhide HD 19 (by decide) (by decide))).mono ?_
  rintro e w2 ⟨rfl, rfl⟩
  go_wp2_with fail
  refine (growTree_nil b w2 (unhide HD 20 (by decide) (by decide))).mono ?_
  rintro e w2 ⟨rfl, rfl⟩
  go_wp2_with fail
  refine (growCommit_nil b w2 (unhide HD 21 (by decide) (by decide))).mono ?_
  rintro e w2 ⟨rfl, rfl⟩
  go_wp2_with fail
  refine (growState_nil b w2 (unhide HD 22 (by decide) (by decide))).mono ?_
  rintro e w2 ⟨rfl, rfl⟩
  go_wp2_with fail
  refine (growFace_nil b w2 (unhide HD 23 (by decide) (by decide))).mono ?_
  rintro e w2 ⟨rfl, rfl⟩
  go_wp2_with fail
  refine (growRequest_nil b w2 (unhide HD 24 (by decide) (by decide))).mono ?_
  rintro e w2 ⟨rfl, rfl⟩
  go_wp2_with fail
  refine (growMail_nil b w2 (unhide HD 25 (by decide) (by decide))).mono ?_
  rintro e w2 ⟨rfl, rfl⟩
  go_wp2_with fail
  refine (growPending_nil b w2 (unhide HD 26 (by decide) (by decide))).mono ?_
  rintro e w2 ⟨rfl, rfl⟩
  go_wp2_with fail
  refine (growFeed_nil b w2 (unhide HD 27 (by decide) (by decide))).mono ?_
  rintro e w2 ⟨rfl, rfl⟩
  go_wp2_with fail
  refine (growLog_nil b w2 (unhide HD 28 (by decide) (by decide))).mono ?_
  rintro e w2 ⟨rfl, rfl⟩
  go_wp2_with fail
  refine (growBox_nil b w2 (unhide HD 29 (by decide) (by decide))).mono ?_
  rintro e w2 ⟨rfl, rfl⟩
  go_wp2_with fail
  refine (growEarly_nil b w2 (unhide HD 30 (by decide) (by decide))).mono ?_
  rintro e w2 ⟨rfl, rfl⟩
  go_wp2_with fail
  refine (growLink_nil b w2 (unhide HD 31 (by decide) (by decide))).mono ?_
  rintro e w2 ⟨rfl, rfl⟩
  go_wp2_with fail
  refine (growPacket_nil b w2 (unhide HD 32 (by decide) (by decide))).mono ?_
  rintro e w2 ⟨rfl, rfl⟩
  go_wp2_with fail
  refine (growTermRow_nil b w2 (unhide HD 33 (by decide) (by decide))).mono ?_
  rintro e w2 ⟨rfl, rfl⟩
  go_wp2_with fail
  refine (growNumberRow_nil b w2 (unhide HD 34 (by decide) (by decide))).mono ?_
  rintro e w2 ⟨rfl, rfl⟩
  have KB := fun k => bits_nil b k w2 f2
  have HB2 : B ≤ w2.heap.size := Nat.le_trans hB (Nat.le_trans b1.size b2.size)
  have KL := look_any B b lv vs2 ls2 w2 h2 (by omega) (by omega) (all_marks (by rw [← h1.len]; exact hlen) (by rw [← h2.len, hvl]; exact hlen) s1 s2)
  have HH := hide h2
  clear h2 s1 s2 HD f2 h1 hls K1 K2 h
  go_wp2_with fail
  go_loopw [3] (fun kv wq => ∃ k : Nat, kv = .int .u64 k ∧ k ≤ 8 ∧ wq = w2) (fun kv _ => (8 - intOf kv).toNat)
  case atStart => exact ⟨0, rfl, by omega, rfl⟩
  case round =>
    obtain ⟨k, rfl, hk, rfl⟩ := hrel
    by_cases hk8 : k < 8
    · go_wp2_with fail
      refine (KB _).mono ?_
      rintro e w5 ⟨rfl, rfl⟩
      go_wp2_with fail
      go_roundw
      case rel => exact ⟨k + 1, by go_num, by omega, by first | rfl | trivial⟩
      case measure => simp only [intOf]; omega
    · have hke : k = 8 := by omega
      subst hke
      go_wp2_with fail
      refine KL.mono ?_
      rintro e w4 ⟨rfl, b4⟩
      have c4 := ((unhide HH).bw b4).bk.cell.2.2.2.1
      have HE := hide c4
      clear c4 KB KL
      go_wp2_with fail
      refine (lookWide_nil b w4 (unhide HE 3 (by decide) (by decide))).mono ?_
      rintro e w4 ⟨rfl, rfl⟩
      go_wp2_with fail
      refine (lookText_nil b w4 (unhide HE 4 (by decide) (by decide))).mono ?_
      rintro e w4 ⟨rfl, rfl⟩
      go_wp2_with fail
      refine (lookTerm_nil b w4 (unhide HE 5 (by decide) (by decide))).mono ?_
      rintro e w4 ⟨rfl, rfl⟩
      go_wp2_with fail
      refine (lookSeal_nil b w4 (unhide HE 6 (by decide) (by decide))).mono ?_
      rintro e w4 ⟨rfl, rfl⟩
      go_wp2_with fail
      refine (lookKey_nil b w4 (unhide HE 7 (by decide) (by decide))).mono ?_
      rintro e w4 ⟨rfl, rfl⟩
      go_wp2_with fail
      refine (lookAdd_nil b w4 (unhide HE 8 (by decide) (by decide))).mono ?_
      rintro e w4 ⟨rfl, rfl⟩
      go_wp2_with fail
      refine (lookJoin_nil b w4 (unhide HE 9 (by decide) (by decide))).mono ?_
      rintro e w4 ⟨rfl, rfl⟩
      go_wp2_with fail
      refine (lookPast_nil b w4 (unhide HE 10 (by decide) (by decide))).mono ?_
      rintro e w4 ⟨rfl, rfl⟩
      go_wp2_with fail
      refine (lookCard_nil b w4 (unhide HE 11 (by decide) (by decide))).mono ?_
      rintro e w4 ⟨rfl, rfl⟩
      go_wp2_with fail
      refine (lookGot_nil b w4 (unhide HE 12 (by decide) (by decide))).mono ?_
      rintro e w4 ⟨rfl, rfl⟩
      go_wp2_with fail
      refine (lookNote_nil b w4 (unhide HE 13 (by decide) (by decide))).mono ?_
      rintro e w4 ⟨rfl, rfl⟩
      go_wp2_with fail
      refine (lookAnswer_nil b w4 (unhide HE 14 (by decide) (by decide))).mono ?_
      rintro e w4 ⟨rfl, rfl⟩
      go_wp2_with fail
      refine (lookOutcome_nil b w4 (unhide HE 15 (by decide) (by decide))).mono ?_
      rintro e w4 ⟨rfl, rfl⟩
      go_wp2_with fail
      refine (lookFinding_nil b w4 (unhide HE 16 (by decide) (by decide))).mono ?_
      rintro e w4 ⟨rfl, rfl⟩
      go_wp2_with fail
      refine (lookStep_nil b w4 (unhide HE 17 (by decide) (by decide))).mono ?_
      rintro e w4 ⟨rfl, rfl⟩
      go_wp2_with fail
      refine (lookWrite_nil b w4 (unhide HE 18 (by decide) (by decide))).mono ?_
      rintro e w4 ⟨rfl, rfl⟩
      go_wp2_with fail
      refine (lookNode_nil b w4 (unhide HE 19 (by decide) (by decide))).mono ?_
      rintro e w4 ⟨rfl, rfl⟩
      go_wp2_with fail
      refine (lookTree_nil b w4 (unhide HE 20 (by decide) (by decide))).mono ?_
      rintro e w4 ⟨rfl, rfl⟩
      go_wp2_with fail
      refine (lookCommit_nil b w4 (unhide HE 21 (by decide) (by decide))).mono ?_
      rintro e w4 ⟨rfl, rfl⟩
      go_wp2_with fail
      refine (lookState_nil b w4 (unhide HE 22 (by decide) (by decide))).mono ?_
      rintro e w4 ⟨rfl, rfl⟩
      go_wp2_with fail
      refine (lookFace_nil b w4 (unhide HE 23 (by decide) (by decide))).mono ?_
      rintro e w4 ⟨rfl, rfl⟩
      go_wp2_with fail
      refine (lookRequest_nil b w4 (unhide HE 24 (by decide) (by decide))).mono ?_
      rintro e w4 ⟨rfl, rfl⟩
      go_wp2_with fail
      refine (lookMail_nil b w4 (unhide HE 25 (by decide) (by decide))).mono ?_
      rintro e w4 ⟨rfl, rfl⟩
      go_wp2_with fail
      refine (lookPending_nil b w4 (unhide HE 26 (by decide) (by decide))).mono ?_
      rintro e w4 ⟨rfl, rfl⟩
      go_wp2_with fail
      refine (lookFeed_nil b w4 (unhide HE 27 (by decide) (by decide))).mono ?_
      rintro e w4 ⟨rfl, rfl⟩
      go_wp2_with fail
      refine (lookLog_nil b w4 (unhide HE 28 (by decide) (by decide))).mono ?_
      rintro e w4 ⟨rfl, rfl⟩
      go_wp2_with fail
      refine (lookBox_nil b w4 (unhide HE 29 (by decide) (by decide))).mono ?_
      rintro e w4 ⟨rfl, rfl⟩
      go_wp2_with fail
      refine (lookEarly_nil b w4 (unhide HE 30 (by decide) (by decide))).mono ?_
      rintro e w4 ⟨rfl, rfl⟩
      go_wp2_with fail
      refine (lookLink_nil b w4 (unhide HE 31 (by decide) (by decide))).mono ?_
      rintro e w4 ⟨rfl, rfl⟩
      go_wp2_with fail
      refine (lookPacket_nil b w4 (unhide HE 32 (by decide) (by decide))).mono ?_
      rintro e w4 ⟨rfl, rfl⟩
      go_wp2_with fail
      refine (lookTermRow_nil b w4 (unhide HE 33 (by decide) (by decide))).mono ?_
      rintro e w4 ⟨rfl, rfl⟩
      go_wp2_with fail
      refine (lookNumberRow_nil b w4 (unhide HE 34 (by decide) (by decide))).mono ?_
      rintro e w4 ⟨rfl, rfl⟩
      go_wp2
      go_ret
      exact ⟨rfl, (b1.trans b2).new b4 HB2 (fun k hk => Nat.lt_of_lt_of_le (hDw k hk) (Nat.le_trans b1.size b2.size))⟩

end Go.Proofs.YtkaioidneknmjaaGreatDoor.Tn.Td
