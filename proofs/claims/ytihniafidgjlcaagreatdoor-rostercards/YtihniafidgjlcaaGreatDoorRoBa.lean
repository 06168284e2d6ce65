/- The contract of Apart: of a Book whose lists are rows of their own it answers true. -/
import Derived.Test.YtihniafidgjlcaaGreatDoorZ25
import Derived.Test.YtihniafidgjlcaaGreatDoorBookNil
namespace Go.Proofs.YtihniafidgjlcaaGreatDoor
open Go.RowKit Go.Maps
set_option maxRecDepth 100000 in
set_option maxHeartbeats 4000000 in
theorem bits_nilB (b : Nat) (k : Int) (w : World) (h : w.cell? ⟨b, 1, none⟩ = some (.slice none 0 0)) :
    Calls Tryz.prog 119 #[.pointer (some ⟨b, 0, none⟩), .int .u64 k] w fun e w' => e = .returned (.bool true) ∧ w' = w := by
  go_enter Tryz.func119, Tryz.ntmps119
  go_wp2_with fail
  go_loopw [19] (fun iv wr => iv = .int .i64 0 ∧ wr = w) (fun _ _ => 0)
  case atStart => exact ⟨rfl, rfl⟩
  case round =>
    obtain ⟨rfl, rfl⟩ := hrel
    go_wp2_with fail
    go_loopw [44] (fun iv wq => iv = .int .i64 0 ∧ wq = wr) (fun _ _ => 0)
    case atStart => exact ⟨rfl, rfl⟩
    case round =>
      obtain ⟨rfl, rfl⟩ := hrel
      go_wp2_with fail
      go_loopw [77] (fun iv wq => iv = .int .i64 0 ∧ wq = wr) (fun _ _ => 0)
      case atStart => exact ⟨rfl, rfl⟩
      case round =>
        obtain ⟨rfl, rfl⟩ := hrel
        go_wp2
        go_ret
        exact ⟨rfl, rfl⟩
structure ApC (B : Nat) (w0 w : World) (b : Nat) (cnt : Int) (F : Nat → Value) (eCard : List Ent) (XCard : Nat → List Value) : Prop where
  blk : w.heap[b]? = some (.cells (bookF cnt F) 98 (0, 0))
  hB : B ≤ w0.heap.size
  bel : Below B w0 w
  nil : ∀ k, 0 < k → k < 35 → k ≠ 11 → F k = .slice none 0 0
  kCard : Ke kdCard B w (F 11) eCard XCard
  lCard : eCard.length ≤ 1048576
  cCard : ∀ x ∈ eCard, x.n ≤ 1048576 ∧ x.m ≤ 1048579
theorem ApC.cell {B : Nat} {w0 w : World} {b : Nat} {cnt : Int} {F : Nat → Value} {eCard : List Ent} {XCard : Nat → List Value} (h : ApC B w0 w b cnt F eCard XCard) : ∀ k, 0 < k → k < 35 → k ≠ 11 → w.cell? ⟨b, k, none⟩ = some (.slice none 0 0) := fun k k0 k35 n0 => by
  rw [book_cell h.blk k0 k35, h.nil k k0 k35 n0]
theorem ApC.size {B : Nat} {w0 w : World} {b : Nat} {cnt : Int} {F : Nat → Value} {eCard : List Ent} {XCard : Nat → List Value} (h : ApC B w0 w b cnt F eCard XCard) : B ≤ w.heap.size := Nat.le_trans h.hB h.bel.size
set_option maxRecDepth 100000 in
set_option maxHeartbeats 20000000 in
theorem apartApC_b (B b : Nat) (cnt : Int) (F : Nat → Value) (eCard : List Ent) (XCard : Nat → List Value) (w : World) (h : ApC B w w b cnt F eCard XCard) (mCard : ∀ x ∈ eCard, x.m ≤ 1048576) :
    Calls Tryz.prog 28 #[.pointer (some ⟨b, 0, none⟩)] w fun e w' => e = .returned (.bool true) ∧ Below B w w' := by
  have HS := hide h
  have HC := hide h.cell
  have HMCard := hide mCard
  clear h mCard
  go_enter Tryz.func28, Tryz.ntmps28
  go_wp2_with fail
  refine (fillNumber_nil b w (unhide HC 2 (by decide) (by decide) (by decide))).mono ?_
  rintro e w ⟨rfl, rfl⟩
  go_wp2_with fail
  refine (fillWide_nil b w (unhide HC 3 (by decide) (by decide) (by decide))).mono ?_
  rintro e w ⟨rfl, rfl⟩
  go_wp2_with fail
  refine (fillText_nil b w (unhide HC 4 (by decide) (by decide) (by decide))).mono ?_
  rintro e w ⟨rfl, rfl⟩
  go_wp2_with fail
  refine (fillTerm_nil b w (unhide HC 5 (by decide) (by decide) (by decide))).mono ?_
  rintro e w ⟨rfl, rfl⟩
  go_wp2_with fail
  refine (fillSeal_nil b w (unhide HC 6 (by decide) (by decide) (by decide))).mono ?_
  rintro e w ⟨rfl, rfl⟩
  go_wp2_with fail
  refine (fillKey_nil b w (unhide HC 7 (by decide) (by decide) (by decide))).mono ?_
  rintro e w ⟨rfl, rfl⟩
  go_wp2_with fail
  refine (fillAdd_nil b w (unhide HC 8 (by decide) (by decide) (by decide))).mono ?_
  rintro e w ⟨rfl, rfl⟩
  go_wp2_with fail
  refine (fillJoin_nil b w (unhide HC 9 (by decide) (by decide) (by decide))).mono ?_
  rintro e w ⟨rfl, rfl⟩
  go_wp2_with fail
  refine (fillPast_nil b w (unhide HC 10 (by decide) (by decide) (by decide))).mono ?_
  rintro e w ⟨rfl, rfl⟩
  go_wp2_with fail
  refine (fillCard_b B b cnt F eCard XCard w (unhide HS).blk (unhide HS).kCard (unhide HS).size (unhide HS).lCard (fun x hx => ⟨((unhide HS).cCard x hx).1, unhide HMCard x hx⟩)).mono ?_
  rintro e w1 ⟨rfl, ⟨XCard1, h1, m1⟩, t1⟩
  have HMKCard : Hid (MkdCard eCard XCard1) := m1
  have HS2 : Hid (ApC B w w1 b cnt F eCard XCard1) := by
    have hs := unhide HS
    exact ⟨t1.blk hs.blk (by decide), hs.hB, hs.bel.trans t1.bel, hs.nil, h1, hs.lCard, hs.cCard⟩
  have HC2 := hide (unhide HS2).cell
  clear h1 m1 t1 HS HC
  have HS := HS2
  have HC := HC2
  clear HS2 HC2
  go_wp2_with fail
  refine (fillGot_nil b w1 (unhide HC 12 (by decide) (by decide) (by decide))).mono ?_
  rintro e w1 ⟨rfl, rfl⟩
  go_wp2_with fail
  refine (fillNote_nil b w1 (unhide HC 13 (by decide) (by decide) (by decide))).mono ?_
  rintro e w1 ⟨rfl, rfl⟩
  go_wp2_with fail
  refine (fillAnswer_nil b w1 (unhide HC 14 (by decide) (by decide) (by decide))).mono ?_
  rintro e w1 ⟨rfl, rfl⟩
  go_wp2_with fail
  refine (fillOutcome_nil b w1 (unhide HC 15 (by decide) (by decide) (by decide))).mono ?_
  rintro e w1 ⟨rfl, rfl⟩
  go_wp2_with fail
  refine (fillFinding_nil b w1 (unhide HC 16 (by decide) (by decide) (by decide))).mono ?_
  rintro e w1 ⟨rfl, rfl⟩
  go_wp2_with fail
  refine (fillStep_nil b w1 (unhide HC 17 (by decide) (by decide) (by decide))).mono ?_
  rintro e w1 ⟨rfl, rfl⟩
  go_wp2_with fail
  refine (fillWrite_nil b w1 (unhide HC 18 (by decide) (by decide) (by decide))).mono ?_
  rintro e w1 ⟨rfl, rfl⟩
  go_wp2_with fail
  refine (fillNode_nil b w1 (unhide HC 19 (by decide) (by decide) (by decide))).mono ?_
  rintro e w1 ⟨rfl, rfl⟩
  go_wp2_with fail
  refine (fillTree_nil b w1 (unhide HC 20 (by decide) (by decide) (by decide))).mono ?_
  rintro e w1 ⟨rfl, rfl⟩
  go_wp2_with fail
  refine (fillCommit_nil b w1 (unhide HC 21 (by decide) (by decide) (by decide))).mono ?_
  rintro e w1 ⟨rfl, rfl⟩
  go_wp2_with fail
  refine (fillState_nil b w1 (unhide HC 22 (by decide) (by decide) (by decide))).mono ?_
  rintro e w1 ⟨rfl, rfl⟩
  go_wp2_with fail
  refine (fillFace_nil b w1 (unhide HC 23 (by decide) (by decide) (by decide))).mono ?_
  rintro e w1 ⟨rfl, rfl⟩
  go_wp2_with fail
  refine (fillRequest_nil b w1 (unhide HC 24 (by decide) (by decide) (by decide))).mono ?_
  rintro e w1 ⟨rfl, rfl⟩
  go_wp2_with fail
  refine (fillMail_nil b w1 (unhide HC 25 (by decide) (by decide) (by decide))).mono ?_
  rintro e w1 ⟨rfl, rfl⟩
  go_wp2_with fail
  refine (fillPending_nil b w1 (unhide HC 26 (by decide) (by decide) (by decide))).mono ?_
  rintro e w1 ⟨rfl, rfl⟩
  go_wp2_with fail
  refine (fillFeed_nil b w1 (unhide HC 27 (by decide) (by decide) (by decide))).mono ?_
  rintro e w1 ⟨rfl, rfl⟩
  go_wp2_with fail
  refine (fillLog_nil b w1 (unhide HC 28 (by decide) (by decide) (by decide))).mono ?_
  rintro e w1 ⟨rfl, rfl⟩
  go_wp2_with fail
  refine (fillBox_nil b w1 (unhide HC 29 (by decide) (by decide) (by decide))).mono ?_
  rintro e w1 ⟨rfl, rfl⟩
  go_wp2_with fail
  refine (fillEarly_nil b w1 (unhide HC 30 (by decide) (by decide) (by decide))).mono ?_
  rintro e w1 ⟨rfl, rfl⟩
  go_wp2_with fail
  refine (fillLink_nil b w1 (unhide HC 31 (by decide) (by decide) (by decide))).mono ?_
  rintro e w1 ⟨rfl, rfl⟩
  go_wp2_with fail
  refine (fillPacket_nil b w1 (unhide HC 32 (by decide) (by decide) (by decide))).mono ?_
  rintro e w1 ⟨rfl, rfl⟩
  go_wp2_with fail
  refine (fillTermRow_nil b w1 (unhide HC 33 (by decide) (by decide) (by decide))).mono ?_
  rintro e w1 ⟨rfl, rfl⟩
  go_wp2_with fail
  refine (fillNumberRow_nil b w1 (unhide HC 34 (by decide) (by decide) (by decide))).mono ?_
  rintro e w1 ⟨rfl, rfl⟩
  go_wp2_with fail
  refine (growNumber_nil b w1 (unhide HC 2 (by decide) (by decide) (by decide))).mono ?_
  rintro e w1 ⟨rfl, rfl⟩
  go_wp2_with fail
  refine (growWide_nil b w1 (unhide HC 3 (by decide) (by decide) (by decide))).mono ?_
  rintro e w1 ⟨rfl, rfl⟩
  go_wp2_with fail
  refine (growText_nil b w1 (unhide HC 4 (by decide) (by decide) (by decide))).mono ?_
  rintro e w1 ⟨rfl, rfl⟩
  go_wp2_with fail
  refine (growTerm_nil b w1 (unhide HC 5 (by decide) (by decide) (by decide))).mono ?_
  rintro e w1 ⟨rfl, rfl⟩
  go_wp2_with fail
  refine (growSeal_nil b w1 (unhide HC 6 (by decide) (by decide) (by decide))).mono ?_
  rintro e w1 ⟨rfl, rfl⟩
  go_wp2_with fail
  refine (growKey_nil b w1 (unhide HC 7 (by decide) (by decide) (by decide))).mono ?_
  rintro e w1 ⟨rfl, rfl⟩
  go_wp2_with fail
  refine (growAdd_nil b w1 (unhide HC 8 (by decide) (by decide) (by decide))).mono ?_
  rintro e w1 ⟨rfl, rfl⟩
  go_wp2_with fail
  refine (growJoin_nil b w1 (unhide HC 9 (by decide) (by decide) (by decide))).mono ?_
  rintro e w1 ⟨rfl, rfl⟩
  go_wp2_with fail
  refine (growPast_nil b w1 (unhide HC 10 (by decide) (by decide) (by decide))).mono ?_
  rintro e w1 ⟨rfl, rfl⟩
  go_wp2_with fail
  refine (growCard_b B b cnt F eCard XCard1 w1 (unhide HS).blk (unhide HS).kCard (unhide HS).size (unhide HS).lCard (fun x hx => ⟨((unhide HS).cCard x hx).1, unhide HMCard x hx⟩) (unhide HMKCard)).mono ?_
  rintro e w2 ⟨rfl, ⟨eCard2, XCard2, h1, l1, c1, m1⟩, t1⟩
  have HMK2Card : Hid (MkdCard eCard2 XCard2) := m1
  have HS2 : Hid (ApC B w w2 b cnt F eCard2 XCard2) := by
    have hs := unhide HS
    exact ⟨t1.blk hs.blk (by decide), hs.hB, hs.bel.trans t1.bel, hs.nil, h1, by rw [l1]; exact hs.lCard, c1⟩
  have HC2 := hide (unhide HS2).cell
  clear h1 m1 t1 l1 c1 HS HC
  have HS := HS2
  have HC := HC2
  clear HS2 HC2
  go_wp2_with fail
  refine (growGot_nil b w2 (unhide HC 12 (by decide) (by decide) (by decide))).mono ?_
  rintro e w2 ⟨rfl, rfl⟩
  go_wp2_with fail
  refine (growNote_nil b w2 (unhide HC 13 (by decide) (by decide) (by decide))).mono ?_
  rintro e w2 ⟨rfl, rfl⟩
  go_wp2_with fail
  refine (growAnswer_nil b w2 (unhide HC 14 (by decide) (by decide) (by decide))).mono ?_
  rintro e w2 ⟨rfl, rfl⟩
  go_wp2_with fail
  refine (growOutcome_nil b w2 (unhide HC 15 (by decide) (by decide) (by decide))).mono ?_
  rintro e w2 ⟨rfl, rfl⟩
  go_wp2_with fail
  refine (growFinding_nil b w2 (unhide HC 16 (by decide) (by decide) (by decide))).mono ?_
  rintro e w2 ⟨rfl, rfl⟩
  go_wp2_with fail
  refine (growStep_nil b w2 (unhide HC 17 (by decide) (by decide) (by decide))).mono ?_
  rintro e w2 ⟨rfl, rfl⟩
  go_wp2_with fail
  refine (growWrite_nil b w2 (unhide HC 18 (by decide) (by decide) (by decide))).mono ?_
  rintro e w2 ⟨rfl, rfl⟩
  go_wp2_with fail
  refine (growNode_nil b w2 (unhide HC 19 (by decide) (by decide) (by decide))).mono ?_
  rintro e w2 ⟨rfl, rfl⟩
  go_wp2_with fail
  refine (growTree_nil b w2 (unhide HC 20 (by decide) (by decide) (by decide))).mono ?_
  rintro e w2 ⟨rfl, rfl⟩
  go_wp2_with fail
  refine (growCommit_nil b w2 (unhide HC 21 (by decide) (by decide) (by decide))).mono ?_
  rintro e w2 ⟨rfl, rfl⟩
  go_wp2_with fail
  refine (growState_nil b w2 (unhide HC 22 (by decide) (by decide) (by decide))).mono ?_
  rintro e w2 ⟨rfl, rfl⟩
  go_wp2_with fail
  refine (growFace_nil b w2 (unhide HC 23 (by decide) (by decide) (by decide))).mono ?_
  rintro e w2 ⟨rfl, rfl⟩
  go_wp2_with fail
  refine (growRequest_nil b w2 (unhide HC 24 (by decide) (by decide) (by decide))).mono ?_
  rintro e w2 ⟨rfl, rfl⟩
  go_wp2_with fail
  refine (growMail_nil b w2 (unhide HC 25 (by decide) (by decide) (by decide))).mono ?_
  rintro e w2 ⟨rfl, rfl⟩
  go_wp2_with fail
  refine (growPending_nil b w2 (unhide HC 26 (by decide) (by decide) (by decide))).mono ?_
  rintro e w2 ⟨rfl, rfl⟩
  go_wp2_with fail
  refine (growFeed_nil b w2 (unhide HC 27 (by decide) (by decide) (by decide))).mono ?_
  rintro e w2 ⟨rfl, rfl⟩
  go_wp2_with fail
  refine (growLog_nil b w2 (unhide HC 28 (by decide) (by decide) (by decide))).mono ?_
  rintro e w2 ⟨rfl, rfl⟩
  go_wp2_with fail
  refine (growBox_nil b w2 (unhide HC 29 (by decide) (by decide) (by decide))).mono ?_
  rintro e w2 ⟨rfl, rfl⟩
  go_wp2_with fail
  refine (growEarly_nil b w2 (unhide HC 30 (by decide) (by decide) (by decide))).mono ?_
  rintro e w2 ⟨rfl, rfl⟩
  go_wp2_with fail
  refine (growLink_nil b w2 (unhide HC 31 (by decide) (by decide) (by decide))).mono ?_
  rintro e w2 ⟨rfl, rfl⟩
  go_wp2_with fail
  refine (growPacket_nil b w2 (unhide HC 32 (by decide) (by decide) (by decide))).mono ?_
  rintro e w2 ⟨rfl, rfl⟩
  go_wp2_with fail
  refine (growTermRow_nil b w2 (unhide HC 33 (by decide) (by decide) (by decide))).mono ?_
  rintro e w2 ⟨rfl, rfl⟩
  go_wp2_with fail
  refine (growNumberRow_nil b w2 (unhide HC 34 (by decide) (by decide) (by decide))).mono ?_
  rintro e w2 ⟨rfl, rfl⟩
  have KB := hide (fun k => bits_nilB b k w2 (unhide HC 1 (by decide) (by decide) (by decide)))
  go_wp2_with fail
  go_loopw [3] (fun kv wq => ∃ k : Nat, kv = .int .u64 k ∧ k ≤ 8 ∧ wq = w2) (fun kv _ => (8 - intOf kv).toNat)
  case atStart => exact ⟨0, rfl, by omega, rfl⟩
  case round =>
    obtain ⟨k, rfl, hk, rfl⟩ := hrel
    by_cases hk8 : k < 8
    · go_wp2_with fail
      refine (unhide KB _).mono ?_
      rintro e w5 ⟨rfl, rfl⟩
      go_wp2_with fail
      go_roundw
      case rel => exact ⟨k + 1, by go_num, by omega, by first | rfl | trivial⟩
      case measure => simp only [intOf]; omega
    · have hke : k = 8 := by omega
      subst hke
      clear KB
      go_wp2_with fail
      refine (lookNumber_nil b wr (unhide HC 2 (by decide) (by decide) (by decide))).mono ?_
      rintro e wr ⟨rfl, rfl⟩
      go_wp2_with fail
      refine (lookWide_nil b wr (unhide HC 3 (by decide) (by decide) (by decide))).mono ?_
      rintro e wr ⟨rfl, rfl⟩
      go_wp2_with fail
      refine (lookText_nil b wr (unhide HC 4 (by decide) (by decide) (by decide))).mono ?_
      rintro e wr ⟨rfl, rfl⟩
      go_wp2_with fail
      refine (lookTerm_nil b wr (unhide HC 5 (by decide) (by decide) (by decide))).mono ?_
      rintro e wr ⟨rfl, rfl⟩
      go_wp2_with fail
      refine (lookSeal_nil b wr (unhide HC 6 (by decide) (by decide) (by decide))).mono ?_
      rintro e wr ⟨rfl, rfl⟩
      go_wp2_with fail
      refine (lookKey_nil b wr (unhide HC 7 (by decide) (by decide) (by decide))).mono ?_
      rintro e wr ⟨rfl, rfl⟩
      go_wp2_with fail
      refine (lookAdd_nil b wr (unhide HC 8 (by decide) (by decide) (by decide))).mono ?_
      rintro e wr ⟨rfl, rfl⟩
      go_wp2_with fail
      refine (lookJoin_nil b wr (unhide HC 9 (by decide) (by decide) (by decide))).mono ?_
      rintro e wr ⟨rfl, rfl⟩
      go_wp2_with fail
      refine (lookPast_nil b wr (unhide HC 10 (by decide) (by decide) (by decide))).mono ?_
      rintro e wr ⟨rfl, rfl⟩
      go_wp2_with fail
      refine (lookCard_b B b cnt F eCard2 XCard2 _ (unhide HS).blk (unhide HS).kCard (unhide HS).lCard (unhide HS).cCard (unhide HMK2Card)).mono ?_
      rintro e w3 ⟨rfl, t1⟩
      have HS2 : Hid (ApC B w w3 b cnt F eCard2 XCard2) := by
        have hs := unhide HS
        exact ⟨by rw [t1.block b (lt_of_blk hs.blk)]; exact hs.blk, hs.hB, hs.bel.trans (bw_mono t1 hs.size), hs.nil, hs.kCard.bw t1, hs.lCard, hs.cCard⟩
      have HC2 := hide (unhide HS2).cell
      clear t1 HS HC
      have HS := HS2
      have HC := HC2
      clear HS2 HC2
      go_wp2_with fail
      refine (lookGot_nil b w3 (unhide HC 12 (by decide) (by decide) (by decide))).mono ?_
      rintro e w3 ⟨rfl, rfl⟩
      go_wp2_with fail
      refine (lookNote_nil b w3 (unhide HC 13 (by decide) (by decide) (by decide))).mono ?_
      rintro e w3 ⟨rfl, rfl⟩
      go_wp2_with fail
      refine (lookAnswer_nil b w3 (unhide HC 14 (by decide) (by decide) (by decide))).mono ?_
      rintro e w3 ⟨rfl, rfl⟩
      go_wp2_with fail
      refine (lookOutcome_nil b w3 (unhide HC 15 (by decide) (by decide) (by decide))).mono ?_
      rintro e w3 ⟨rfl, rfl⟩
      go_wp2_with fail
      refine (lookFinding_nil b w3 (unhide HC 16 (by decide) (by decide) (by decide))).mono ?_
      rintro e w3 ⟨rfl, rfl⟩
      go_wp2_with fail
      refine (lookStep_nil b w3 (unhide HC 17 (by decide) (by decide) (by decide))).mono ?_
      rintro e w3 ⟨rfl, rfl⟩
      go_wp2_with fail
      refine (lookWrite_nil b w3 (unhide HC 18 (by decide) (by decide) (by decide))).mono ?_
      rintro e w3 ⟨rfl, rfl⟩
      go_wp2_with fail
      refine (lookNode_nil b w3 (unhide HC 19 (by decide) (by decide) (by decide))).mono ?_
      rintro e w3 ⟨rfl, rfl⟩
      go_wp2_with fail
      refine (lookTree_nil b w3 (unhide HC 20 (by decide) (by decide) (by decide))).mono ?_
      rintro e w3 ⟨rfl, rfl⟩
      go_wp2_with fail
      refine (lookCommit_nil b w3 (unhide HC 21 (by decide) (by decide) (by decide))).mono ?_
      rintro e w3 ⟨rfl, rfl⟩
      go_wp2_with fail
      refine (lookState_nil b w3 (unhide HC 22 (by decide) (by decide) (by decide))).mono ?_
      rintro e w3 ⟨rfl, rfl⟩
      go_wp2_with fail
      refine (lookFace_nil b w3 (unhide HC 23 (by decide) (by decide) (by decide))).mono ?_
      rintro e w3 ⟨rfl, rfl⟩
      go_wp2_with fail
      refine (lookRequest_nil b w3 (unhide HC 24 (by decide) (by decide) (by decide))).mono ?_
      rintro e w3 ⟨rfl, rfl⟩
      go_wp2_with fail
      refine (lookMail_nil b w3 (unhide HC 25 (by decide) (by decide) (by decide))).mono ?_
      rintro e w3 ⟨rfl, rfl⟩
      go_wp2_with fail
      refine (lookPending_nil b w3 (unhide HC 26 (by decide) (by decide) (by decide))).mono ?_
      rintro e w3 ⟨rfl, rfl⟩
      go_wp2_with fail
      refine (lookFeed_nil b w3 (unhide HC 27 (by decide) (by decide) (by decide))).mono ?_
      rintro e w3 ⟨rfl, rfl⟩
      go_wp2_with fail
      refine (lookLog_nil b w3 (unhide HC 28 (by decide) (by decide) (by decide))).mono ?_
      rintro e w3 ⟨rfl, rfl⟩
      go_wp2_with fail
      refine (lookBox_nil b w3 (unhide HC 29 (by decide) (by decide) (by decide))).mono ?_
      rintro e w3 ⟨rfl, rfl⟩
      go_wp2_with fail
      refine (lookEarly_nil b w3 (unhide HC 30 (by decide) (by decide) (by decide))).mono ?_
      rintro e w3 ⟨rfl, rfl⟩
      go_wp2_with fail
      refine (lookLink_nil b w3 (unhide HC 31 (by decide) (by decide) (by decide))).mono ?_
      rintro e w3 ⟨rfl, rfl⟩
      go_wp2_with fail
      refine (lookPacket_nil b w3 (unhide HC 32 (by decide) (by decide) (by decide))).mono ?_
      rintro e w3 ⟨rfl, rfl⟩
      go_wp2_with fail
      refine (lookTermRow_nil b w3 (unhide HC 33 (by decide) (by decide) (by decide))).mono ?_
      rintro e w3 ⟨rfl, rfl⟩
      go_wp2_with fail
      refine (lookNumberRow_nil b w3 (unhide HC 34 (by decide) (by decide) (by decide))).mono ?_
      rintro e w3 ⟨rfl, rfl⟩
      go_wp2
      go_ret
      exact ⟨rfl, (unhide HS).bel⟩
structure BoC (B : Nat) (w : World) (b n H : Nat) (F : Nat → Value) (es : List Ent) (X : Nat → List Value) : Prop where
  blk : w.heap[b]? = some (.cells (bookF (n : Int) F) 98 (0, 0))
  low : B ≤ b
  C : Ke kdCard B w (F 11) es X
  nil : ∀ k, 0 < k → k < 35 → k ≠ 11 → F k = .slice none 0 0
  len : es.length ≤ n
  cn : ∀ x ∈ es, x.n ≤ n ∧ x.m ≤ 1048576 ∧ ∀ k, x.v.ownBlock = some k → k < H
theorem BoC.start {B : Nat} {w : World} {b : Nat} (hb : w.heap[b]? = some (.cells (bookF 0 (fun _ => .slice none 0 0)) 98 (0, 0))) (hB : B ≤ b) (H : Nat) : BoC B w b 0 H (fun _ => .slice none 0 0) [] (fun _ => []) :=
  ⟨hb, hB, Ke.nil _ _ _, fun _ _ _ _ => rfl, by simp, by simp⟩
theorem BoC.up {B : Nat} {w : World} {b n H H' : Nat} {F : Nat → Value} {es : List Ent} {X : Nat → List Value} (h : BoC B w b n H F es X) (hH : H ≤ H') : BoC B w b n H' F es X :=
  ⟨h.blk, h.low, h.C, h.nil, h.len, fun x hx => ⟨(h.cn x hx).1, (h.cn x hx).2.1, fun k hk => Nat.lt_of_lt_of_le ((h.cn x hx).2.2 k hk) hH⟩⟩
set_option maxHeartbeats 1000000 in
theorem bcards_b (B b n H : Nat) (F : Nat → Value) (es : List Ent) (X : Nat → List Value) (p : Option Addr) (m cap : Nat) (xs : List Value) (w : World) (h : BoC B w b n H F es X) (hB : B ≤ w.heap.size) (hn : n ≤ 1048575) (hm : m ≤ 1048576)
    (hv : w.ownsRow B 44 3 (.slice p m cap) m xs) (hH : ∀ k, (Value.slice p m cap).ownBlock = some k → k < H) (hap : ∀ (i : Nat) (y : Ent) (k : Nat), es[i]? = some y → y.v.ownBlock = some k → (Value.slice p m cap).ownBlock ≠ some k) :
    Calls Tryz.prog 27 #[.pointer (some ⟨b, 0, none⟩), .slice p m cap] w fun e w' => e = .returned (.tuple #[]) ∧ (∃ F' X', BoC B w' b (n + 1) H F' (es ++ [Ent.mk (.slice p m cap) n m]) X') ∧ Tf [98, 147] B w w' := by
  have K := hide (keepCard_b B b n F es X p m cap w h.blk h.C h.low hB (by have := h.len; omega) (by omega))
  have HF : Hid (∀ w' lv', w'.heap[b]? = some (.cells (bookF ((n + 1 : Nat) : Int) (updF F 11 lv')) 98 (0, 0)) → w'.ownsRow B 147 2 lv' (es ++ [Ent.mk (.slice p m cap) n m]).length (helE (es ++ [Ent.mk (.slice p m cap) n m])) → Tf [98, 147] B w w' → (∃ F' X', BoC B w' b (n + 1) H F' (es ++ [Ent.mk (.slice p m cap) n m]) X')) := fun w' lv' h1 h2 h3 => by
    have hsn := h.C.snoc (x := Ent.mk (.slice p m cap) n m) (xs := xs) (T := 98) h3 (by decide) (by decide) h2 hv hap
    refine ⟨updF F 11 lv', _, h1, h.low, hsn, fun k k0 k35 k11 => ?_, by have := h.len; simp; omega, fun x hx => ?_⟩
    · have := h.nil k k0 k35 k11
      simpa [updF, k11] using this
    · rcases List.mem_append.1 hx with q | q
      · have := h.cn x q; exact ⟨by omega, this.2.1, this.2.2⟩
      · simp at q; subst q; exact ⟨by simp, hm, hH⟩
  clear h hv hH hap hm hn hB
  go_enter Tryz.func27, Tryz.ntmps27
  go_wp2_with fail
  refine (unhide K).mono ?_
  rintro e w1 ⟨rfl, lv', h1, h2, h3⟩
  have HZ := hide (And.intro (unhide HF w1 lv' h1 h2 h3) h3)
  clear h1 h2 h3
  go_wp2
  go_end0
  exact ⟨rfl, unhide HZ⟩
theorem BoC.ap {B : Nat} {w : World} {b n H : Nat} {F : Nat → Value} {es : List Ent} {X : Nat → List Value} (h : BoC B w b n H F es X) (hB : B ≤ w.heap.size) (hn : n ≤ 1048576) : ApC B w w b (n : Int) F es X :=
  ⟨h.blk, hB, Below.refl _ _, h.nil, h.C, by have := h.len; omega, fun x hx => ⟨by have := (h.cn x hx).1; omega, by have := (h.cn x hx).2.1; omega⟩⟩
end Go.Proofs.YtihniafidgjlcaaGreatDoor
