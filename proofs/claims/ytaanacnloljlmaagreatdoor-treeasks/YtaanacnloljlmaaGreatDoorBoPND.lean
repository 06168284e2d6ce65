/- The contract of Apart: of a Book whose lists are rows of their own it answers true. -/
import Derived.Test.YtaanacnloljlmaaGreatDoorZ17
import Derived.Test.YtaanacnloljlmaaGreatDoorBookNil
namespace Go.Proofs.YtaanacnloljlmaaGreatDoor
open Go.RowKit Go.Maps

set_option maxRecDepth 100000 in
set_option maxHeartbeats 4000000 in
theorem bits_nilB (b : Nat) (k : Int) (w : World) (h : w.cell? ⟨b, 1, none⟩ = some (.slice none 0 0)) :
    Calls Tryz.prog 114 #[.pointer (some ⟨b, 0, none⟩), .int .u64 k] w fun e w' => e = .returned (.bool true) ∧ w' = w := by
  go_enter Tryz.func114, Tryz.ntmps114
  go_wp2_with fail
  go_loopw [19] (fun iv wr => iv = .int .i64 0 ∧ wr = w) (fun _ _ => 0)
  case atStart => exact ⟨rfl, rfl⟩
  case round =>
    obtain ⟨rfl, rfl⟩ := hrel
    go_wp2_with fail
    go_loopw [44] (fun iv wq => iv = .int .i64 0 ∧ wq = wr) (fun _ _ => 0)
    case atStart => exact ⟨rfl, rfl⟩
    case round =>
      obtain ⟨rfl, rfl⟩ := hrel
      go_wp2_with fail
      go_loopw [77] (fun iv wq => iv = .int .i64 0 ∧ wq = wr) (fun _ _ => 0)
      case atStart => exact ⟨rfl, rfl⟩
      case round =>
        obtain ⟨rfl, rfl⟩ := hrel
        go_wp2
        go_ret
        exact ⟨rfl, rfl⟩
/-- While Apart goes through the lists: what is so of each kind. -/
structure ApND (B : Nat) (w0 w : World) (b : Nat) (cnt : Int) (F : Nat → Value) (eNumber : List Ent) (XNumber : Nat → List Value) (eNode : List Ent) (XNode : Nat → List Value) : Prop where
  blk : w.heap[b]? = some (.cells (bookF cnt F) 70 (0, 0))
  hB : B ≤ w0.heap.size
  bel : Below B w0 w
  nil : ∀ k, 0 < k → k < 35 → k ≠ 2 → k ≠ 19 → F k = .slice none 0 0
  kNumber : Ke kdNumber B w (F 2) eNumber XNumber
  lNumber : eNumber.length ≤ 1048576
  cNumber : ∀ x ∈ eNumber, x.n ≤ 1048576 ∧ x.m ≤ 1048579
  kNode : Ke kdNode B w (F 19) eNode XNode
  lNode : eNode.length ≤ 1048576
  cNode : ∀ x ∈ eNode, x.n ≤ 1048576 ∧ x.m ≤ 1048579
theorem ApND.cell {B : Nat} {w0 w : World} {b : Nat} {cnt : Int} {F : Nat → Value} {eNumber : List Ent} {XNumber : Nat → List Value} {eNode : List Ent} {XNode : Nat → List Value} (h : ApND B w0 w b cnt F eNumber XNumber eNode XNode) : ∀ k, 0 < k → k < 35 → k ≠ 2 → k ≠ 19 → w.cell? ⟨b, k, none⟩ = some (.slice none 0 0) := fun k k0 k35 n0 n1 => by
  rw [book_cell h.blk k0 k35, h.nil k k0 k35 n0 n1]
theorem ApND.size {B : Nat} {w0 w : World} {b : Nat} {cnt : Int} {F : Nat → Value} {eNumber : List Ent} {XNumber : Nat → List Value} {eNode : List Ent} {XNode : Nat → List Value} (h : ApND B w0 w b cnt F eNumber XNumber eNode XNode) : B ≤ w.heap.size := Nat.le_trans h.hB h.bel.size
set_option maxRecDepth 100000 in
set_option maxHeartbeats 20000000 in
theorem apartApND_b (B b : Nat) (cnt : Int) (F : Nat → Value) (eNumber : List Ent) (XNumber : Nat → List Value) (eNode : List Ent) (XNode : Nat → List Value) (w : World) (h : ApND B w w b cnt F eNumber XNumber eNode XNode) (mNumber : ∀ x ∈ eNumber, x.m ≤ 1048576) (mNode : ∀ x ∈ eNode, x.m ≤ 1048576) :
    Calls Tryz.prog 20 #[.pointer (some ⟨b, 0, none⟩)] w fun e w' => e = .returned (.bool true) ∧ Below B w w' := by
  have HS := hide h
  have HC := hide h.cell
  have HMNumber := hide mNumber
  have HMNode := hide mNode
  clear h mNumber mNode
  go_enter Tryz.func20, Tryz.ntmps20
  go_wp2_with fail
  refine (fillNumber_b B b cnt F eNumber XNumber w (unhide HS).blk (unhide HS).kNumber (unhide HS).size (unhide HS).lNumber (fun x hx => ⟨((unhide HS).cNumber x hx).1, unhide HMNumber x hx⟩)).mono ?_
  rintro e w1 ⟨rfl, ⟨XNumber1, h1, m1⟩, t1⟩
  have HMKNumber : Hid (MkdNumber eNumber XNumber1) := m1
  have HS2 : Hid (ApND B w w1 b cnt F eNumber XNumber1 eNode XNode) := by
    have hs := unhide HS
    exact ⟨t1.blk hs.blk (by decide), hs.hB, hs.bel.trans t1.bel, hs.nil, h1, hs.lNumber, hs.cNumber, hs.kNode.tf t1 (by decide) (by decide), hs.lNode, hs.cNode⟩
  have HC2 := hide (unhide HS2).cell
  clear h1 m1 t1 HS HC
  have HS := HS2
  have HC := HC2
  clear HS2 HC2
  go_wp2_with fail
  refine (fillWide_nil b w1 (unhide HC 3 (by decide) (by decide) (by decide) (by decide))).mono ?_
  rintro e w1 ⟨rfl, rfl⟩
  go_wp2_with fail
  refine (fillText_nil b w1 (unhide HC 4 (by decide) (by decide) (by decide) (by decide))).mono ?_
  rintro e w1 ⟨rfl, rfl⟩
  go_wp2_with fail
  refine (fillTerm_nil b w1 (unhide HC 5 (by decide) (by decide) (by decide) (by decide))).mono ?_
  rintro e w1 ⟨rfl, rfl⟩
  go_wp2_with fail
  refine (fillSeal_nil b w1 (unhide HC 6 (by decide) (by decide) (by decide) (by decide))).mono ?_
  rintro e w1 ⟨rfl, rfl⟩
  go_wp2_with fail
  refine (fillKey_nil b w1 (unhide HC 7 (by decide) (by decide) (by decide) (by decide))).mono ?_
  rintro e w1 ⟨rfl, rfl⟩
  go_wp2_with fail
  refine (fillAdd_nil b w1 (unhide HC 8 (by decide) (by decide) (by decide) (by decide))).mono ?_
  rintro e w1 ⟨rfl, rfl⟩
  go_wp2_with fail
  refine (fillJoin_nil b w1 (unhide HC 9 (by decide) (by decide) (by decide) (by decide))).mono ?_
  rintro e w1 ⟨rfl, rfl⟩
  go_wp2_with fail
  refine (fillPast_nil b w1 (unhide HC 10 (by decide) (by decide) (by decide) (by decide))).mono ?_
  rintro e w1 ⟨rfl, rfl⟩
  go_wp2_with fail
  refine (fillCard_nil b w1 (unhide HC 11 (by decide) (by decide) (by decide) (by decide))).mono ?_
  rintro e w1 ⟨rfl, rfl⟩
  go_wp2_with fail
  refine (fillGot_nil b w1 (unhide HC 12 (by decide) (by decide) (by decide) (by decide))).mono ?_
  rintro e w1 ⟨rfl, rfl⟩
  go_wp2_with fail
  refine (fillNote_nil b w1 (unhide HC 13 (by decide) (by decide) (by decide) (by decide))).mono ?_
  rintro e w1 ⟨rfl, rfl⟩
  go_wp2_with fail
  refine (fillAnswer_nil b w1 (unhide HC 14 (by decide) (by decide) (by decide) (by decide))).mono ?_
  rintro e w1 ⟨rfl, rfl⟩
  go_wp2_with fail
  refine (fillOutcome_nil b w1 (unhide HC 15 (by decide) (by decide) (by decide) (by decide))).mono ?_
  rintro e w1 ⟨rfl, rfl⟩
  go_wp2_with fail
  refine (fillFinding_nil b w1 (unhide HC 16 (by decide) (by decide) (by decide) (by decide))).mono ?_
  rintro e w1 ⟨rfl, rfl⟩
  go_wp2_with fail
  refine (fillStep_nil b w1 (unhide HC 17 (by decide) (by decide) (by decide) (by decide))).mono ?_
  rintro e w1 ⟨rfl, rfl⟩
  go_wp2_with fail
  refine (fillWrite_nil b w1 (unhide HC 18 (by decide) (by decide) (by decide) (by decide))).mono ?_
  rintro e w1 ⟨rfl, rfl⟩
  go_wp2_with fail
  refine (fillNode_b B b cnt F eNode XNode w1 (unhide HS).blk (unhide HS).kNode (unhide HS).size (unhide HS).lNode (fun x hx => ⟨((unhide HS).cNode x hx).1, unhide HMNode x hx⟩)).mono ?_
  rintro e w2 ⟨rfl, ⟨XNode1, h1, m1⟩, t1⟩
  have HMKNode : Hid (MkdNode eNode XNode1) := m1
  have HS2 : Hid (ApND B w w2 b cnt F eNumber XNumber1 eNode XNode1) := by
    have hs := unhide HS
    exact ⟨t1.blk hs.blk (by decide), hs.hB, hs.bel.trans t1.bel, hs.nil, hs.kNumber.tf t1 (by decide) (by decide), hs.lNumber, hs.cNumber, h1, hs.lNode, hs.cNode⟩
  have HC2 := hide (unhide HS2).cell
  clear h1 m1 t1 HS HC
  have HS := HS2
  have HC := HC2
  clear HS2 HC2
  go_wp2_with fail
  refine (fillTree_nil b w2 (unhide HC 20 (by decide) (by decide) (by decide) (by decide))).mono ?_
  rintro e w2 ⟨rfl, rfl⟩
  go_wp2_with fail
  refine (fillCommit_nil b w2 (unhide HC 21 (by decide) (by decide) (by decide) (by decide))).mono ?_
  rintro e w2 ⟨rfl, rfl⟩
  go_wp2_with fail
  refine (fillState_nil b w2 (unhide HC 22 (by decide) (by decide) (by decide) (by decide))).mono ?_
  rintro e w2 ⟨rfl, rfl⟩
  go_wp2_with fail
  refine (fillFace_nil b w2 (unhide HC 23 (by decide) (by decide) (by decide) (by decide))).mono ?_
  rintro e w2 ⟨rfl, rfl⟩
  go_wp2_with fail
  refine (fillRequest_nil b w2 (unhide HC 24 (by decide) (by decide) (by decide) (by decide))).mono ?_
  rintro e w2 ⟨rfl, rfl⟩
  go_wp2_with fail
  refine (fillMail_nil b w2 (unhide HC 25 (by decide) (by decide) (by decide) (by decide))).mono ?_
  rintro e w2 ⟨rfl, rfl⟩
  go_wp2_with fail
  refine (fillPending_nil b w2 (unhide HC 26 (by decide) (by decide) (by decide) (by decide))).mono ?_
  rintro e w2 ⟨rfl, rfl⟩
  go_wp2_with fail
  refine (fillFeed_nil b w2 (unhide HC 27 (by decide) (by decide) (by decide) (by decide))).mono ?_
  rintro e w2 ⟨rfl, rfl⟩
  go_wp2_with fail
  refine (fillLog_nil b w2 (unhide HC 28 (by decide) (by decide) (by decide) (by decide))).mono ?_
  rintro e w2 ⟨rfl, rfl⟩
  go_wp2_with fail
  refine (fillBox_nil b w2 (unhide HC 29 (by decide) (by decide) (by decide) (by decide))).mono ?_
  rintro e w2 ⟨rfl, rfl⟩
  go_wp2_with fail
  refine (fillEarly_nil b w2 (unhide HC 30 (by decide) (by decide) (by decide) (by decide))).mono ?_
  rintro e w2 ⟨rfl, rfl⟩
  go_wp2_with fail
  refine (fillLink_nil b w2 (unhide HC 31 (by decide) (by decide) (by decide) (by decide))).mono ?_
  rintro e w2 ⟨rfl, rfl⟩
  go_wp2_with fail
  refine (fillPacket_nil b w2 (unhide HC 32 (by decide) (by decide) (by decide) (by decide))).mono ?_
  rintro e w2 ⟨rfl, rfl⟩
  go_wp2_with fail
  refine (fillTermRow_nil b w2 (unhide HC 33 (by decide) (by decide) (by decide) (by decide))).mono ?_
  rintro e w2 ⟨rfl, rfl⟩
  go_wp2_with fail
  refine (fillNumberRow_nil b w2 (unhide HC 34 (by decide) (by decide) (by decide) (by decide))).mono ?_
  rintro e w2 ⟨rfl, rfl⟩
  go_wp2_with fail
  refine (growNumber_b B b cnt F eNumber XNumber1 w2 (unhide HS).blk (unhide HS).kNumber (unhide HS).size (unhide HS).lNumber (fun x hx => ⟨((unhide HS).cNumber x hx).1, unhide HMNumber x hx⟩) (unhide HMKNumber)).mono ?_
  rintro e w3 ⟨rfl, ⟨eNumber2, XNumber2, h1, l1, c1, m1⟩, t1⟩
  have HMK2Number : Hid (MkdNumber eNumber2 XNumber2) := m1
  have HS2 : Hid (ApND B w w3 b cnt F eNumber2 XNumber2 eNode XNode1) := by
    have hs := unhide HS
    exact ⟨t1.blk hs.blk (by decide), hs.hB, hs.bel.trans t1.bel, hs.nil, h1, by rw [l1]; exact hs.lNumber, c1, hs.kNode.tf t1 (by decide) (by decide), hs.lNode, hs.cNode⟩
  have HC2 := hide (unhide HS2).cell
  clear h1 m1 t1 l1 c1 HS HC
  have HS := HS2
  have HC := HC2
  clear HS2 HC2
  go_wp2_with fail
  refine (growWide_nil b w3 (unhide HC 3 (by decide) (by decide) (by decide) (by decide))).mono ?_
  rintro e w3 ⟨rfl, rfl⟩
  go_wp2_with fail
  refine (growText_nil b w3 (unhide HC 4 (by decide) (by decide) (by decide) (by decide))).mono ?_
  rintro e w3 ⟨rfl, rfl⟩
  go_wp2_with fail
  refine (growTerm_nil b w3 (unhide HC 5 (by decide) (by decide) (by decide) (by decide))).mono ?_
  rintro e w3 ⟨rfl, rfl⟩
  go_wp2_with fail
  refine (growSeal_nil b w3 (unhide HC 6 (by decide) (by decide) (by decide) (by decide))).mono ?_
  rintro e w3 ⟨rfl, rfl⟩
  go_wp2_with fail
  refine (growKey_nil b w3 (unhide HC 7 (by decide) (by decide) (by decide) (by decide))).mono ?_
  rintro e w3 ⟨rfl, rfl⟩
  go_wp2_with fail
  refine (growAdd_nil b w3 (unhide HC 8 (by decide) (by decide) (by decide) (by decide))).mono ?_
  rintro e w3 ⟨rfl, rfl⟩
  go_wp2_with fail
  refine (growJoin_nil b w3 (unhide HC 9 (by decide) (by decide) (by decide) (by decide))).mono ?_
  rintro e w3 ⟨rfl, rfl⟩
  go_wp2_with fail
  refine (growPast_nil b w3 (unhide HC 10 (by decide) (by decide) (by decide) (by decide))).mono ?_
  rintro e w3 ⟨rfl, rfl⟩
  go_wp2_with fail
  refine (growCard_nil b w3 (unhide HC 11 (by decide) (by decide) (by decide) (by decide))).mono ?_
  rintro e w3 ⟨rfl, rfl⟩
  go_wp2_with fail
  refine (growGot_nil b w3 (unhide HC 12 (by decide) (by decide) (by decide) (by decide))).mono ?_
  rintro e w3 ⟨rfl, rfl⟩
  go_wp2_with fail
  refine (growNote_nil b w3 (unhide HC 13 (by decide) (by decide) (by decide) (by decide))).mono ?_
  rintro e w3 ⟨rfl, rfl⟩
  go_wp2_with fail
  refine (growAnswer_nil b w3 (unhide HC 14 (by decide) (by decide) (by decide) (by decide))).mono ?_
  rintro e w3 ⟨rfl, rfl⟩
  go_wp2_with fail
  refine (growOutcome_nil b w3 (unhide HC 15 (by decide) (by decide) (by decide) (by decide))).mono ?_
  rintro e w3 ⟨rfl, rfl⟩
  go_wp2_with fail
  refine (growFinding_nil b w3 (unhide HC 16 (by decide) (by decide) (by decide) (by decide))).mono ?_
  rintro e w3 ⟨rfl, rfl⟩
  go_wp2_with fail
  refine (growStep_nil b w3 (unhide HC 17 (by decide) (by decide) (by decide) (by decide))).mono ?_
  rintro e w3 ⟨rfl, rfl⟩
  go_wp2_with fail
  refine (growWrite_nil b w3 (unhide HC 18 (by decide) (by decide) (by decide) (by decide))).mono ?_
  rintro e w3 ⟨rfl, rfl⟩
  go_wp2_with fail
  refine (growNode_b B b cnt F eNode XNode1 w3 (unhide HS).blk (unhide HS).kNode (unhide HS).size (unhide HS).lNode (fun x hx => ⟨((unhide HS).cNode x hx).1, unhide HMNode x hx⟩) (unhide HMKNode)).mono ?_
  rintro e w4 ⟨rfl, ⟨eNode2, XNode2, h1, l1, c1, m1⟩, t1⟩
  have HMK2Node : Hid (MkdNode eNode2 XNode2) := m1
  have HS2 : Hid (ApND B w w4 b cnt F eNumber2 XNumber2 eNode2 XNode2) := by
    have hs := unhide HS
    exact ⟨t1.blk hs.blk (by decide), hs.hB, hs.bel.trans t1.bel, hs.nil, hs.kNumber.tf t1 (by decide) (by decide), hs.lNumber, hs.cNumber, h1, by rw [l1]; exact hs.lNode, c1⟩
  have HC2 := hide (unhide HS2).cell
  clear h1 m1 t1 l1 c1 HS HC
  have HS := HS2
  have HC := HC2
  clear HS2 HC2
  go_wp2_with fail
  refine (growTree_nil b w4 (unhide HC 20 (by decide) (by decide) (by decide) (by decide))).mono ?_
  rintro e w4 ⟨rfl, rfl⟩
  go_wp2_with fail
  refine (growCommit_nil b w4 (unhide HC 21 (by decide) (by decide) (by decide) (by decide))).mono ?_
  rintro e w4 ⟨rfl, rfl⟩
  go_wp2_with fail
  refine (growState_nil b w4 (unhide HC 22 (by decide) (by decide) (by decide) (by decide))).mono ?_
  rintro e w4 ⟨rfl, rfl⟩
  go_wp2_with fail
  refine (growFace_nil b w4 (unhide HC 23 (by decide) (by decide) (by decide) (by decide))).mono ?_
  rintro e w4 ⟨rfl, rfl⟩
  go_wp2_with fail
  refine (growRequest_nil b w4 (unhide HC 24 (by decide) (by decide) (by decide) (by decide))).mono ?_
  rintro e w4 ⟨rfl, rfl⟩
  go_wp2_with fail
  refine (growMail_nil b w4 (unhide HC 25 (by decide) (by decide) (by decide) (by decide))).mono ?_
  rintro e w4 ⟨rfl, rfl⟩
  go_wp2_with fail
  refine (growPending_nil b w4 (unhide HC 26 (by decide) (by decide) (by decide) (by decide))).mono ?_
  rintro e w4 ⟨rfl, rfl⟩
  go_wp2_with fail
  refine (growFeed_nil b w4 (unhide HC 27 (by decide) (by decide) (by decide) (by decide))).mono ?_
  rintro e w4 ⟨rfl, rfl⟩
  go_wp2_with fail
  refine (growLog_nil b w4 (unhide HC 28 (by decide) (by decide) (by decide) (by decide))).mono ?_
  rintro e w4 ⟨rfl, rfl⟩
  go_wp2_with fail
  refine (growBox_nil b w4 (unhide HC 29 (by decide) (by decide) (by decide) (by decide))).mono ?_
  rintro e w4 ⟨rfl, rfl⟩
  go_wp2_with fail
  refine (growEarly_nil b w4 (unhide HC 30 (by decide) (by decide) (by decide) (by decide))).mono ?_
  rintro e w4 ⟨rfl, rfl⟩
  go_wp2_with fail
  refine (growLink_nil b w4 (unhide HC 31 (by decide) (by decide) (by decide) (by decide))).mono ?_
  rintro e w4 ⟨rfl, rfl⟩
  go_wp2_with fail
  refine (growPacket_nil b w4 (unhide HC 32 (by decide) (by decide) (by decide) (by decide))).mono ?_
  rintro e w4 ⟨rfl, rfl⟩
  go_wp2_with fail
  refine (growTermRow_nil b w4 (unhide HC 33 (by decide) (by decide) (by decide) (by decide))).mono ?_
  rintro e w4 ⟨rfl, rfl⟩
  go_wp2_with fail
  refine (growNumberRow_nil b w4 (unhide HC 34 (by decide) (by decide) (by decide) (by decide))).mono ?_
  rintro e w4 ⟨rfl, rfl⟩
  have KB := hide (fun k => bits_nilB b k w4 (unhide HC 1 (by decide) (by decide) (by decide) (by decide)))
  go_wp2_with fail
  go_loopw [3] (fun kv wq => ∃ k : Nat, kv = .int .u64 k ∧ k ≤ 8 ∧ wq = w4) (fun kv _ => (8 - intOf kv).toNat)
  case atStart => exact ⟨0, rfl, by omega, rfl⟩
  case round =>
    obtain ⟨k, rfl, hk, rfl⟩ := hrel
    by_cases hk8 : k < 8
    · go_wp2_with fail
      refine (unhide KB _).mono ?_
      rintro e w5 ⟨rfl, rfl⟩
      go_wp2_with fail
      go_roundw
      case rel => exact ⟨k + 1, by go_num, by omega, by first | rfl | trivial⟩
      case measure => simp only [intOf]; omega
    · have hke : k = 8 := by omega
      subst hke
      clear KB
      go_wp2_with fail
      refine (lookNumber_b B b cnt F eNumber2 XNumber2 _ (unhide HS).blk (unhide HS).kNumber (unhide HS).lNumber (unhide HS).cNumber (unhide HMK2Number)).mono ?_
      rintro e w5 ⟨rfl, t1⟩
      have HS2 : Hid (ApND B w w5 b cnt F eNumber2 XNumber2 eNode2 XNode2) := by
        have hs := unhide HS
        exact ⟨by rw [t1.block b (lt_of_blk hs.blk)]; exact hs.blk, hs.hB, hs.bel.trans (bw_mono t1 hs.size), hs.nil, hs.kNumber.bw t1, hs.lNumber, hs.cNumber, hs.kNode.bw t1, hs.lNode, hs.cNode⟩
      have HC2 := hide (unhide HS2).cell
      clear t1 HS HC
      have HS := HS2
      have HC := HC2
      clear HS2 HC2
      go_wp2_with fail
      refine (lookWide_nil b w5 (unhide HC 3 (by decide) (by decide) (by decide) (by decide))).mono ?_
      rintro e w5 ⟨rfl, rfl⟩
      go_wp2_with fail
      refine (lookText_nil b w5 (unhide HC 4 (by decide) (by decide) (by decide) (by decide))).mono ?_
      rintro e w5 ⟨rfl, rfl⟩
      go_wp2_with fail
      refine (lookTerm_nil b w5 (unhide HC 5 (by decide) (by decide) (by decide) (by decide))).mono ?_
      rintro e w5 ⟨rfl, rfl⟩
      go_wp2_with fail
      refine (lookSeal_nil b w5 (unhide HC 6 (by decide) (by decide) (by decide) (by decide))).mono ?_
      rintro e w5 ⟨rfl, rfl⟩
      go_wp2_with fail
      refine (lookKey_nil b w5 (unhide HC 7 (by decide) (by decide) (by decide) (by decide))).mono ?_
      rintro e w5 ⟨rfl, rfl⟩
      go_wp2_with fail
      refine (lookAdd_nil b w5 (unhide HC 8 (by decide) (by decide) (by decide) (by decide))).mono ?_
      rintro e w5 ⟨rfl, rfl⟩
      go_wp2_with fail
      refine (lookJoin_nil b w5 (unhide HC 9 (by decide) (by decide) (by decide) (by decide))).mono ?_
      rintro e w5 ⟨rfl, rfl⟩
      go_wp2_with fail
      refine (lookPast_nil b w5 (unhide HC 10 (by decide) (by decide) (by decide) (by decide))).mono ?_
      rintro e w5 ⟨rfl, rfl⟩
      go_wp2_with fail
      refine (lookCard_nil b w5 (unhide HC 11 (by decide) (by decide) (by decide) (by decide))).mono ?_
      rintro e w5 ⟨rfl, rfl⟩
      go_wp2_with fail
      refine (lookGot_nil b w5 (unhide HC 12 (by decide) (by decide) (by decide) (by decide))).mono ?_
      rintro e w5 ⟨rfl, rfl⟩
      go_wp2_with fail
      refine (lookNote_nil b w5 (unhide HC 13 (by decide) (by decide) (by decide) (by decide))).mono ?_
      rintro e w5 ⟨rfl, rfl⟩
      go_wp2_with fail
      refine (lookAnswer_nil b w5 (unhide HC 14 (by decide) (by decide) (by decide) (by decide))).mono ?_
      rintro e w5 ⟨rfl, rfl⟩
      go_wp2_with fail
      refine (lookOutcome_nil b w5 (unhide HC 15 (by decide) (by decide) (by decide) (by decide))).mono ?_
      rintro e w5 ⟨rfl, rfl⟩
      go_wp2_with fail
      refine (lookFinding_nil b w5 (unhide HC 16 (by decide) (by decide) (by decide) (by decide))).mono ?_
      rintro e w5 ⟨rfl, rfl⟩
      go_wp2_with fail
      refine (lookStep_nil b w5 (unhide HC 17 (by decide) (by decide) (by decide) (by decide))).mono ?_
      rintro e w5 ⟨rfl, rfl⟩
      go_wp2_with fail
      refine (lookWrite_nil b w5 (unhide HC 18 (by decide) (by decide) (by decide) (by decide))).mono ?_
      rintro e w5 ⟨rfl, rfl⟩
      go_wp2_with fail
      refine (lookNode_b B b cnt F eNode2 XNode2 _ (unhide HS).blk (unhide HS).kNode (unhide HS).lNode (unhide HS).cNode (unhide HMK2Node)).mono ?_
      rintro e w6 ⟨rfl, t1⟩
      have HS2 : Hid (ApND B w w6 b cnt F eNumber2 XNumber2 eNode2 XNode2) := by
        have hs := unhide HS
        exact ⟨by rw [t1.block b (lt_of_blk hs.blk)]; exact hs.blk, hs.hB, hs.bel.trans (bw_mono t1 hs.size), hs.nil, hs.kNumber.bw t1, hs.lNumber, hs.cNumber, hs.kNode.bw t1, hs.lNode, hs.cNode⟩
      have HC2 := hide (unhide HS2).cell
      clear t1 HS HC
      have HS := HS2
      have HC := HC2
      clear HS2 HC2
      go_wp2_with fail
      refine (lookTree_nil b w6 (unhide HC 20 (by decide) (by decide) (by decide) (by decide))).mono ?_
      rintro e w6 ⟨rfl, rfl⟩
      go_wp2_with fail
      refine (lookCommit_nil b w6 (unhide HC 21 (by decide) (by decide) (by decide) (by decide))).mono ?_
      rintro e w6 ⟨rfl, rfl⟩
      go_wp2_with fail
      refine (lookState_nil b w6 (unhide HC 22 (by decide) (by decide) (by decide) (by decide))).mono ?_
      rintro e w6 ⟨rfl, rfl⟩
      go_wp2_with fail
      refine (lookFace_nil b w6 (unhide HC 23 (by decide) (by decide) (by decide) (by decide))).mono ?_
      rintro e w6 ⟨rfl, rfl⟩
      go_wp2_with fail
      refine (lookRequest_nil b w6 (unhide HC 24 (by decide) (by decide) (by decide) (by decide))).mono ?_
      rintro e w6 ⟨rfl, rfl⟩
      go_wp2_with fail
      refine (lookMail_nil b w6 (unhide HC 25 (by decide) (by decide) (by decide) (by decide))).mono ?_
      rintro e w6 ⟨rfl, rfl⟩
      go_wp2_with fail
      refine (lookPending_nil b w6 (unhide HC 26 (by decide) (by decide) (by decide) (by decide))).mono ?_
      rintro e w6 ⟨rfl, rfl⟩
      go_wp2_with fail
      refine (lookFeed_nil b w6 (unhide HC 27 (by decide) (by decide) (by decide) (by decide))).mono ?_
      rintro e w6 ⟨rfl, rfl⟩
      go_wp2_with fail
      refine (lookLog_nil b w6 (unhide HC 28 (by decide) (by decide) (by decide) (by decide))).mono ?_
      rintro e w6 ⟨rfl, rfl⟩
      go_wp2_with fail
      refine (lookBox_nil b w6 (unhide HC 29 (by decide) (by decide) (by decide) (by decide))).mono ?_
      rintro e w6 ⟨rfl, rfl⟩
      go_wp2_with fail
      refine (lookEarly_nil b w6 (unhide HC 30 (by decide) (by decide) (by decide) (by decide))).mono ?_
      rintro e w6 ⟨rfl, rfl⟩
      go_wp2_with fail
      refine (lookLink_nil b w6 (unhide HC 31 (by decide) (by decide) (by decide) (by decide))).mono ?_
      rintro e w6 ⟨rfl, rfl⟩
      go_wp2_with fail
      refine (lookPacket_nil b w6 (unhide HC 32 (by decide) (by decide) (by decide) (by decide))).mono ?_
      rintro e w6 ⟨rfl, rfl⟩
      go_wp2_with fail
      refine (lookTermRow_nil b w6 (unhide HC 33 (by decide) (by decide) (by decide) (by decide))).mono ?_
      rintro e w6 ⟨rfl, rfl⟩
      go_wp2_with fail
      refine (lookNumberRow_nil b w6 (unhide HC 34 (by decide) (by decide) (by decide) (by decide))).mono ?_
      rintro e w6 ⟨rfl, rfl⟩
      go_wp2
      go_ret
      exact ⟨rfl, (unhide HS).bel⟩
end Go.Proofs.YtaanacnloljlmaaGreatDoor
