/- Texts joined: BoPR BoRW. -/
import Derived.Test.YtaanacnloljlmaaGreatDoorZ21
import Derived.Test.YtaanacnloljlmaaGreatDoorBoPND
/- The contract of Apart: of a Book whose lists are rows of their own it answers true. -/
namespace Go.Proofs.YtaanacnloljlmaaGreatDoor
open Go.RowKit Go.Maps

/-- While Apart goes through the lists: what is so of each kind. -/
structure ApNDR (B : Nat) (w0 w : World) (b : Nat) (cnt : Int) (F : Nat → Value) (eNumber : List Ent) (XNumber : Nat → List Value) (eNode : List Ent) (XNode : Nat → List Value) (eNumberRow : List Ent) (XNumberRow : Nat → List Value) : Prop where
  blk : w.heap[b]? = some (.cells (bookF cnt F) 70 (0, 0))
  hB : B ≤ w0.heap.size
  bel : Below B w0 w
  nil : ∀ k, 0 < k → k < 35 → k ≠ 2 → k ≠ 19 → k ≠ 34 → F k = .slice none 0 0
  kNumber : Ke kdNumber B w (F 2) eNumber XNumber
  lNumber : eNumber.length ≤ 1048576
  cNumber : ∀ x ∈ eNumber, x.n ≤ 1048576 ∧ x.m ≤ 1048579
  kNode : Ke kdNode B w (F 19) eNode XNode
  lNode : eNode.length ≤ 1048576
  cNode : ∀ x ∈ eNode, x.n ≤ 1048576 ∧ x.m ≤ 1048579
  kNumberRow : Ke kdNumberRow B w (F 34) eNumberRow XNumberRow
  lNumberRow : eNumberRow.length ≤ 1048576
  cNumberRow : ∀ x ∈ eNumberRow, x.n ≤ 1048576 ∧ x.m ≤ 1048579
theorem ApNDR.cell {B : Nat} {w0 w : World} {b : Nat} {cnt : Int} {F : Nat → Value} {eNumber : List Ent} {XNumber : Nat → List Value} {eNode : List Ent} {XNode : Nat → List Value} {eNumberRow : List Ent} {XNumberRow : Nat → List Value} (h : ApNDR B w0 w b cnt F eNumber XNumber eNode XNode eNumberRow XNumberRow) : ∀ k, 0 < k → k < 35 → k ≠ 2 → k ≠ 19 → k ≠ 34 → w.cell? ⟨b, k, none⟩ = some (.slice none 0 0) := fun k k0 k35 n0 n1 n2 => by
  rw [book_cell h.blk k0 k35, h.nil k k0 k35 n0 n1 n2]
theorem ApNDR.size {B : Nat} {w0 w : World} {b : Nat} {cnt : Int} {F : Nat → Value} {eNumber : List Ent} {XNumber : Nat → List Value} {eNode : List Ent} {XNode : Nat → List Value} {eNumberRow : List Ent} {XNumberRow : Nat → List Value} (h : ApNDR B w0 w b cnt F eNumber XNumber eNode XNode eNumberRow XNumberRow) : B ≤ w.heap.size := Nat.le_trans h.hB h.bel.size
set_option maxRecDepth 100000 in
set_option maxHeartbeats 20000000 in
theorem apartApNDR_b (B b : Nat) (cnt : Int) (F : Nat → Value) (eNumber : List Ent) (XNumber : Nat → List Value) (eNode : List Ent) (XNode : Nat → List Value) (eNumberRow : List Ent) (XNumberRow : Nat → List Value) (w : World) (h : ApNDR B w w b cnt F eNumber XNumber eNode XNode eNumberRow XNumberRow) (mNumber : ∀ x ∈ eNumber, x.m ≤ 1048576) (mNode : ∀ x ∈ eNode, x.m ≤ 1048576) (mNumberRow : ∀ x ∈ eNumberRow, x.m ≤ 1048576) :
    Calls Tryz.prog 20 #[.pointer (some ⟨b, 0, none⟩)] w fun e w' => e = .returned (.bool true) ∧ Below B w w' := by
  have HS := hide h
  have HC := hide h.cell
  have HMNumber := hide mNumber
  have HMNode := hide mNode
  have HMNumberRow := hide mNumberRow
  clear h mNumber mNode mNumberRow
  go_enter Tryz.func20, Tryz.ntmps20
  go_wp2_with fail
  refine (fillNumber_b B b cnt F eNumber XNumber w (unhide HS).blk (unhide HS).kNumber (unhide HS).size (unhide HS).lNumber (fun x hx => ⟨((unhide HS).cNumber x hx).1, unhide HMNumber x hx⟩)).mono ?_
  rintro e w1 ⟨rfl, ⟨XNumber1, h1, m1⟩, t1⟩
  have HMKNumber : Hid (MkdNumber eNumber XNumber1) := m1
  have HS2 : Hid (ApNDR B w w1 b cnt F eNumber XNumber1 eNode XNode eNumberRow XNumberRow) := by
    have hs := unhide HS
    exact ⟨t1.blk hs.blk (by decide), hs.hB, hs.bel.trans t1.bel, hs.nil, h1, hs.lNumber, hs.cNumber, hs.kNode.tf t1 (by decide) (by decide), hs.lNode, hs.cNode, hs.kNumberRow.tf t1 (by decide) (by decide), hs.lNumberRow, hs.cNumberRow⟩
  have HC2 := hide (unhide HS2).cell
  clear h1 m1 t1 HS HC
  have HS := HS2
  have HC := HC2
  clear HS2 HC2
  go_wp2_with fail
  refine (fillWide_nil b w1 (unhide HC 3 (by decide) (by decide) (by decide) (by decide) (by decide))).mono ?_
  rintro e w1 ⟨rfl, rfl⟩
  go_wp2_with fail
  refine (fillText_nil b w1 (unhide HC 4 (by decide) (by decide) (by decide) (by decide) (by decide))).mono ?_
  rintro e w1 ⟨rfl, rfl⟩
  go_wp2_with fail
  refine (fillTerm_nil b w1 (unhide HC 5 (by decide) (by decide) (by decide) (by decide) (by decide))).mono ?_
  rintro e w1 ⟨rfl, rfl⟩
  go_wp2_with fail
  refine (fillSeal_nil b w1 (unhide HC 6 (by decide) (by decide) (by decide) (by decide) (by decide))).mono ?_
  rintro e w1 ⟨rfl, rfl⟩
  go_wp2_with fail
  refine (fillKey_nil b w1 (unhide HC 7 (by decide) (by decide) (by decide) (by decide) (by decide))).mono ?_
  rintro e w1 ⟨rfl, rfl⟩
  go_wp2_with fail
  refine (fillAdd_nil b w1 (unhide HC 8 (by decide) (by decide) (by decide) (by decide) (by decide))).mono ?_
  rintro e w1 ⟨rfl, rfl⟩
  go_wp2_with fail
  refine (fillJoin_nil b w1 (unhide HC 9 (by decide) (by decide) (by decide) (by decide) (by decide))).mono ?_
  rintro e w1 ⟨rfl, rfl⟩
  go_wp2_with fail
  refine (fillPast_nil b w1 (unhide HC 10 (by decide) (by decide) (by decide) (by decide) (by decide))).mono ?_
  rintro e w1 ⟨rfl, rfl⟩
  go_wp2_with fail
  refine (fillCard_nil b w1 (unhide HC 11 (by decide) (by decide) (by decide) (by decide) (by decide))).mono ?_
  rintro e w1 ⟨rfl, rfl⟩
  go_wp2_with fail
  refine (fillGot_nil b w1 (unhide HC 12 (by decide) (by decide) (by decide) (by decide) (by decide))).mono ?_
  rintro e w1 ⟨rfl, rfl⟩
  go_wp2_with fail
  refine (fillNote_nil b w1 (unhide HC 13 (by decide) (by decide) (by decide) (by decide) (by decide))).mono ?_
  rintro e w1 ⟨rfl, rfl⟩
  go_wp2_with fail
  refine (fillAnswer_nil b w1 (unhide HC 14 (by decide) (by decide) (by decide) (by decide) (by decide))).mono ?_
  rintro e w1 ⟨rfl, rfl⟩
  go_wp2_with fail
  refine (fillOutcome_nil b w1 (unhide HC 15 (by decide) (by decide) (by decide) (by decide) (by decide))).mono ?_
  rintro e w1 ⟨rfl, rfl⟩
  go_wp2_with fail
  refine (fillFinding_nil b w1 (unhide HC 16 (by decide) (by decide) (by decide) (by decide) (by decide))).mono ?_
  rintro e w1 ⟨rfl, rfl⟩
  go_wp2_with fail
  refine (fillStep_nil b w1 (unhide HC 17 (by decide) (by decide) (by decide) (by decide) (by decide))).mono ?_
  rintro e w1 ⟨rfl, rfl⟩
  go_wp2_with fail
  refine (fillWrite_nil b w1 (unhide HC 18 (by decide) (by decide) (by decide) (by decide) (by decide))).mono ?_
  rintro e w1 ⟨rfl, rfl⟩
  go_wp2_with fail
  refine (fillNode_b B b cnt F eNode XNode w1 (unhide HS).blk (unhide HS).kNode (unhide HS).size (unhide HS).lNode (fun x hx => ⟨((unhide HS).cNode x hx).1, unhide HMNode x hx⟩)).mono ?_
  rintro e w2 ⟨rfl, ⟨XNode1, h1, m1⟩, t1⟩
  have HMKNode : Hid (MkdNode eNode XNode1) := m1
  have HS2 : Hid (ApNDR B w w2 b cnt F eNumber XNumber1 eNode XNode1 eNumberRow XNumberRow) := by
    have hs := unhide HS
    exact ⟨t1.blk hs.blk (by decide), hs.hB, hs.bel.trans t1.bel, hs.nil, hs.kNumber.tf t1 (by decide) (by decide), hs.lNumber, hs.cNumber, h1, hs.lNode, hs.cNode, hs.kNumberRow.tf t1 (by decide) (by decide), hs.lNumberRow, hs.cNumberRow⟩
  have HC2 := hide (unhide HS2).cell
  clear h1 m1 t1 HS HC
  have HS := HS2
  have HC := HC2
  clear HS2 HC2
  go_wp2_with fail
  refine (fillTree_nil b w2 (unhide HC 20 (by decide) (by decide) (by decide) (by decide) (by decide))).mono ?_
  rintro e w2 ⟨rfl, rfl⟩
  go_wp2_with fail
  refine (fillCommit_nil b w2 (unhide HC 21 (by decide) (by decide) (by decide) (by decide) (by decide))).mono ?_
  rintro e w2 ⟨rfl, rfl⟩
  go_wp2_with fail
  refine (fillState_nil b w2 (unhide HC 22 (by decide) (by decide) (by decide) (by decide) (by decide))).mono ?_
  rintro e w2 ⟨rfl, rfl⟩
  go_wp2_with fail
  refine (fillFace_nil b w2 (unhide HC 23 (by decide) (by decide) (by decide) (by decide) (by decide))).mono ?_
  rintro e w2 ⟨rfl, rfl⟩
  go_wp2_with fail
  refine (fillRequest_nil b w2 (unhide HC 24 (by decide) (by decide) (by decide) (by decide) (by decide))).mono ?_
  rintro e w2 ⟨rfl, rfl⟩
  go_wp2_with fail
  refine (fillMail_nil b w2 (unhide HC 25 (by decide) (by decide) (by decide) (by decide) (by decide))).mono ?_
  rintro e w2 ⟨rfl, rfl⟩
  go_wp2_with fail
  refine (fillPending_nil b w2 (unhide HC 26 (by decide) (by decide) (by decide) (by decide) (by decide))).mono ?_
  rintro e w2 ⟨rfl, rfl⟩
  go_wp2_with fail
  refine (fillFeed_nil b w2 (unhide HC 27 (by decide) (by decide) (by decide) (by decide) (by decide))).mono ?_
  rintro e w2 ⟨rfl, rfl⟩
  go_wp2_with fail
  refine (fillLog_nil b w2 (unhide HC 28 (by decide) (by decide) (by decide) (by decide) (by decide))).mono ?_
  rintro e w2 ⟨rfl, rfl⟩
  go_wp2_with fail
  refine (fillBox_nil b w2 (unhide HC 29 (by decide) (by decide) (by decide) (by decide) (by decide))).mono ?_
  rintro e w2 ⟨rfl, rfl⟩
  go_wp2_with fail
  refine (fillEarly_nil b w2 (unhide HC 30 (by decide) (by decide) (by decide) (by decide) (by decide))).mono ?_
  rintro e w2 ⟨rfl, rfl⟩
  go_wp2_with fail
  refine (fillLink_nil b w2 (unhide HC 31 (by decide) (by decide) (by decide) (by decide) (by decide))).mono ?_
  rintro e w2 ⟨rfl, rfl⟩
  go_wp2_with fail
  refine (fillPacket_nil b w2 (unhide HC 32 (by decide) (by decide) (by decide) (by decide) (by decide))).mono ?_
  rintro e w2 ⟨rfl, rfl⟩
  go_wp2_with fail
  refine (fillTermRow_nil b w2 (unhide HC 33 (by decide) (by decide) (by decide) (by decide) (by decide))).mono ?_
  rintro e w2 ⟨rfl, rfl⟩
  go_wp2_with fail
  refine (fillNumberRow_b B b cnt F eNumberRow XNumberRow w2 (unhide HS).blk (unhide HS).kNumberRow (unhide HS).size (unhide HS).lNumberRow (fun x hx => ⟨((unhide HS).cNumberRow x hx).1, unhide HMNumberRow x hx⟩)).mono ?_
  rintro e w3 ⟨rfl, ⟨XNumberRow1, h1, m1⟩, t1⟩
  have HMKNumberRow : Hid (MkdNumberRow eNumberRow XNumberRow1) := m1
  have HS2 : Hid (ApNDR B w w3 b cnt F eNumber XNumber1 eNode XNode1 eNumberRow XNumberRow1) := by
    have hs := unhide HS
    exact ⟨t1.blk hs.blk (by decide), hs.hB, hs.bel.trans t1.bel, hs.nil, hs.kNumber.tf t1 (by decide) (by decide), hs.lNumber, hs.cNumber, hs.kNode.tf t1 (by decide) (by decide), hs.lNode, hs.cNode, h1, hs.lNumberRow, hs.cNumberRow⟩
  have HC2 := hide (unhide HS2).cell
  clear h1 m1 t1 HS HC
  have HS := HS2
  have HC := HC2
  clear HS2 HC2
  go_wp2_with fail
  refine (growNumber_b B b cnt F eNumber XNumber1 w3 (unhide HS).blk (unhide HS).kNumber (unhide HS).size (unhide HS).lNumber (fun x hx => ⟨((unhide HS).cNumber x hx).1, unhide HMNumber x hx⟩) (unhide HMKNumber)).mono ?_
  rintro e w4 ⟨rfl, ⟨eNumber2, XNumber2, h1, l1, c1, m1⟩, t1⟩
  have HMK2Number : Hid (MkdNumber eNumber2 XNumber2) := m1
  have HS2 : Hid (ApNDR B w w4 b cnt F eNumber2 XNumber2 eNode XNode1 eNumberRow XNumberRow1) := by
    have hs := unhide HS
    exact ⟨t1.blk hs.blk (by decide), hs.hB, hs.bel.trans t1.bel, hs.nil, h1, by rw [l1]; exact hs.lNumber, c1, hs.kNode.tf t1 (by decide) (by decide), hs.lNode, hs.cNode, hs.kNumberRow.tf t1 (by decide) (by decide), hs.lNumberRow, hs.cNumberRow⟩
  have HC2 := hide (unhide HS2).cell
  clear h1 m1 t1 l1 c1 HS HC
  have HS := HS2
  have HC := HC2
  clear HS2 HC2
  go_wp2_with fail
  refine (growWide_nil b w4 (unhide HC 3 (by decide) (by decide) (by decide) (by decide) (by decide))).mono ?_
  rintro e w4 ⟨rfl, rfl⟩
  go_wp2_with fail
  refine (growText_nil b w4 (unhide HC 4 (by decide) (by decide) (by decide) (by decide) (by decide))).mono ?_
  rintro e w4 ⟨rfl, rfl⟩
  go_wp2_with fail
  refine (growTerm_nil b w4 (unhide HC 5 (by decide) (by decide) (by decide) (by decide) (by decide))).mono ?_
  rintro e w4 ⟨rfl, rfl⟩
  go_wp2_with fail
  refine (growSeal_nil b w4 (unhide HC 6 (by decide) (by decide) (by decide) (by decide) (by decide))).mono ?_
  rintro e w4 ⟨rfl, rfl⟩
  go_wp2_with fail
  refine (growKey_nil b w4 (unhide HC 7 (by decide) (by decide) (by decide) (by decide) (by decide))).mono ?_
  rintro e w4 ⟨rfl, rfl⟩
  go_wp2_with fail
  refine (growAdd_nil b w4 (unhide HC 8 (by decide) (by decide) (by decide) (by decide) (by decide))).mono ?_
  rintro e w4 ⟨rfl, rfl⟩
  go_wp2_with fail
  refine (growJoin_nil b w4 (unhide HC 9 (by decide) (by decide) (by decide) (by decide) (by decide))).mono ?_
  rintro e w4 ⟨rfl, rfl⟩
  go_wp2_with fail
  refine (growPast_nil b w4 (unhide HC 10 (by decide) (by decide) (by decide) (by decide) (by decide))).mono ?_
  rintro e w4 ⟨rfl, rfl⟩
  go_wp2_with fail
  refine (growCard_nil b w4 (unhide HC 11 (by decide) (by decide) (by decide) (by decide) (by decide))).mono ?_
  rintro e w4 ⟨rfl, rfl⟩
  go_wp2_with fail
  refine (growGot_nil b w4 (unhide HC 12 (by decide) (by decide) (by decide) (by decide) (by decide))).mono ?_
  rintro e w4 ⟨rfl, rfl⟩
  go_wp2_with fail
  refine (growNote_nil b w4 (unhide HC 13 (by decide) (by decide) (by decide) (by decide) (by decide))).mono ?_
  rintro e w4 ⟨rfl, rfl⟩
  go_wp2_with fail
  refine (growAnswer_nil b w4 (unhide HC 14 (by decide) (by decide) (by decide) (by decide) (by decide))).mono ?_
  rintro e w4 ⟨rfl, rfl⟩
  go_wp2_with fail
  refine (growOutcome_nil b w4 (unhide HC 15 (by decide) (by decide) (by decide) (by decide) (by decide))).mono ?_
  rintro e w4 ⟨rfl, rfl⟩
  go_wp2_with fail
  refine (growFinding_nil b w4 (unhide HC 16 (by decide) (by decide) (by decide) (by decide) (by decide))).mono ?_
  rintro e w4 ⟨rfl, rfl⟩
  go_wp2_with fail
  refine (growStep_nil b w4 (unhide HC 17 (by decide) (by decide) (by decide) (by decide) (by decide))).mono ?_
  rintro e w4 ⟨rfl, rfl⟩
  go_wp2_with fail
  refine (growWrite_nil b w4 (unhide HC 18 (by decide) (by decide) (by decide) (by decide) (by decide))).mono ?_
  rintro e w4 ⟨rfl, rfl⟩
  go_wp2_with fail
  refine (growNode_b B b cnt F eNode XNode1 w4 (unhide HS).blk (unhide HS).kNode (unhide HS).size (unhide HS).lNode (fun x hx => ⟨((unhide HS).cNode x hx).1, unhide HMNode x hx⟩) (unhide HMKNode)).mono ?_
  rintro e w5 ⟨rfl, ⟨eNode2, XNode2, h1, l1, c1, m1⟩, t1⟩
  have HMK2Node : Hid (MkdNode eNode2 XNode2) := m1
  have HS2 : Hid (ApNDR B w w5 b cnt F eNumber2 XNumber2 eNode2 XNode2 eNumberRow XNumberRow1) := by
    have hs := unhide HS
    exact ⟨t1.blk hs.blk (by decide), hs.hB, hs.bel.trans t1.bel, hs.nil, hs.kNumber.tf t1 (by decide) (by decide), hs.lNumber, hs.cNumber, h1, by rw [l1]; exact hs.lNode, c1, hs.kNumberRow.tf t1 (by decide) (by decide), hs.lNumberRow, hs.cNumberRow⟩
  have HC2 := hide (unhide HS2).cell
  clear h1 m1 t1 l1 c1 HS HC
  have HS := HS2
  have HC := HC2
  clear HS2 HC2
  go_wp2_with fail
  refine (growTree_nil b w5 (unhide HC 20 (by decide) (by decide) (by decide) (by decide) (by decide))).mono ?_
  rintro e w5 ⟨rfl, rfl⟩
  go_wp2_with fail
  refine (growCommit_nil b w5 (unhide HC 21 (by decide) (by decide) (by decide) (by decide) (by decide))).mono ?_
  rintro e w5 ⟨rfl, rfl⟩
  go_wp2_with fail
  refine (growState_nil b w5 (unhide HC 22 (by decide) (by decide) (by decide) (by decide) (by decide))).mono ?_
  rintro e w5 ⟨rfl, rfl⟩
  go_wp2_with fail
  refine (growFace_nil b w5 (unhide HC 23 (by decide) (by decide) (by decide) (by decide) (by decide))).mono ?_
  rintro e w5 ⟨rfl, rfl⟩
  go_wp2_with fail
  refine (growRequest_nil b w5 (unhide HC 24 (by decide) (by decide) (by decide) (by decide) (by decide))).mono ?_
  rintro e w5 ⟨rfl, rfl⟩
  go_wp2_with fail
  refine (growMail_nil b w5 (unhide HC 25 (by decide) (by decide) (by decide) (by decide) (by decide))).mono ?_
  rintro e w5 ⟨rfl, rfl⟩
  go_wp2_with fail
  refine (growPending_nil b w5 (unhide HC 26 (by decide) (by decide) (by decide) (by decide) (by decide))).mono ?_
  rintro e w5 ⟨rfl, rfl⟩
  go_wp2_with fail
  refine (growFeed_nil b w5 (unhide HC 27 (by decide) (by decide) (by decide) (by decide) (by decide))).mono ?_
  rintro e w5 ⟨rfl, rfl⟩
  go_wp2_with fail
  refine (growLog_nil b w5 (unhide HC 28 (by decide) (by decide) (by decide) (by decide) (by decide))).mono ?_
  rintro e w5 ⟨rfl, rfl⟩
  go_wp2_with fail
  refine (growBox_nil b w5 (unhide HC 29 (by decide) (by decide) (by decide) (by decide) (by decide))).mono ?_
  rintro e w5 ⟨rfl, rfl⟩
  go_wp2_with fail
  refine (growEarly_nil b w5 (unhide HC 30 (by decide) (by decide) (by decide) (by decide) (by decide))).mono ?_
  rintro e w5 ⟨rfl, rfl⟩
  go_wp2_with fail
  refine (growLink_nil b w5 (unhide HC 31 (by decide) (by decide) (by decide) (by decide) (by decide))).mono ?_
  rintro e w5 ⟨rfl, rfl⟩
  go_wp2_with fail
  refine (growPacket_nil b w5 (unhide HC 32 (by decide) (by decide) (by decide) (by decide) (by decide))).mono ?_
  rintro e w5 ⟨rfl, rfl⟩
  go_wp2_with fail
  refine (growTermRow_nil b w5 (unhide HC 33 (by decide) (by decide) (by decide) (by decide) (by decide))).mono ?_
  rintro e w5 ⟨rfl, rfl⟩
  go_wp2_with fail
  refine (growNumberRow_b B b cnt F eNumberRow XNumberRow1 w5 (unhide HS).blk (unhide HS).kNumberRow (unhide HS).size (unhide HS).lNumberRow (fun x hx => ⟨((unhide HS).cNumberRow x hx).1, unhide HMNumberRow x hx⟩) (unhide HMKNumberRow)).mono ?_
  rintro e w6 ⟨rfl, ⟨eNumberRow2, XNumberRow2, h1, l1, c1, m1⟩, t1⟩
  have HMK2NumberRow : Hid (MkdNumberRow eNumberRow2 XNumberRow2) := m1
  have HS2 : Hid (ApNDR B w w6 b cnt F eNumber2 XNumber2 eNode2 XNode2 eNumberRow2 XNumberRow2) := by
    have hs := unhide HS
    exact ⟨t1.blk hs.blk (by decide), hs.hB, hs.bel.trans t1.bel, hs.nil, hs.kNumber.tf t1 (by decide) (by decide), hs.lNumber, hs.cNumber, hs.kNode.tf t1 (by decide) (by decide), hs.lNode, hs.cNode, h1, by rw [l1]; exact hs.lNumberRow, c1⟩
  have HC2 := hide (unhide HS2).cell
  clear h1 m1 t1 l1 c1 HS HC
  have HS := HS2
  have HC := HC2
  clear HS2 HC2
  have KB := hide (fun k => bits_nilB b k w6 (unhide HC 1 (by decide) (by decide) (by decide) (by decide) (by decide)))
  go_wp2_with fail
  go_loopw [3] (fun kv wq => ∃ k : Nat, kv = .int .u64 k ∧ k ≤ 8 ∧ wq = w6) (fun kv _ => (8 - intOf kv).toNat)
  case atStart => exact ⟨0, rfl, by omega, rfl⟩
  case round =>
    obtain ⟨k, rfl, hk, rfl⟩ := hrel
    by_cases hk8 : k < 8
    · go_wp2_with fail
      refine (unhide KB _).mono ?_
      rintro e w5 ⟨rfl, rfl⟩
      go_wp2_with fail
      go_roundw
      case rel => exact ⟨k + 1, by go_num, by omega, by first | rfl | trivial⟩
      case measure => simp only [intOf]; omega
    · have hke : k = 8 := by omega
      subst hke
      clear KB
      go_wp2_with fail
      refine (lookNumber_b B b cnt F eNumber2 XNumber2 _ (unhide HS).blk (unhide HS).kNumber (unhide HS).lNumber (unhide HS).cNumber (unhide HMK2Number)).mono ?_
      rintro e w7 ⟨rfl, t1⟩
      have HS2 : Hid (ApNDR B w w7 b cnt F eNumber2 XNumber2 eNode2 XNode2 eNumberRow2 XNumberRow2) := by
        have hs := unhide HS
        exact ⟨by rw [t1.block b (lt_of_blk hs.blk)]; exact hs.blk, hs.hB, hs.bel.trans (bw_mono t1 hs.size), hs.nil, hs.kNumber.bw t1, hs.lNumber, hs.cNumber, hs.kNode.bw t1, hs.lNode, hs.cNode, hs.kNumberRow.bw t1, hs.lNumberRow, hs.cNumberRow⟩
      have HC2 := hide (unhide HS2).cell
      clear t1 HS HC
      have HS := HS2
      have HC := HC2
      clear HS2 HC2
      go_wp2_with fail
      refine (lookWide_nil b w7 (unhide HC 3 (by decide) (by decide) (by decide) (by decide) (by decide))).mono ?_
      rintro e w7 ⟨rfl, rfl⟩
      go_wp2_with fail
      refine (lookText_nil b w7 (unhide HC 4 (by decide) (by decide) (by decide) (by decide) (by decide))).mono ?_
      rintro e w7 ⟨rfl, rfl⟩
      go_wp2_with fail
      refine (lookTerm_nil b w7 (unhide HC 5 (by decide) (by decide) (by decide) (by decide) (by decide))).mono ?_
      rintro e w7 ⟨rfl, rfl⟩
      go_wp2_with fail
      refine (lookSeal_nil b w7 (unhide HC 6 (by decide) (by decide) (by decide) (by decide) (by decide))).mono ?_
      rintro e w7 ⟨rfl, rfl⟩
      go_wp2_with fail
      refine (lookKey_nil b w7 (unhide HC 7 (by decide) (by decide) (by decide) (by decide) (by decide))).mono ?_
      rintro e w7 ⟨rfl, rfl⟩
      go_wp2_with fail
      refine (lookAdd_nil b w7 (unhide HC 8 (by decide) (by decide) (by decide) (by decide) (by decide))).mono ?_
      rintro e w7 ⟨rfl, rfl⟩
      go_wp2_with fail
      refine (lookJoin_nil b w7 (unhide HC 9 (by decide) (by decide) (by decide) (by decide) (by decide))).mono ?_
      rintro e w7 ⟨rfl, rfl⟩
      go_wp2_with fail
      refine (lookPast_nil b w7 (unhide HC 10 (by decide) (by decide) (by decide) (by decide) (by decide))).mono ?_
      rintro e w7 ⟨rfl, rfl⟩
      go_wp2_with fail
      refine (lookCard_nil b w7 (unhide HC 11 (by decide) (by decide) (by decide) (by decide) (by decide))).mono ?_
      rintro e w7 ⟨rfl, rfl⟩
      go_wp2_with fail
      refine (lookGot_nil b w7 (unhide HC 12 (by decide) (by decide) (by decide) (by decide) (by decide))).mono ?_
      rintro e w7 ⟨rfl, rfl⟩
      go_wp2_with fail
      refine (lookNote_nil b w7 (unhide HC 13 (by decide) (by decide) (by decide) (by decide) (by decide))).mono ?_
      rintro e w7 ⟨rfl, rfl⟩
      go_wp2_with fail
      refine (lookAnswer_nil b w7 (unhide HC 14 (by decide) (by decide) (by decide) (by decide) (by decide))).mono ?_
      rintro e w7 ⟨rfl, rfl⟩
      go_wp2_with fail
      refine (lookOutcome_nil b w7 (unhide HC 15 (by decide) (by decide) (by decide) (by decide) (by decide))).mono ?_
      rintro e w7 ⟨rfl, rfl⟩
      go_wp2_with fail
      refine (lookFinding_nil b w7 (unhide HC 16 (by decide) (by decide) (by decide) (by decide) (by decide))).mono ?_
      rintro e w7 ⟨rfl, rfl⟩
      go_wp2_with fail
      refine (lookStep_nil b w7 (unhide HC 17 (by decide) (by decide) (by decide) (by decide) (by decide))).mono ?_
      rintro e w7 ⟨rfl, rfl⟩
      go_wp2_with fail
      refine (lookWrite_nil b w7 (unhide HC 18 (by decide) (by decide) (by decide) (by decide) (by decide))).mono ?_
      rintro e w7 ⟨rfl, rfl⟩
      go_wp2_with fail
      refine (lookNode_b B b cnt F eNode2 XNode2 _ (unhide HS).blk (unhide HS).kNode (unhide HS).lNode (unhide HS).cNode (unhide HMK2Node)).mono ?_
      rintro e w8 ⟨rfl, t1⟩
      have HS2 : Hid (ApNDR B w w8 b cnt F eNumber2 XNumber2 eNode2 XNode2 eNumberRow2 XNumberRow2) := by
        have hs := unhide HS
        exact ⟨by rw [t1.block b (lt_of_blk hs.blk)]; exact hs.blk, hs.hB, hs.bel.trans (bw_mono t1 hs.size), hs.nil, hs.kNumber.bw t1, hs.lNumber, hs.cNumber, hs.kNode.bw t1, hs.lNode, hs.cNode, hs.kNumberRow.bw t1, hs.lNumberRow, hs.cNumberRow⟩
      have HC2 := hide (unhide HS2).cell
      clear t1 HS HC
      have HS := HS2
      have HC := HC2
      clear HS2 HC2
      go_wp2_with fail
      refine (lookTree_nil b w8 (unhide HC 20 (by decide) (by decide) (by decide) (by decide) (by decide))).mono ?_
      rintro e w8 ⟨rfl, rfl⟩
      go_wp2_with fail
      refine (lookCommit_nil b w8 (unhide HC 21 (by decide) (by decide) (by decide) (by decide) (by decide))).mono ?_
      rintro e w8 ⟨rfl, rfl⟩
      go_wp2_with fail
      refine (lookState_nil b w8 (unhide HC 22 (by decide) (by decide) (by decide) (by decide) (by decide))).mono ?_
      rintro e w8 ⟨rfl, rfl⟩
      go_wp2_with fail
      refine (lookFace_nil b w8 (unhide HC 23 (by decide) (by decide) (by decide) (by decide) (by decide))).mono ?_
      rintro e w8 ⟨rfl, rfl⟩
      go_wp2_with fail
      refine (lookRequest_nil b w8 (unhide HC 24 (by decide) (by decide) (by decide) (by decide) (by decide))).mono ?_
      rintro e w8 ⟨rfl, rfl⟩
      go_wp2_with fail
      refine (lookMail_nil b w8 (unhide HC 25 (by decide) (by decide) (by decide) (by decide) (by decide))).mono ?_
      rintro e w8 ⟨rfl, rfl⟩
      go_wp2_with fail
      refine (lookPending_nil b w8 (unhide HC 26 (by decide) (by decide) (by decide) (by decide) (by decide))).mono ?_
      rintro e w8 ⟨rfl, rfl⟩
      go_wp2_with fail
      refine (lookFeed_nil b w8 (unhide HC 27 (by decide) (by decide) (by decide) (by decide) (by decide))).mono ?_
      rintro e w8 ⟨rfl, rfl⟩
      go_wp2_with fail
      refine (lookLog_nil b w8 (unhide HC 28 (by decide) (by decide) (by decide) (by decide) (by decide))).mono ?_
      rintro e w8 ⟨rfl, rfl⟩
      go_wp2_with fail
      refine (lookBox_nil b w8 (unhide HC 29 (by decide) (by decide) (by decide) (by decide) (by decide))).mono ?_
      rintro e w8 ⟨rfl, rfl⟩
      go_wp2_with fail
      refine (lookEarly_nil b w8 (unhide HC 30 (by decide) (by decide) (by decide) (by decide) (by decide))).mono ?_
      rintro e w8 ⟨rfl, rfl⟩
      go_wp2_with fail
      refine (lookLink_nil b w8 (unhide HC 31 (by decide) (by decide) (by decide) (by decide) (by decide))).mono ?_
      rintro e w8 ⟨rfl, rfl⟩
      go_wp2_with fail
      refine (lookPacket_nil b w8 (unhide HC 32 (by decide) (by decide) (by decide) (by decide) (by decide))).mono ?_
      rintro e w8 ⟨rfl, rfl⟩
      go_wp2_with fail
      refine (lookTermRow_nil b w8 (unhide HC 33 (by decide) (by decide) (by decide) (by decide) (by decide))).mono ?_
      rintro e w8 ⟨rfl, rfl⟩
      go_wp2_with fail
      refine (lookNumberRow_b B b cnt F eNumberRow2 XNumberRow2 _ (unhide HS).blk (unhide HS).kNumberRow (unhide HS).lNumberRow (unhide HS).cNumberRow (unhide HMK2NumberRow)).mono ?_
      rintro e w9 ⟨rfl, t1⟩
      have HS2 : Hid (ApNDR B w w9 b cnt F eNumber2 XNumber2 eNode2 XNode2 eNumberRow2 XNumberRow2) := by
        have hs := unhide HS
        exact ⟨by rw [t1.block b (lt_of_blk hs.blk)]; exact hs.blk, hs.hB, hs.bel.trans (bw_mono t1 hs.size), hs.nil, hs.kNumber.bw t1, hs.lNumber, hs.cNumber, hs.kNode.bw t1, hs.lNode, hs.cNode, hs.kNumberRow.bw t1, hs.lNumberRow, hs.cNumberRow⟩
      have HC2 := hide (unhide HS2).cell
      clear t1 HS HC
      have HS := HS2
      have HC := HC2
      clear HS2 HC2
      go_wp2
      go_ret
      exact ⟨rfl, (unhide HS).bel⟩
end Go.Proofs.YtaanacnloljlmaaGreatDoor

/- Rows of a Book, and Apart behind it. -/
namespace Go.Proofs.YtaanacnloljlmaaGreatDoor
open Go.RowKit Go.Maps

theorem RR.tf {ts : List TypeId} {B B' : Nat} {w w' : World} {v : Value} {ls : List (List Int)} {us : List Value} (h : RR B w v ls us) (ht : Tf ts B' w w') (h1 : 31 ∉ ts) (h2 : 3 ∉ ts) : RR B w' v ls us :=
  ⟨h.ul, ht.own h.row h1, fun i l u hl hu => ht.own (h.un i l u hl hu) h2, h.apart⟩
set_option maxRecDepth 100000 in
set_option maxHeartbeats 4000000 in
theorem brows_b (B b n H H2 : Nat) (F : Nat → Value) (eN eD : List Ent) (XN XD : Nat → List Value) (v : Value) (ls : List (List Int)) (us : List Value) (w : World) (h : Bo B w b n H F eN eD XN XD) (hB : B ≤ w.heap.size) (hBH : B ≤ H) (hr : RR H w v ls us) (hH2 : H ≤ H2) (hltu : ∀ (i : Nat) (u : Value) (k : Nat), us[i]? = some u → u.ownBlock = some k → k < H2)
    (hn : n + ls.length + 1 ≤ 1048576) (hl : ∀ l ∈ ls, l.length ≤ 1048576) :
    Calls Tryz.prog 30 #[.pointer (some ⟨b, 0, none⟩), v] w fun e w' => e = .returned (.tuple #[]) ∧ (∃ F' eN' XN' eR XR, ApNDR B w' w' b ((n + ls.length + 1 : Nat) : Int) F' eN' XN' eD XD eR XR ∧ (∀ x ∈ eN', x.m ≤ 1048576) ∧ (∀ x ∈ eD, x.m ≤ 1048576) ∧ (∀ x ∈ eR, x.m ≤ 1048576)) ∧ Below B w w' := by
  obtain ⟨a, c, rfl⟩ := own_slice hr.row
  have HI : Hid (∀ i, i < ls.length → ∃ g up l uc, a = some ⟨g, 0, none⟩ ∧ ls[i]? = some l ∧ us[i]? = some (.slice up l.length uc) ∧ ∀ w', Tf [70, 125] B w w' → w'.cell? ⟨g, i, none⟩ = some (.slice up l.length uc) ∧ Ints B w' (.slice up l.length uc) l) := fun i hi => by
    obtain ⟨g, cap', e, -⟩ := own_open hr.row (by omega)
    simp only [Value.slice.injEq] at e
    obtain ⟨u, hu'⟩ : ∃ u, us[i]? = some u := ⟨_, List.getElem?_eq_getElem (by rw [hr.ul]; exact hi)⟩
    obtain ⟨l, hl'⟩ : ∃ l, ls[i]? = some l := ⟨_, List.getElem?_eq_getElem hi⟩
    obtain ⟨up, uc, hue⟩ := own_slice (hr.un i l u hl' hu')
    subst hue
    refine ⟨g, up, l, uc, e.1, hl', hu', fun w' ht => ?_⟩
    have hr' := hr.tf ht (by decide) (by decide)
    exact ⟨own_cell hr'.row (by rw [e.1]; rfl) hu', (hr'.un i l _ hl' hu').mono hBH⟩
  have HAP : Hid (∀ i, i < ls.length → ∀ (e' : List Ent), (∀ y ∈ e', y ∈ eN ∨ ∃ j u, j < i ∧ us[j]? = some u ∧ y.v = u) → ∀ u, us[i]? = some u → (∀ (q : Nat) (y : Ent) (k : Nat), e'[q]? = some y → y.v.ownBlock = some k → u.ownBlock ≠ some k) ∧ ∀ k, u.ownBlock = some k → k < H2) := fun i hi e' he u hu' => by
    refine ⟨fun q y k hy hk hk2 => ?_, fun k hk => hltu i u k hu' hk⟩
    rcases he y (List.mem_of_getElem? hy) with c | ⟨j, u2, hj, hu2, e⟩
    · have h1 := (h.cN y c).2.2 k hk
      obtain ⟨l, hl'⟩ : ∃ l, ls[i]? = some l := ⟨_, List.getElem?_eq_getElem hi⟩
      have h2 := (World.ownsRow.lt (hr.un i l u hl' hu') k hk2).1
      omega
    · rw [e] at hk
      have := hr.apart j i u2 u k hu2 hu' hk hk2
      omega
  have HKN : Hid (∀ w' F' e' X', Bo B w' b (n + ls.length) H2 F' e' eD X' XD → Tf [70, 125] B w w' → Calls Tryz.prog 163 #[.pointer (some ⟨b, 0, none⟩), .slice a ls.length c] w' fun e w'' => e = .returned (.tuple #[]) ∧ (∃ F' eN' XN' eR XR, ApNDR B w'' w'' b ((n + ls.length + 1 : Nat) : Int) F' eN' XN' eD XD eR XR ∧ (∀ x ∈ eN', x.m ≤ 1048576) ∧ (∀ x ∈ eD, x.m ≤ 1048576) ∧ (∀ x ∈ eR, x.m ≤ 1048576)) ∧ Below B w w'') := fun w' F' e' X' hb ht => by
    have hk0 : Ke kdNumberRow B w' (F' 34) [] (fun _ => []) := by rw [hb.nil 34 (by decide) (by decide) (by decide) (by decide)]; exact Ke.nil _ _ _
    have hBw := Nat.le_trans hB ht.size
    refine (keepNumberRow_b B b (n + ls.length) F' [] (fun _ => []) a ls.length c w' hb.blk hk0 hb.low hBw (by simp) (by omega)).mono fun e w'' ⟨h1, lv', h2, h3, h4⟩ => ⟨h1, ?_, ht.bel.trans h4.bel⟩
    have hrow := (hr.tf ht (by decide) (by decide)).row
    have hsn := hk0.snoc (x := Ent.mk (.slice a ls.length c) (n + ls.length) ls.length) (xs := us) (T := 70) h4 (by decide) (by decide) h3 (own_mono hrow hBH) (fun i y k hy => by simp at hy)
    refine ⟨updF F' 34 lv', e', X', _, _, ⟨h2, Nat.le_trans hBw h4.size, Below.refl _ _, fun k k0 k35 k2 k19 k34 => ?_, ?_, ?_, ?_, ?_, ?_, ?_, hsn, ?_, ?_⟩, fun x hx => (hb.cN x hx).2.1, fun x hx => (hb.cD x hx).2.1, fun x hx => ?_⟩
    · have := hb.nil k k0 k35 k2 k19
      simpa [updF, k34] using this
    · exact hb.N.tf h4 (by decide) (by decide)
    · have := hb.lN; omega
    · intro x hx; have := hb.cN x hx; exact ⟨by omega, by omega⟩
    · exact hb.D.tf h4 (by decide) (by decide)
    · have := hb.lD; omega
    · intro x hx; have := hb.cD x hx; exact ⟨by omega, by omega⟩
    · simp
    · intro x hx; simp at hx; subst hx; exact ⟨by simp; omega, by simp; omega⟩
    · simp at hx; subst hx; simp; omega
  have HS : Hid (Bo B w b n H2 F eN eD XN XD) := h.up hH2
  have HUL : Hid (∀ (i : Nat) (l : List Int), ls[i]? = some l → l.length ≤ 1048576) := fun i l hi => hl l (List.mem_of_getElem? hi)
  have HBw := hide hB
  have hnI : ((n : Nat) : Int) + ((ls.length : Nat) : Int) + 1 ≤ 1048576 := by omega
  have HNn := hide hn
  clear h hB hBH hr hH2 hltu hn hl
  obtain ⟨N, hN⟩ : ∃ N, N = ls.length := ⟨_, rfl⟩
  rw [← hN] at HI HAP HKN hnI HNn ⊢
  clear hN
  go_enter Tryz.func30, Tryz.ntmps30
  go_wp2_with fail
  go_loopw [7] (fun iv wr => ∃ i : Nat, iv = .int .i64 (i : Int) ∧ i ≤ N ∧ Hid (∃ F' e' X', Bo B wr b (n + i) H2 F' e' eD X' XD ∧ (∀ y ∈ e', y ∈ eN ∨ ∃ j u, j < i ∧ us[j]? = some u ∧ y.v = u) ∧ Tf [70, 125] B w wr)) (fun iv _ => (N - intOf iv).toNat)
  case atStart => exact ⟨0, rfl, by omega, ⟨F, eN, XN, unhide HS, fun y hy => Or.inl hy, Tf.refl _ _ _⟩⟩
  case round =>
    clear HS
    obtain ⟨i, rfl, hi, hst⟩ := hrel
    by_cases hin : i < N
    · obtain ⟨F', e', X', hbo, hmem, htf⟩ := unhide hst
      obtain ⟨g, up, l, uc, rfl, hli, hui, hc⟩ := unhide HI i hin
      obtain ⟨c0, hI⟩ := hc wr htf
      have hap := unhide HAP i hin e' hmem _ hui
      have hulb := unhide HUL i l hli
      have hnn := unhide HNn
      have K := numbers_b B b (n + i) H2 F' e' eD X' XD up l uc wr hbo (Nat.le_trans (unhide HBw) htf.size) (by omega) hulb hI hap.2 hap.1
      have HK := hide K
      have HZ : Hid (∀ w', Tf [70, 125] B wr w' → (∃ F'' X'', Bo B w' b (n + i + 1) H2 F'' (e' ++ [Ent.mk (.slice up l.length uc) (n + i) l.length]) eD X'' XD) → ∃ F' e' X', Bo B w' b (n + (i + 1)) H2 F' e' eD X' XD ∧ (∀ y ∈ e', y ∈ eN ∨ ∃ j u, j < i + 1 ∧ us[j]? = some u ∧ y.v = u) ∧ Tf [70, 125] B w w') := fun w' ht2 ⟨F'', X'', hb2⟩ => by
        refine ⟨F'', _, X'', hb2, fun y hy => ?_, htf.trans ht2⟩
        rcases List.mem_append.1 hy with q | q
        · rcases hmem y q with c | ⟨j, u, hj, hu1, hu2⟩
          · exact Or.inl c
          · exact Or.inr ⟨j, u, by omega, hu1, hu2⟩
        · simp at q; subst q; exact Or.inr ⟨i, _, by omega, hui, rfl⟩
      have q1 : (i : Int) < (N : Int) := by omega
      have q0 : (0 : Int) ≤ (i : Int) := by omega
      clear hbo hmem htf hui hc hI hap hulb hnn K hst hli
      generalize l.length = ul at *
      go_wp2_with fail
      refine (unhide HK).mono ?_
      rintro e w2 ⟨rfl, h1, h2⟩
      have HX := hide (unhide HZ w2 h2 h1)
      clear h1 h2 HK HZ c0
      go_wp2_with fail
      go_roundw
      case rel => exact ⟨i + 1, by go_num, by omega, HX⟩
      case measure => simp only [intOf]; omega
    · obtain rfl : i = N := by omega
      obtain ⟨F', e', X', hbo, -, htf⟩ := unhide hst
      have K := hide (unhide HKN wr F' e' X' hbo htf)
      clear hbo htf hst
      go_wp2_with fail
      refine (unhide K).mono ?_
      rintro e w2 ⟨rfl, h1, h2⟩
      have HX := hide (And.intro h1 h2)
      clear h1 h2
      go_wp2
      go_end0
      exact ⟨rfl, unhide HX⟩
end Go.Proofs.YtaanacnloljlmaaGreatDoor
