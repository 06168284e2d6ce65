/- Apart of a Book of these kinds: Number, Seal, Add, Join, Node, Commit, Log. mkBgP.py writes it. -/
import Derived.Test.YtnfhbmlmemifjaaGreatDoorZ13
import Derived.Test.YtnfhbmlmemifjaaGreatDoorZ16
import Derived.Test.YtnfhbmlmemifjaaGreatDoorZ18
import Derived.Test.YtnfhbmlmemifjaaGreatDoorZ08
import Derived.Test.YtnfhbmlmemifjaaGreatDoorBgNil
namespace Go.Proofs.YtnfhbmlmemifjaaGreatDoor
open Go.RowKit Go.Maps
def ksLg : KS := ⟨[(2, kdNumber), (6, kgSeal.k), (8, kgAdd.k), (9, kgJoin.k), (19, kdNode), (21, kgCommit.k), (28, kgLog.k)], by decide⟩
def mkLg (i : Nat) : List Ent → (Nat → List Value) → Prop := if i = 2 then MkdNumber else if i = 6 then kgSeal.Mkd else if i = 8 then kgAdd.Mkd else if i = 9 then kgJoin.Mkd else if i = 19 then MkdNode else if i = 21 then kgCommit.Mkd else if i = 28 then kgLog.Mkd else fun _ _ => True
set_option maxRecDepth 100000 in
set_option maxHeartbeats 20000000 in
theorem apartLg_b (B b n H : Nat) (d : List Pc) (w : World) (h : BK ksLg B w b n H d) (hB : B ≤ w.heap.size) (hn : n ≤ 1150000) :
    Calls Tryz.prog 24 #[.pointer (some ⟨b, 0, none⟩)] w fun e w' => e = .returned (.bool true) ∧ Below B w w' := by
  obtain ⟨F, E, X, h0⟩ := h.ap (M := mkLg) hB hn
  obtain ⟨cnt, hcnt⟩ : ∃ c, c = (n : Int) := ⟨_, rfl⟩
  rw [← hcnt] at h0
  have HS : Hid (∃ E X, Ap ksLg mkLg B w w b cnt F E X [] []) := ⟨E, X, h0⟩
  clear h h0 hcnt hB hn E X
  go_enter Tryz.func24, Tryz.ntmps24
  go_wp2_with fail
  obtain ⟨E, X, hs⟩ := unhide HS
  have KC := hide (fillNumber_b B b cnt F _ _ w hs.blk (hs.ke 2 _ rfl) hs.size (hs.len 2) (hs.cc 2 (by decide)))
  have HQ := hide hs
  clear HS hs
  refine (unhide KC).mono ?_
  rintro e w1 ⟨rfl, ⟨X', h1, m1⟩, t1⟩
  have HS : Hid (∃ E X, Ap ksLg mkLg B w w1 b cnt F E X [2] []) := (unhide HQ).fill (i := 2) rfl h1 m1 t1
  clear KC HQ h1 m1 t1
  clear E X X'
  go_wp2_with fail
  refine (fillWide_nil b w1 (Ap.cell (unhide HS) 3 (by decide) (by decide) rfl)).mono ?_
  rintro e w1 ⟨rfl, rfl⟩
  go_wp2_with fail
  refine (fillText_nil b w1 (Ap.cell (unhide HS) 4 (by decide) (by decide) rfl)).mono ?_
  rintro e w1 ⟨rfl, rfl⟩
  go_wp2_with fail
  refine (fillTerm_nil b w1 (Ap.cell (unhide HS) 5 (by decide) (by decide) rfl)).mono ?_
  rintro e w1 ⟨rfl, rfl⟩
  go_wp2_with fail
  obtain ⟨E, X, hs⟩ := unhide HS
  have KC := hide (fillSeal_b B b cnt F _ _ w1 hs.blk (hs.ke 6 _ rfl) hs.size (hs.len 6) (hs.cc 6 (by decide)))
  have HQ := hide hs
  clear HS hs
  refine (unhide KC).mono ?_
  rintro e w2 ⟨rfl, ⟨X', h1, m1⟩, t1⟩
  have HS : Hid (∃ E X, Ap ksLg mkLg B w w2 b cnt F E X [6, 2] []) := (unhide HQ).fill (i := 6) rfl h1 m1 t1
  clear KC HQ h1 m1 t1
  clear E X X'
  go_wp2_with fail
  refine (fillKey_nil b w2 (Ap.cell (unhide HS) 7 (by decide) (by decide) rfl)).mono ?_
  rintro e w2 ⟨rfl, rfl⟩
  go_wp2_with fail
  obtain ⟨E, X, hs⟩ := unhide HS
  have KC := hide (fillAdd_b B b cnt F _ _ w2 hs.blk (hs.ke 8 _ rfl) hs.size (hs.len 8) (hs.cc 8 (by decide)))
  have HQ := hide hs
  clear HS hs
  refine (unhide KC).mono ?_
  rintro e w3 ⟨rfl, ⟨X', h1, m1⟩, t1⟩
  have HS : Hid (∃ E X, Ap ksLg mkLg B w w3 b cnt F E X [8, 6, 2] []) := (unhide HQ).fill (i := 8) rfl h1 m1 t1
  clear KC HQ h1 m1 t1
  clear E X X'
  go_wp2_with fail
  obtain ⟨E, X, hs⟩ := unhide HS
  have KC := hide (fillJoin_b B b cnt F _ _ w3 hs.blk (hs.ke 9 _ rfl) hs.size (hs.len 9) (hs.cc 9 (by decide)))
  have HQ := hide hs
  clear HS hs
  refine (unhide KC).mono ?_
  rintro e w4 ⟨rfl, ⟨X', h1, m1⟩, t1⟩
  have HS : Hid (∃ E X, Ap ksLg mkLg B w w4 b cnt F E X [9, 8, 6, 2] []) := (unhide HQ).fill (i := 9) rfl h1 m1 t1
  clear KC HQ h1 m1 t1
  clear E X X'
  go_wp2_with fail
  refine (fillPast_nil b w4 (Ap.cell (unhide HS) 10 (by decide) (by decide) rfl)).mono ?_
  rintro e w4 ⟨rfl, rfl⟩
  go_wp2_with fail
  refine (fillCard_nil b w4 (Ap.cell (unhide HS) 11 (by decide) (by decide) rfl)).mono ?_
  rintro e w4 ⟨rfl, rfl⟩
  go_wp2_with fail
  refine (fillGot_nil b w4 (Ap.cell (unhide HS) 12 (by decide) (by decide) rfl)).mono ?_
  rintro e w4 ⟨rfl, rfl⟩
  go_wp2_with fail
  refine (fillNote_nil b w4 (Ap.cell (unhide HS) 13 (by decide) (by decide) rfl)).mono ?_
  rintro e w4 ⟨rfl, rfl⟩
  go_wp2_with fail
  refine (fillAnswer_nil b w4 (Ap.cell (unhide HS) 14 (by decide) (by decide) rfl)).mono ?_
  rintro e w4 ⟨rfl, rfl⟩
  go_wp2_with fail
  refine (fillOutcome_nil b w4 (Ap.cell (unhide HS) 15 (by decide) (by decide) rfl)).mono ?_
  rintro e w4 ⟨rfl, rfl⟩
  go_wp2_with fail
  refine (fillFinding_nil b w4 (Ap.cell (unhide HS) 16 (by decide) (by decide) rfl)).mono ?_
  rintro e w4 ⟨rfl, rfl⟩
  go_wp2_with fail
  refine (fillStep_nil b w4 (Ap.cell (unhide HS) 17 (by decide) (by decide) rfl)).mono ?_
  rintro e w4 ⟨rfl, rfl⟩
  go_wp2_with fail
  refine (fillWrite_nil b w4 (Ap.cell (unhide HS) 18 (by decide) (by decide) rfl)).mono ?_
  rintro e w4 ⟨rfl, rfl⟩
  go_wp2_with fail
  obtain ⟨E, X, hs⟩ := unhide HS
  have KC := hide (fillNode_b B b cnt F _ _ w4 hs.blk (hs.ke 19 _ rfl) hs.size (hs.len 19) (hs.cc 19 (by decide)))
  have HQ := hide hs
  clear HS hs
  refine (unhide KC).mono ?_
  rintro e w5 ⟨rfl, ⟨X', h1, m1⟩, t1⟩
  have HS : Hid (∃ E X, Ap ksLg mkLg B w w5 b cnt F E X [19, 9, 8, 6, 2] []) := (unhide HQ).fill (i := 19) rfl h1 m1 t1
  clear KC HQ h1 m1 t1
  clear E X X'
  go_wp2_with fail
  refine (fillTree_nil b w5 (Ap.cell (unhide HS) 20 (by decide) (by decide) rfl)).mono ?_
  rintro e w5 ⟨rfl, rfl⟩
  go_wp2_with fail
  obtain ⟨E, X, hs⟩ := unhide HS
  have KC := hide (fillCommit_b B b cnt F _ _ w5 hs.blk (hs.ke 21 _ rfl) hs.size (hs.len 21) (hs.cc 21 (by decide)))
  have HQ := hide hs
  clear HS hs
  refine (unhide KC).mono ?_
  rintro e w6 ⟨rfl, ⟨X', h1, m1⟩, t1⟩
  have HS : Hid (∃ E X, Ap ksLg mkLg B w w6 b cnt F E X [21, 19, 9, 8, 6, 2] []) := (unhide HQ).fill (i := 21) rfl h1 m1 t1
  clear KC HQ h1 m1 t1
  clear E X X'
  go_wp2_with fail
  refine (fillState_nil b w6 (Ap.cell (unhide HS) 22 (by decide) (by decide) rfl)).mono ?_
  rintro e w6 ⟨rfl, rfl⟩
  go_wp2_with fail
  refine (fillFace_nil b w6 (Ap.cell (unhide HS) 23 (by decide) (by decide) rfl)).mono ?_
  rintro e w6 ⟨rfl, rfl⟩
  go_wp2_with fail
  refine (fillRequest_nil b w6 (Ap.cell (unhide HS) 24 (by decide) (by decide) rfl)).mono ?_
  rintro e w6 ⟨rfl, rfl⟩
  go_wp2_with fail
  refine (fillMail_nil b w6 (Ap.cell (unhide HS) 25 (by decide) (by decide) rfl)).mono ?_
  rintro e w6 ⟨rfl, rfl⟩
  go_wp2_with fail
  refine (fillPending_nil b w6 (Ap.cell (unhide HS) 26 (by decide) (by decide) rfl)).mono ?_
  rintro e w6 ⟨rfl, rfl⟩
  go_wp2_with fail
  refine (fillFeed_nil b w6 (Ap.cell (unhide HS) 27 (by decide) (by decide) rfl)).mono ?_
  rintro e w6 ⟨rfl, rfl⟩
  go_wp2_with fail
  obtain ⟨E, X, hs⟩ := unhide HS
  have KC := hide (fillLog_b B b cnt F _ _ w6 hs.blk (hs.ke 28 _ rfl) hs.size (hs.len 28) (hs.cc 28 (by decide)))
  have HQ := hide hs
  clear HS hs
  refine (unhide KC).mono ?_
  rintro e w7 ⟨rfl, ⟨X', h1, m1⟩, t1⟩
  have HS : Hid (∃ E X, Ap ksLg mkLg B w w7 b cnt F E X [28, 21, 19, 9, 8, 6, 2] []) := (unhide HQ).fill (i := 28) rfl h1 m1 t1
  clear KC HQ h1 m1 t1
  clear E X X'
  go_wp2_with fail
  refine (fillBox_nil b w7 (Ap.cell (unhide HS) 29 (by decide) (by decide) rfl)).mono ?_
  rintro e w7 ⟨rfl, rfl⟩
  go_wp2_with fail
  refine (fillEarly_nil b w7 (Ap.cell (unhide HS) 30 (by decide) (by decide) rfl)).mono ?_
  rintro e w7 ⟨rfl, rfl⟩
  go_wp2_with fail
  refine (fillLink_nil b w7 (Ap.cell (unhide HS) 31 (by decide) (by decide) rfl)).mono ?_
  rintro e w7 ⟨rfl, rfl⟩
  go_wp2_with fail
  refine (fillPacket_nil b w7 (Ap.cell (unhide HS) 32 (by decide) (by decide) rfl)).mono ?_
  rintro e w7 ⟨rfl, rfl⟩
  go_wp2_with fail
  refine (fillTermRow_nil b w7 (Ap.cell (unhide HS) 33 (by decide) (by decide) rfl)).mono ?_
  rintro e w7 ⟨rfl, rfl⟩
  go_wp2_with fail
  refine (fillNumberRow_nil b w7 (Ap.cell (unhide HS) 34 (by decide) (by decide) rfl)).mono ?_
  rintro e w7 ⟨rfl, rfl⟩
  go_wp2_with fail
  obtain ⟨E, X, hs⟩ := unhide HS
  have KC := hide (growNumber_b B b cnt F _ _ w7 hs.blk (hs.ke 2 _ rfl) hs.size (hs.len 2) (hs.cc 2 (by decide)) (hs.mks 2 (by decide)))
  have HQ := hide hs
  clear HS hs
  refine (unhide KC).mono ?_
  rintro e w8 ⟨rfl, ⟨es', X', h1, l1, c1, m1⟩, t1⟩
  have HS : Hid (∃ E X, Ap ksLg mkLg B w w8 b cnt F E X [28, 21, 19, 9, 8, 6, 2] [2]) := (unhide HQ).grow (i := 2) rfl h1 l1 c1 m1 t1
  clear KC HQ h1 m1 t1 l1 c1
  clear E X es' X'
  go_wp2_with fail
  refine (growWide_nil b w8 (Ap.cell (unhide HS) 3 (by decide) (by decide) rfl)).mono ?_
  rintro e w8 ⟨rfl, rfl⟩
  go_wp2_with fail
  refine (growText_nil b w8 (Ap.cell (unhide HS) 4 (by decide) (by decide) rfl)).mono ?_
  rintro e w8 ⟨rfl, rfl⟩
  go_wp2_with fail
  refine (growTerm_nil b w8 (Ap.cell (unhide HS) 5 (by decide) (by decide) rfl)).mono ?_
  rintro e w8 ⟨rfl, rfl⟩
  go_wp2_with fail
  obtain ⟨E, X, hs⟩ := unhide HS
  have KC := hide (growSeal_b B b cnt F _ _ w8 hs.blk (hs.ke 6 _ rfl) hs.size (hs.len 6) (hs.cc 6 (by decide)) (hs.mks 6 (by decide)))
  have HQ := hide hs
  clear HS hs
  refine (unhide KC).mono ?_
  rintro e w9 ⟨rfl, ⟨es', X', h1, l1, c1, m1⟩, t1⟩
  have HS : Hid (∃ E X, Ap ksLg mkLg B w w9 b cnt F E X [28, 21, 19, 9, 8, 6, 2] [6, 2]) := (unhide HQ).grow (i := 6) rfl h1 l1 c1 m1 t1
  clear KC HQ h1 m1 t1 l1 c1
  clear E X es' X'
  go_wp2_with fail
  refine (growKey_nil b w9 (Ap.cell (unhide HS) 7 (by decide) (by decide) rfl)).mono ?_
  rintro e w9 ⟨rfl, rfl⟩
  go_wp2_with fail
  obtain ⟨E, X, hs⟩ := unhide HS
  have KC := hide (growAdd_b B b cnt F _ _ w9 hs.blk (hs.ke 8 _ rfl) hs.size (hs.len 8) (hs.cc 8 (by decide)) (hs.mks 8 (by decide)))
  have HQ := hide hs
  clear HS hs
  refine (unhide KC).mono ?_
  rintro e w10 ⟨rfl, ⟨es', X', h1, l1, c1, m1⟩, t1⟩
  have HS : Hid (∃ E X, Ap ksLg mkLg B w w10 b cnt F E X [28, 21, 19, 9, 8, 6, 2] [8, 6, 2]) := (unhide HQ).grow (i := 8) rfl h1 l1 c1 m1 t1
  clear KC HQ h1 m1 t1 l1 c1
  clear E X es' X'
  go_wp2_with fail
  obtain ⟨E, X, hs⟩ := unhide HS
  have KC := hide (growJoin_b B b cnt F _ _ w10 hs.blk (hs.ke 9 _ rfl) hs.size (hs.len 9) (hs.cc 9 (by decide)) (hs.mks 9 (by decide)))
  have HQ := hide hs
  clear HS hs
  refine (unhide KC).mono ?_
  rintro e w11 ⟨rfl, ⟨es', X', h1, l1, c1, m1⟩, t1⟩
  have HS : Hid (∃ E X, Ap ksLg mkLg B w w11 b cnt F E X [28, 21, 19, 9, 8, 6, 2] [9, 8, 6, 2]) := (unhide HQ).grow (i := 9) rfl h1 l1 c1 m1 t1
  clear KC HQ h1 m1 t1 l1 c1
  clear E X es' X'
  go_wp2_with fail
  refine (growPast_nil b w11 (Ap.cell (unhide HS) 10 (by decide) (by decide) rfl)).mono ?_
  rintro e w11 ⟨rfl, rfl⟩
  go_wp2_with fail
  refine (growCard_nil b w11 (Ap.cell (unhide HS) 11 (by decide) (by decide) rfl)).mono ?_
  rintro e w11 ⟨rfl, rfl⟩
  go_wp2_with fail
  refine (growGot_nil b w11 (Ap.cell (unhide HS) 12 (by decide) (by decide) rfl)).mono ?_
  rintro e w11 ⟨rfl, rfl⟩
  go_wp2_with fail
  refine (growNote_nil b w11 (Ap.cell (unhide HS) 13 (by decide) (by decide) rfl)).mono ?_
  rintro e w11 ⟨rfl, rfl⟩
  go_wp2_with fail
  refine (growAnswer_nil b w11 (Ap.cell (unhide HS) 14 (by decide) (by decide) rfl)).mono ?_
  rintro e w11 ⟨rfl, rfl⟩
  go_wp2_with fail
  refine (growOutcome_nil b w11 (Ap.cell (unhide HS) 15 (by decide) (by decide) rfl)).mono ?_
  rintro e w11 ⟨rfl, rfl⟩
  go_wp2_with fail
  refine (growFinding_nil b w11 (Ap.cell (unhide HS) 16 (by decide) (by decide) rfl)).mono ?_
  rintro e w11 ⟨rfl, rfl⟩
  go_wp2_with fail
  refine (growStep_nil b w11 (Ap.cell (unhide HS) 17 (by decide) (by decide) rfl)).mono ?_
  rintro e w11 ⟨rfl, rfl⟩
  go_wp2_with fail
  refine (growWrite_nil b w11 (Ap.cell (unhide HS) 18 (by decide) (by decide) rfl)).mono ?_
  rintro e w11 ⟨rfl, rfl⟩
  go_wp2_with fail
  obtain ⟨E, X, hs⟩ := unhide HS
  have KC := hide (growNode_b B b cnt F _ _ w11 hs.blk (hs.ke 19 _ rfl) hs.size (hs.len 19) (hs.cc 19 (by decide)) (hs.mks 19 (by decide)))
  have HQ := hide hs
  clear HS hs
  refine (unhide KC).mono ?_
  rintro e w12 ⟨rfl, ⟨es', X', h1, l1, c1, m1⟩, t1⟩
  have HS : Hid (∃ E X, Ap ksLg mkLg B w w12 b cnt F E X [28, 21, 19, 9, 8, 6, 2] [19, 9, 8, 6, 2]) := (unhide HQ).grow (i := 19) rfl h1 l1 c1 m1 t1
  clear KC HQ h1 m1 t1 l1 c1
  clear E X es' X'
  go_wp2_with fail
  refine (growTree_nil b w12 (Ap.cell (unhide HS) 20 (by decide) (by decide) rfl)).mono ?_
  rintro e w12 ⟨rfl, rfl⟩
  go_wp2_with fail
  obtain ⟨E, X, hs⟩ := unhide HS
  have KC := hide (growCommit_b B b cnt F _ _ w12 hs.blk (hs.ke 21 _ rfl) hs.size (hs.len 21) (hs.cc 21 (by decide)) (hs.mks 21 (by decide)))
  have HQ := hide hs
  clear HS hs
  refine (unhide KC).mono ?_
  rintro e w13 ⟨rfl, ⟨es', X', h1, l1, c1, m1⟩, t1⟩
  have HS : Hid (∃ E X, Ap ksLg mkLg B w w13 b cnt F E X [28, 21, 19, 9, 8, 6, 2] [21, 19, 9, 8, 6, 2]) := (unhide HQ).grow (i := 21) rfl h1 l1 c1 m1 t1
  clear KC HQ h1 m1 t1 l1 c1
  clear E X es' X'
  go_wp2_with fail
  refine (growState_nil b w13 (Ap.cell (unhide HS) 22 (by decide) (by decide) rfl)).mono ?_
  rintro e w13 ⟨rfl, rfl⟩
  go_wp2_with fail
  refine (growFace_nil b w13 (Ap.cell (unhide HS) 23 (by decide) (by decide) rfl)).mono ?_
  rintro e w13 ⟨rfl, rfl⟩
  go_wp2_with fail
  refine (growRequest_nil b w13 (Ap.cell (unhide HS) 24 (by decide) (by decide) rfl)).mono ?_
  rintro e w13 ⟨rfl, rfl⟩
  go_wp2_with fail
  refine (growMail_nil b w13 (Ap.cell (unhide HS) 25 (by decide) (by decide) rfl)).mono ?_
  rintro e w13 ⟨rfl, rfl⟩
  go_wp2_with fail
  refine (growPending_nil b w13 (Ap.cell (unhide HS) 26 (by decide) (by decide) rfl)).mono ?_
  rintro e w13 ⟨rfl, rfl⟩
  go_wp2_with fail
  refine (growFeed_nil b w13 (Ap.cell (unhide HS) 27 (by decide) (by decide) rfl)).mono ?_
  rintro e w13 ⟨rfl, rfl⟩
  go_wp2_with fail
  obtain ⟨E, X, hs⟩ := unhide HS
  have KC := hide (growLog_b B b cnt F _ _ w13 hs.blk (hs.ke 28 _ rfl) hs.size (hs.len 28) (hs.cc 28 (by decide)) (hs.mks 28 (by decide)))
  have HQ := hide hs
  clear HS hs
  refine (unhide KC).mono ?_
  rintro e w14 ⟨rfl, ⟨es', X', h1, l1, c1, m1⟩, t1⟩
  have HS : Hid (∃ E X, Ap ksLg mkLg B w w14 b cnt F E X [28, 21, 19, 9, 8, 6, 2] [28, 21, 19, 9, 8, 6, 2]) := (unhide HQ).grow (i := 28) rfl h1 l1 c1 m1 t1
  clear KC HQ h1 m1 t1 l1 c1
  clear E X es' X'
  go_wp2_with fail
  refine (growBox_nil b w14 (Ap.cell (unhide HS) 29 (by decide) (by decide) rfl)).mono ?_
  rintro e w14 ⟨rfl, rfl⟩
  go_wp2_with fail
  refine (growEarly_nil b w14 (Ap.cell (unhide HS) 30 (by decide) (by decide) rfl)).mono ?_
  rintro e w14 ⟨rfl, rfl⟩
  go_wp2_with fail
  refine (growLink_nil b w14 (Ap.cell (unhide HS) 31 (by decide) (by decide) rfl)).mono ?_
  rintro e w14 ⟨rfl, rfl⟩
  go_wp2_with fail
  refine (growPacket_nil b w14 (Ap.cell (unhide HS) 32 (by decide) (by decide) rfl)).mono ?_
  rintro e w14 ⟨rfl, rfl⟩
  go_wp2_with fail
  refine (growTermRow_nil b w14 (Ap.cell (unhide HS) 33 (by decide) (by decide) rfl)).mono ?_
  rintro e w14 ⟨rfl, rfl⟩
  go_wp2_with fail
  refine (growNumberRow_nil b w14 (Ap.cell (unhide HS) 34 (by decide) (by decide) rfl)).mono ?_
  rintro e w14 ⟨rfl, rfl⟩
  have KB := hide (fun k => bits_nilB b k w14 (Ap.cell (unhide HS) 1 (by decide) (by decide) rfl))
  go_wp2_with fail
  go_loopw [3] (fun kv wq => ∃ k : Nat, kv = .int .u64 k ∧ k ≤ 8 ∧ wq = w14) (fun kv _ => (8 - intOf kv).toNat)
  case atStart => exact ⟨0, rfl, by omega, rfl⟩
  case round =>
    obtain ⟨k, rfl, hk, rfl⟩ := hrel
    by_cases hk8 : k < 8
    · go_wp2_with fail
      refine (unhide KB _).mono ?_
      rintro e wz ⟨rfl, rfl⟩
      go_wp2_with fail
      go_roundw
      case rel => exact ⟨k + 1, by go_num, by omega, by first | rfl | trivial⟩
      case measure => simp only [intOf]; omega
    · have hke : k = 8 := by omega
      subst hke
      clear KB
      go_wp2_with fail
      obtain ⟨E, X, hs⟩ := unhide HS
      have KC := hide (lookNumber_b B b cnt F _ _ wr hs.blk (hs.ke 2 _ rfl) (hs.len 2) (hs.c 2) (hs.mks 2 (by decide)))
      have HQ := hide hs
      clear HS hs
      refine (unhide KC).mono ?_
      rintro e w15 ⟨rfl, t1⟩
      have HS : Hid (∃ E X, Ap ksLg mkLg B w w15 b cnt F E X [28, 21, 19, 9, 8, 6, 2] [28, 21, 19, 9, 8, 6, 2]) := (unhide HQ).look t1
      clear KC HQ t1
      clear E X
      go_wp2_with fail
      refine (lookWide_nil b w15 (Ap.cell (unhide HS) 3 (by decide) (by decide) rfl)).mono ?_
      rintro e w15 ⟨rfl, rfl⟩
      go_wp2_with fail
      refine (lookText_nil b w15 (Ap.cell (unhide HS) 4 (by decide) (by decide) rfl)).mono ?_
      rintro e w15 ⟨rfl, rfl⟩
      go_wp2_with fail
      refine (lookTerm_nil b w15 (Ap.cell (unhide HS) 5 (by decide) (by decide) rfl)).mono ?_
      rintro e w15 ⟨rfl, rfl⟩
      go_wp2_with fail
      obtain ⟨E, X, hs⟩ := unhide HS
      have KC := hide (lookSeal_b B b cnt F _ _ w15 hs.blk (hs.ke 6 _ rfl) (hs.len 6) (hs.c 6) (hs.mks 6 (by decide)))
      have HQ := hide hs
      clear HS hs
      refine (unhide KC).mono ?_
      rintro e w16 ⟨rfl, t1⟩
      have HS : Hid (∃ E X, Ap ksLg mkLg B w w16 b cnt F E X [28, 21, 19, 9, 8, 6, 2] [28, 21, 19, 9, 8, 6, 2]) := (unhide HQ).look t1
      clear KC HQ t1
      clear E X
      go_wp2_with fail
      refine (lookKey_nil b w16 (Ap.cell (unhide HS) 7 (by decide) (by decide) rfl)).mono ?_
      rintro e w16 ⟨rfl, rfl⟩
      go_wp2_with fail
      obtain ⟨E, X, hs⟩ := unhide HS
      have KC := hide (lookAdd_b B b cnt F _ _ w16 hs.blk (hs.ke 8 _ rfl) (hs.len 8) (hs.c 8) (hs.mks 8 (by decide)))
      have HQ := hide hs
      clear HS hs
      refine (unhide KC).mono ?_
      rintro e w17 ⟨rfl, t1⟩
      have HS : Hid (∃ E X, Ap ksLg mkLg B w w17 b cnt F E X [28, 21, 19, 9, 8, 6, 2] [28, 21, 19, 9, 8, 6, 2]) := (unhide HQ).look t1
      clear KC HQ t1
      clear E X
      go_wp2_with fail
      obtain ⟨E, X, hs⟩ := unhide HS
      have KC := hide (lookJoin_b B b cnt F _ _ w17 hs.blk (hs.ke 9 _ rfl) (hs.len 9) (hs.c 9) (hs.mks 9 (by decide)))
      have HQ := hide hs
      clear HS hs
      refine (unhide KC).mono ?_
      rintro e w18 ⟨rfl, t1⟩
      have HS : Hid (∃ E X, Ap ksLg mkLg B w w18 b cnt F E X [28, 21, 19, 9, 8, 6, 2] [28, 21, 19, 9, 8, 6, 2]) := (unhide HQ).look t1
      clear KC HQ t1
      clear E X
      go_wp2_with fail
      refine (lookPast_nil b w18 (Ap.cell (unhide HS) 10 (by decide) (by decide) rfl)).mono ?_
      rintro e w18 ⟨rfl, rfl⟩
      go_wp2_with fail
      refine (lookCard_nil b w18 (Ap.cell (unhide HS) 11 (by decide) (by decide) rfl)).mono ?_
      rintro e w18 ⟨rfl, rfl⟩
      go_wp2_with fail
      refine (lookGot_nil b w18 (Ap.cell (unhide HS) 12 (by decide) (by decide) rfl)).mono ?_
      rintro e w18 ⟨rfl, rfl⟩
      go_wp2_with fail
      refine (lookNote_nil b w18 (Ap.cell (unhide HS) 13 (by decide) (by decide) rfl)).mono ?_
      rintro e w18 ⟨rfl, rfl⟩
      go_wp2_with fail
      refine (lookAnswer_nil b w18 (Ap.cell (unhide HS) 14 (by decide) (by decide) rfl)).mono ?_
      rintro e w18 ⟨rfl, rfl⟩
      go_wp2_with fail
      refine (lookOutcome_nil b w18 (Ap.cell (unhide HS) 15 (by decide) (by decide) rfl)).mono ?_
      rintro e w18 ⟨rfl, rfl⟩
      go_wp2_with fail
      refine (lookFinding_nil b w18 (Ap.cell (unhide HS) 16 (by decide) (by decide) rfl)).mono ?_
      rintro e w18 ⟨rfl, rfl⟩
      go_wp2_with fail
      refine (lookStep_nil b w18 (Ap.cell (unhide HS) 17 (by decide) (by decide) rfl)).mono ?_
      rintro e w18 ⟨rfl, rfl⟩
      go_wp2_with fail
      refine (lookWrite_nil b w18 (Ap.cell (unhide HS) 18 (by decide) (by decide) rfl)).mono ?_
      rintro e w18 ⟨rfl, rfl⟩
      go_wp2_with fail
      obtain ⟨E, X, hs⟩ := unhide HS
      have KC := hide (lookNode_b B b cnt F _ _ w18 hs.blk (hs.ke 19 _ rfl) (hs.len 19) (hs.c 19) (hs.mks 19 (by decide)))
      have HQ := hide hs
      clear HS hs
      refine (unhide KC).mono ?_
      rintro e w19 ⟨rfl, t1⟩
      have HS : Hid (∃ E X, Ap ksLg mkLg B w w19 b cnt F E X [28, 21, 19, 9, 8, 6, 2] [28, 21, 19, 9, 8, 6, 2]) := (unhide HQ).look t1
      clear KC HQ t1
      clear E X
      go_wp2_with fail
      refine (lookTree_nil b w19 (Ap.cell (unhide HS) 20 (by decide) (by decide) rfl)).mono ?_
      rintro e w19 ⟨rfl, rfl⟩
      go_wp2_with fail
      obtain ⟨E, X, hs⟩ := unhide HS
      have KC := hide (lookCommit_b B b cnt F _ _ w19 hs.blk (hs.ke 21 _ rfl) (hs.len 21) (hs.c 21) (hs.mks 21 (by decide)))
      have HQ := hide hs
      clear HS hs
      refine (unhide KC).mono ?_
      rintro e w20 ⟨rfl, t1⟩
      have HS : Hid (∃ E X, Ap ksLg mkLg B w w20 b cnt F E X [28, 21, 19, 9, 8, 6, 2] [28, 21, 19, 9, 8, 6, 2]) := (unhide HQ).look t1
      clear KC HQ t1
      clear E X
      go_wp2_with fail
      refine (lookState_nil b w20 (Ap.cell (unhide HS) 22 (by decide) (by decide) rfl)).mono ?_
      rintro e w20 ⟨rfl, rfl⟩
      go_wp2_with fail
      refine (lookFace_nil b w20 (Ap.cell (unhide HS) 23 (by decide) (by decide) rfl)).mono ?_
      rintro e w20 ⟨rfl, rfl⟩
      go_wp2_with fail
      refine (lookRequest_nil b w20 (Ap.cell (unhide HS) 24 (by decide) (by decide) rfl)).mono ?_
      rintro e w20 ⟨rfl, rfl⟩
      go_wp2_with fail
      refine (lookMail_nil b w20 (Ap.cell (unhide HS) 25 (by decide) (by decide) rfl)).mono ?_
      rintro e w20 ⟨rfl, rfl⟩
      go_wp2_with fail
      refine (lookPending_nil b w20 (Ap.cell (unhide HS) 26 (by decide) (by decide) rfl)).mono ?_
      rintro e w20 ⟨rfl, rfl⟩
      go_wp2_with fail
      refine (lookFeed_nil b w20 (Ap.cell (unhide HS) 27 (by decide) (by decide) rfl)).mono ?_
      rintro e w20 ⟨rfl, rfl⟩
      go_wp2_with fail
      obtain ⟨E, X, hs⟩ := unhide HS
      have KC := hide (lookLog_b B b cnt F _ _ w20 hs.blk (hs.ke 28 _ rfl) (hs.len 28) (hs.c 28) (hs.mks 28 (by decide)))
      have HQ := hide hs
      clear HS hs
      refine (unhide KC).mono ?_
      rintro e w21 ⟨rfl, t1⟩
      have HS : Hid (∃ E X, Ap ksLg mkLg B w w21 b cnt F E X [28, 21, 19, 9, 8, 6, 2] [28, 21, 19, 9, 8, 6, 2]) := (unhide HQ).look t1
      clear KC HQ t1
      clear E X
      go_wp2_with fail
      refine (lookBox_nil b w21 (Ap.cell (unhide HS) 29 (by decide) (by decide) rfl)).mono ?_
      rintro e w21 ⟨rfl, rfl⟩
      go_wp2_with fail
      refine (lookEarly_nil b w21 (Ap.cell (unhide HS) 30 (by decide) (by decide) rfl)).mono ?_
      rintro e w21 ⟨rfl, rfl⟩
      go_wp2_with fail
      refine (lookLink_nil b w21 (Ap.cell (unhide HS) 31 (by decide) (by decide) rfl)).mono ?_
      rintro e w21 ⟨rfl, rfl⟩
      go_wp2_with fail
      refine (lookPacket_nil b w21 (Ap.cell (unhide HS) 32 (by decide) (by decide) rfl)).mono ?_
      rintro e w21 ⟨rfl, rfl⟩
      go_wp2_with fail
      refine (lookTermRow_nil b w21 (Ap.cell (unhide HS) 33 (by decide) (by decide) rfl)).mono ?_
      rintro e w21 ⟨rfl, rfl⟩
      go_wp2_with fail
      refine (lookNumberRow_nil b w21 (Ap.cell (unhide HS) 34 (by decide) (by decide) rfl)).mono ?_
      rintro e w21 ⟨rfl, rfl⟩
      go_wp2
      go_ret
      obtain ⟨E, X, hs⟩ := unhide HS
      exact ⟨rfl, hs.bel⟩
end Go.Proofs.YtnfhbmlmemifjaaGreatDoor
