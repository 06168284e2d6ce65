/- The library's maps.Keys, slices.Sorted and slices.Sort at numbers, laid off the shelf; the numbers of a map, rising. -/
import Derived.Shelf.SlIterI.Nil
import Derived.Shelf.SortM.Plain
import Derived.Shelf.SortM.SortNone
import Derived.Test.YtkaioidneknmjaaZ07
namespace Go.Proofs.Ytkaioidneknmjaa.Tn
open Go.Shelf Go.RowKit Go.Maps Go.Sort
def renKi : Go.Shelf.Ren := ⟨fun | 0 => 0 | 1 => 1 | 2 => 2 | 6 => 39 | 7 => 40 | 8 => 57 | 9 => 58 | 10 => 59 | 11 => 61 | 12 => 62 | 13 => 63 | 14 => 64 | 15 => 65 | 16 => 66 | 17 => 67 | 18 => 68 | 19 => 69 | 20 => 70 | 21 => 71 | 22 => 72 | 23 => 73 | 24 => 74 | 25 => 75 | 26 => 76 | 27 => 77 | 28 => 78 | 29 => 79 | 30 => 80 | 31 => 81 | 32 => 82 | 33 => 83 | 34 => 84 | 35 => 85 | 36 => 86 | 37 => 87 | 38 => 88 | 39 => 89 | 40 => 90 | 41 => 91 | 42 => 92 | 43 => 93 | 44 => 94 | 45 => 95 | 46 => 96 | 47 => 98 | n => n, fun | 0 => 0 | 1 => 1 | 2 => 2 | 3 => 3 | 4 => 4 | 5 => 5 | 6 => 6 | 7 => 7 | 8 => 8 | 9 => 9 | 10 => 10 | 11 => 11 | 12 => 12 | 13 => 13 | 14 => 14 | 15 => 15 | 16 => 16 | 17 => 17 | 18 => 18 | 19 => 19 | 20 => 20 | 21 => 21 | 22 => 69 | 23 => 69 | 24 => 37 | 25 => 81 | 26 => 3 | 27 => 82 | 28 => 83 | 29 => 84 | 32 => 79 | 33 => 49 | 34 => 103 | 35 => 104 | 36 => 105 | 37 => 106 | 38 => 107 | 39 => 108 | 40 => 109 | 41 => 110 | 42 => 111 | 43 => 34 | 44 => 112 | 45 => 72 | 46 => 113 | 47 => 114 | 48 => 115 | 49 => 116 | 50 => 117 | 51 => 118 | 52 => 119 | 53 => 120 | 54 => 121 | 55 => 122 | 56 => 123 | 57 => 124 | 58 => 125 | 59 => 126 | 60 => 127 | 61 => 128 | 62 => 129 | 63 => 130 | 64 => 131 | 65 => 132 | 66 => 68 | 67 => 133 | 68 => 134 | 69 => 135 | 70 => 136 | 71 => 137 | 72 => 138 | 73 => 139 | 74 => 140 | 75 => 141 | n => n, fun | n => n⟩
set_option maxRecDepth 100000 in
theorem laysKi : Go.Proofs.SlLaysZI.n7 Try.prog renKi := {
  mixed := by kernel_rfl
  f7 := ⟨Try.f40.name, by decide, Try.func40.trans (congrArg some (by kernel_rfl))⟩
  f10 := ⟨Try.f59.name, by decide, Try.func59.trans (congrArg some (by kernel_rfl))⟩
  t0 := Try.underlying0
  a0 := Try.isAgg0
  z0 := Try.sizeOf0
  v0 := Try.zeroValue0
  t4 := Try.underlying4
  a4 := Try.isAgg4
  z4 := Try.sizeOf4
  v4 := Try.zeroValue4
  t23 := Try.underlying69
  a23 := Try.isAgg69
  z23 := Try.sizeOf69
  v23 := Try.zeroValue69
  t26 := Try.underlying3
  a26 := Try.isAgg3
  z26 := Try.sizeOf3
  v26 := Try.zeroValue3
  t27 := Try.underlying82
  a27 := Try.isAgg82
  z27 := Try.sizeOf82
  v27 := Try.zeroValue82
  t28 := Try.underlying83
  a28 := Try.isAgg83
  z28 := Try.sizeOf83
  v28 := Try.zeroValue83
  t33 := Try.underlying49
  a33 := Try.isAgg49
  z33 := Try.sizeOf49
  v33 := Try.zeroValue49 }

def renSi : Go.Shelf.Ren := ⟨fun | 0 => 0 | 1 => 1 | 2 => 2 | 6 => 39 | 8 => 57 | 9 => 58 | 11 => 61 | 12 => 62 | 13 => 63 | 14 => 64 | 15 => 65 | 16 => 66 | 17 => 67 | 18 => 68 | 19 => 69 | 20 => 70 | 21 => 71 | 22 => 72 | 23 => 73 | 24 => 74 | 25 => 75 | 26 => 76 | 27 => 77 | 28 => 78 | 29 => 79 | 30 => 80 | 31 => 81 | 32 => 82 | 33 => 83 | 34 => 84 | 35 => 85 | 36 => 86 | 37 => 87 | 38 => 88 | 39 => 89 | 40 => 90 | 41 => 91 | 42 => 92 | 43 => 93 | 44 => 94 | 45 => 95 | 46 => 96 | 47 => 98 | n => n, fun | 0 => 0 | 1 => 1 | 2 => 2 | 3 => 3 | 4 => 4 | 5 => 5 | 6 => 6 | 7 => 7 | 8 => 8 | 9 => 9 | 10 => 10 | 11 => 11 | 12 => 12 | 13 => 13 | 14 => 14 | 15 => 15 | 16 => 16 | 17 => 17 | 18 => 18 | 19 => 19 | 20 => 20 | 21 => 21 | 22 => 69 | 24 => 37 | 25 => 81 | 26 => 3 | 27 => 82 | 28 => 83 | 32 => 79 | 33 => 49 | 34 => 103 | 35 => 104 | 36 => 105 | 37 => 106 | 38 => 107 | 39 => 108 | 40 => 109 | 41 => 110 | 42 => 111 | 43 => 34 | 44 => 112 | 45 => 72 | 46 => 113 | 47 => 114 | 48 => 115 | 49 => 116 | 50 => 117 | 51 => 118 | 52 => 119 | 53 => 120 | 54 => 121 | 55 => 122 | 56 => 123 | 57 => 124 | 58 => 125 | 59 => 126 | 60 => 127 | 61 => 128 | 62 => 129 | 63 => 130 | 64 => 131 | 65 => 132 | 66 => 68 | 67 => 133 | 68 => 134 | 69 => 135 | 70 => 136 | 71 => 137 | 72 => 138 | 73 => 139 | 74 => 140 | 75 => 141 | n => n, fun | n => n⟩
set_option maxRecDepth 100000 in
theorem laysSi : Go.Proofs.SlLaysZI.n6 Try.prog renSi := {
  mixed := by kernel_rfl
  f6 := ⟨Try.f39.name, by decide, Try.func39.trans (congrArg some (by kernel_rfl))⟩
  f8 := ⟨Try.f57.name, by decide, Try.func57.trans (congrArg some (by kernel_rfl))⟩
  f11 := ⟨Try.f61.name, by decide, Try.func61.trans (congrArg some (by kernel_rfl))⟩
  t0 := Try.underlying0
  a0 := Try.isAgg0
  z0 := Try.sizeOf0
  v0 := Try.zeroValue0
  t24 := Try.underlying37
  a24 := Try.isAgg37
  z24 := Try.sizeOf37
  v24 := Try.zeroValue37
  t26 := Try.underlying3
  a26 := Try.isAgg3
  z26 := Try.sizeOf3
  v26 := Try.zeroValue3
  t28 := Try.underlying83
  a28 := Try.isAgg83
  z28 := Try.sizeOf83
  v28 := Try.zeroValue83
  i26 := by kernel_rfl }

def renSt : Go.Shelf.Ren := ⟨fun | 0 => 0 | 1 => 1 | 2 => 2 | 5 => 58 | 7 => 62 | 8 => 63 | 10 => 64 | 11 => 65 | 12 => 66 | 13 => 67 | 14 => 68 | 15 => 69 | 16 => 70 | 17 => 71 | 18 => 72 | 19 => 73 | 20 => 74 | 30 => 75 | 31 => 76 | 32 => 77 | 33 => 78 | 34 => 79 | 35 => 80 | 40 => 81 | 42 => 82 | 43 => 83 | 44 => 84 | 45 => 85 | 46 => 86 | 47 => 87 | 48 => 88 | 49 => 89 | 50 => 90 | 51 => 91 | 52 => 92 | 53 => 93 | 54 => 94 | 55 => 95 | 56 => 96 | 57 => 98 | n => n, fun | 0 => 0 | 1 => 1 | 2 => 2 | 3 => 3 | 4 => 4 | 5 => 5 | 6 => 6 | 7 => 7 | 8 => 8 | 9 => 9 | 10 => 10 | 11 => 11 | 12 => 12 | 13 => 13 | 14 => 14 | 15 => 15 | 16 => 16 | 17 => 17 | 18 => 18 | 19 => 19 | 20 => 20 | 21 => 21 | 22 => 37 | 23 => 37 | 24 => 79 | 25 => 3 | 30 => 104 | 31 => 105 | 32 => 106 | 34 => 107 | 35 => 108 | 36 => 109 | 37 => 110 | 38 => 111 | 39 => 34 | 40 => 112 | 41 => 72 | 42 => 113 | 43 => 114 | 44 => 115 | 45 => 116 | 46 => 117 | 53 => 118 | 54 => 119 | 55 => 120 | 56 => 121 | 57 => 122 | 58 => 123 | 59 => 49 | 63 => 124 | 64 => 125 | 65 => 126 | 67 => 127 | 68 => 128 | 69 => 129 | 70 => 130 | 71 => 131 | 72 => 132 | 73 => 68 | 74 => 133 | 75 => 134 | 76 => 135 | 77 => 136 | 78 => 137 | 79 => 138 | 80 => 139 | 81 => 140 | 82 => 141 | n => n, fun | n => n⟩
set_option maxRecDepth 100000 in
theorem laysSt : Go.Proofs.SlLaysM.n5 Try.prog renSt := {
  mixed := by kernel_rfl
  f5 := ⟨Try.f58.name, by decide, Try.func58.trans (congrArg some (by kernel_rfl))⟩
  f7 := ⟨Try.f62.name, by decide, Try.func62.trans (congrArg some (by kernel_rfl))⟩
  f8 := Try.func63.trans (congrArg some (by kernel_rfl))
  f10 := ⟨Try.f64.name, by decide, Try.func64.trans (congrArg some (by kernel_rfl))⟩
  f11 := ⟨Try.f65.name, by decide, Try.func65.trans (congrArg some (by kernel_rfl))⟩
  f12 := ⟨Try.f66.name, by decide, Try.func66.trans (congrArg some (by kernel_rfl))⟩
  f13 := ⟨Try.f67.name, by decide, Try.func67.trans (congrArg some (by kernel_rfl))⟩
  f14 := ⟨Try.f68.name, by decide, Try.func68.trans (congrArg some (by kernel_rfl))⟩
  f15 := ⟨Try.f69.name, by decide, Try.func69.trans (congrArg some (by kernel_rfl))⟩
  f16 := ⟨Try.f70.name, by decide, Try.func70.trans (congrArg some (by kernel_rfl))⟩
  f17 := ⟨Try.f71.name, by decide, Try.func71.trans (congrArg some (by kernel_rfl))⟩
  f18 := ⟨Try.f72.name, by decide, Try.func72.trans (congrArg some (by kernel_rfl))⟩
  f19 := Try.func73.trans (congrArg some (by kernel_rfl))
  f20 := Try.func74.trans (congrArg some (by kernel_rfl))
  f30 := ⟨Try.f75.name, by decide, Try.func75.trans (congrArg some (by kernel_rfl))⟩
  f31 := Try.func76.trans (congrArg some (by kernel_rfl))
  f32 := Try.func77.trans (congrArg some (by kernel_rfl))
  f33 := ⟨Try.f78.name, by decide, Try.func78.trans (congrArg some (by kernel_rfl))⟩
  f34 := ⟨Try.f79.name, by decide, Try.func79.trans (congrArg some (by kernel_rfl))⟩
  f35 := ⟨Try.f80.name, by decide, Try.func80.trans (congrArg some (by kernel_rfl))⟩
  f40 := ⟨Try.f81.name, by decide, Try.func81.trans (congrArg some (by kernel_rfl))⟩
  t0 := Try.underlying0
  a0 := Try.isAgg0
  z0 := Try.sizeOf0
  v0 := Try.zeroValue0
  t3 := Try.underlying3
  a3 := Try.isAgg3
  z3 := Try.sizeOf3
  v3 := Try.zeroValue3
  t4 := Try.underlying4
  a4 := Try.isAgg4
  z4 := Try.sizeOf4
  v4 := Try.zeroValue4
  t5 := Try.underlying5
  a5 := Try.isAgg5
  z5 := Try.sizeOf5
  v5 := Try.zeroValue5
  t9 := Try.underlying9
  a9 := Try.isAgg9
  z9 := Try.sizeOf9
  v9 := Try.zeroValue9
  t22 := Try.underlying37
  a22 := Try.isAgg37
  z22 := Try.sizeOf37
  v22 := Try.zeroValue37
  t23 := Try.underlying37
  a23 := Try.isAgg37
  z23 := Try.sizeOf37
  v23 := Try.zeroValue37
  t25 := Try.underlying3
  a25 := Try.isAgg3
  z25 := Try.sizeOf3
  v25 := Try.zeroValue3
  t32 := Try.underlying106
  a32 := Try.isAgg106
  z32 := Try.sizeOf106
  v32 := Try.zeroValue106
  t35 := Try.underlying108
  a35 := Try.isAgg108
  z35 := Try.sizeOf108
  v35 := Try.zeroValue108
  t36 := Try.underlying109
  a36 := Try.isAgg109
  z36 := Try.sizeOf109
  v36 := Try.zeroValue109
  t41 := Try.underlying72
  a41 := Try.isAgg72
  z41 := Try.sizeOf72
  v41 := Try.zeroValue72
  t44 := Try.underlying115
  a44 := Try.isAgg115
  z44 := Try.sizeOf115
  v44 := Try.zeroValue115
  t46 := Try.underlying117
  a46 := Try.isAgg117
  z46 := Try.sizeOf117
  v46 := Try.zeroValue117
  t53 := Try.underlying118
  a53 := Try.isAgg118
  z53 := Try.sizeOf118
  v53 := Try.zeroValue118
  t57 := Try.underlying122
  a57 := Try.isAgg122
  z57 := Try.sizeOf122
  v57 := Try.zeroValue122
  t63 := Try.underlying124
  a63 := Try.isAgg124
  z63 := Try.sizeOf124
  v63 := Try.zeroValue124
  t64 := Try.underlying125
  a64 := Try.isAgg125
  z64 := Try.sizeOf125
  v64 := Try.zeroValue125 }

theorem sortsI (m : Nat) : AnyZI.SortsIn Try.prog renSi Fence.wide m :=
  ⟨fun blk off cap ss W hH hblk hsz => callsIn_wide.2 (AnyM.slices_Sort_int laysSt blk off cap ss W hH hblk hsz),
   fun p cap W => callsIn_wide.2 (AnyM.slices_Sort_int_none laysSt p cap W)⟩
theorem keysI (mb : Option Nat) (W : World) : Calls Try.prog 40 #[.map mb] W fun e w' => e = .returned (.func (.func 59) #[] #[.pointer (some ⟨W.heap.size, 0, none⟩)]) ∧ w' = W.alloc (.cells #[.map mb] 69) :=
  (callsIn_wide (n := 5)).1 (AnyZI.keys_in laysKi Fence.wide 5 trivial rfl mb W)
set_option maxRecDepth 100000 in
set_option maxHeartbeats 1000000 in
theorem sortedI {H : Type} (b nn : Nat) (D0 : DataW H) (R : Value → Option (DataW H × List MemPlace)) (w : World) (hown : w.ownsMap Try.prog 3 R b nn D0) (hmax : Maps.size D0 ≤ maxLen) (hbytes : Maps.size D0 * 8 ≤ 140737488355328) :
    CallsIn Fence.wide 5 Try.prog 39 #[.func (.func 59) #[] #[.pointer (some ⟨w.heap.size, 0, none⟩)]] (w.alloc (.cells #[.map (some b)] 69)) fun e w' => ∃ (v : Value) (ss : List Int), e = .returned v ∧ ss.Perm (intKeys D0) ∧
      w'.ownsRow (w.alloc (.cells #[.map (some b)] 69)).heap.size 3 1 v ss.length ((ss.mergeSort (fun x y => decide (x ≤ y))).map encZ) ∧ (v = .slice none 0 0 ↔ ss = []) ∧ Below (w.alloc (.cells #[.map (some b)] 69)).heap.size (w.alloc (.cells #[.map (some b)] 69)) w' := by
  have hbl := hown.lt
  have hseq : SeqGives Fence.wide 2 Try.prog 59 #[.pointer (some ⟨w.heap.size, 0, none⟩)] encZ (fun ss => ss.Perm (intKeys D0)) (Maps.size D0) (w.alloc (.cells #[.map (some b)] 69)) :=
    AnyZI.keys_gives (ρ := renKi) { laysKi with } Fence.wide _ trivial rfl (by omega) w.heap.size b nn D0 _ (by simp) (by simp) (by
      obtain ⟨es, clock, hb, Ft, hs, hD⟩ := hown
      exact ⟨es, clock, (Below.heap_alloc _ _ b hbl).trans hb, Ft, hs, hD⟩)
  exact AnyZI.sorted_in laysSi Fence.wide 5 trivial trivial trivial trivial rfl (by omega) (sortsI _) (enters_of Try.func58 (by kernel_rfl) rfl) 59 #[.pointer (some ⟨w.heap.size, 0, none⟩)] trivial (enters_of Try.func59 (by kernel_rfl) rfl) _ _ hmax hbytes _ hseq
theorem imap_keys {w : World} {b nx c : Nat} {l : Lfs} {D : DataW Unit} (h : w.ownsMap Try.prog 3 RI b c D) (hd : ID D l) (hl : Lf nx l) : (l.map fun p => (p.1 : Int)).Perm (intKeys D) := by
  obtain ⟨es, hD, hpw, _⟩ := h.entries lawI
  obtain ⟨es', hD', hko⟩ := h.keysOf
  obtain rfl : es = es' := by rw [hD] at hD'; simpa using hD'
  subst hD
  refine perm_intKeys hpw (fun p hp => by obtain ⟨v, hv⟩ := hko p hp; obtain ⟨x, _, hx, _⟩ := Maps.keyOf_i64 Try.underlying3 hv; exact ⟨x, hx⟩) ?_ (fun x => ?_)
  · exact List.pairwise_map.2 (hl.up.imp (fun h => by omega))
  · rw [hd.has, List.mem_map]
    constructor
    · rintro ⟨p, hp, rfl⟩
      rw [lkp_of_mem hl hp]; rfl
    · intro hs
      obtain ⟨t, ht⟩ := Option.isSome_iff_exists.1 hs
      obtain ⟨p, hp, h1, -⟩ := lkp_some ht
      exact ⟨p, hp, h1⟩
theorem lf_sorted {nx : Nat} {l : Lfs} (hl : Lf nx l) : (l.map fun p => (p.1 : Int)).mergeSort (fun x y => decide (x ≤ y)) = l.map fun p => (p.1 : Int) :=
  List.mergeSort_of_pairwise (List.pairwise_map.2 (hl.up.imp (fun h => by simp; omega)))
/-- The numbers of a map, rising. -/
theorem sorted_left {w : World} {b nx : Nat} {l : Lfs} (h : IMap w b l) (hl : Lf nx l) (hll : l.length ≤ 1000) :
    Calls Try.prog 39 #[.func (.func 59) #[] #[.pointer (some ⟨w.heap.size, 0, none⟩)]] (w.alloc (.cells #[.map (some b)] 69)) fun e w' => ∃ v, e = .returned v ∧ NRow 0 w' v (l.map (·.1)) ∧ Below w.heap.size w w' ∧ ∀ k, v.ownBlock = some k → w.heap.size ≤ k := by
  obtain ⟨D, h1, h2⟩ := h
  have hsz := h1.size_le
  refine ((callsIn_wide (n := 5)).1 (sortedI b l.length D RI w h1 (by unfold maxLen; omega) (by omega))).mono ?_
  rintro e w' ⟨v, ss, rfl, hp, hr, -, hb⟩
  have e1 : ss.mergeSort (fun x y => decide (x ≤ y)) = l.map fun p => (p.1 : Int) := by
    rw [← lf_sorted hl]; exact mergeSort_of_perm_i (hp.trans (imap_keys h1 h2 hl).symm)
  have e2 : ss.length = l.length := by rw [(hp.trans (imap_keys h1 h2 hl).symm).length_eq, List.length_map]
  rw [e1, e2] at hr
  have hb1 : Below w.heap.size w w' := ((Below.refl _ w).alloc (Nat.le_refl _) _).trans (hb.mono (by simp))
  refine ⟨v, rfl, ?_, hb1, fun k hk => ?_⟩
  · have := own_monoT hr (Nat.zero_le _)
    unfold NRow
    rw [List.length_map, List.map_map]
    rw [List.map_map] at this
    exact this
  · have := (World.ownsRow.lt hr k hk).1
    simp at this
    omega
end Go.Proofs.Ytkaioidneknmjaa.Tn
