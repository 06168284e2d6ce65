/- Texts joined: StLib StD. -/
import Derived.Shelf.SlMaps.Clone
import Derived.Shelf.SlIter.Nil
import Derived.Shelf.SortM.Plain
import Derived.Shelf.SortM.SortNone
import Derived.Test.YtckddmdgmjekdaaGreatStMem
/- The library's maps.Clone, maps.Keys, slices.Sorted and slices.Sort, laid off the shelf. -/
namespace Go.Proofs.YtckddmdgmjekdaaGreat
open Go.Shelf Go.RowKit Go.Maps Go.Sort
def renCl : Go.Shelf.Ren := ⟨fun | 0 => 0 | 1 => 1 | 2 => 2 | 5 => 58 | 7 => 79 | 8 => 130 | 9 => 131 | 10 => 132 | 11 => 133 | 12 => 134 | 13 => 135 | 14 => 136 | 15 => 137 | 16 => 138 | 17 => 139 | 18 => 140 | 19 => 141 | 20 => 142 | 21 => 143 | 22 => 144 | 23 => 148 | n => n, fun | 0 => 0 | 1 => 1 | 2 => 2 | 3 => 48 | 4 => 4 | 5 => 5 | 6 => 6 | 7 => 7 | 8 => 8 | 9 => 9 | 10 => 10 | 11 => 11 | 12 => 12 | 13 => 13 | 14 => 14 | 15 => 15 | 16 => 16 | 17 => 17 | 18 => 18 | 19 => 19 | 20 => 20 | 21 => 21 | 23 => 52 | 24 => 102 | 25 => 9 | 28 => 136 | 29 => 64 | 30 => 177 | 31 => 178 | 32 => 179 | 33 => 180 | 34 => 181 | 35 => 44 | 36 => 164 | 37 => 182 | 38 => 183 | 39 => 184 | 40 => 144 | 41 => 185 | 42 => 186 | 43 => 187 | 44 => 188 | 45 => 151 | n => n, fun | n => n⟩
set_option maxRecDepth 100000 in
theorem laysCl : Go.Proofs.SlLaysW.n5 Tryz.prog renCl := {
  mixed := by kernel_rfl
  f5 := ⟨Tryz.f58.name, by decide, Tryz.func58.trans (congrArg some (by kernel_rfl))⟩
  f7 := Tryz.func79.trans (congrArg some (by kernel_rfl))
  t4 := Tryz.underlying4
  a4 := Tryz.isAgg4
  z4 := Tryz.sizeOf4
  v4 := Tryz.zeroValue4
  t20 := Tryz.underlying20
  a20 := Tryz.isAgg20
  z20 := Tryz.sizeOf20
  v20 := Tryz.zeroValue20
  t23 := Tryz.underlying52
  a23 := Tryz.isAgg52
  z23 := Tryz.sizeOf52
  v23 := Tryz.zeroValue52 }

def renKe : Go.Shelf.Ren := ⟨fun | 0 => 0 | 1 => 1 | 2 => 2 | 6 => 65 | 7 => 66 | 8 => 83 | 9 => 84 | 10 => 85 | 11 => 99 | 12 => 100 | 13 => 101 | 14 => 110 | 15 => 111 | 16 => 112 | 17 => 113 | 18 => 114 | 19 => 115 | 20 => 116 | 21 => 117 | 22 => 118 | 23 => 119 | 24 => 120 | 25 => 123 | 26 => 124 | 27 => 125 | 28 => 126 | 29 => 127 | 30 => 128 | 31 => 129 | 32 => 130 | 33 => 131 | 34 => 132 | 35 => 133 | 36 => 134 | 37 => 135 | 38 => 136 | 39 => 137 | 40 => 138 | 41 => 139 | 42 => 140 | 43 => 141 | 44 => 142 | 45 => 143 | 46 => 144 | 47 => 148 | n => n, fun | 0 => 0 | 1 => 1 | 2 => 2 | 3 => 48 | 4 => 4 | 5 => 5 | 6 => 6 | 7 => 7 | 8 => 8 | 9 => 9 | 10 => 10 | 11 => 11 | 12 => 12 | 13 => 13 | 14 => 14 | 15 => 15 | 16 => 16 | 17 => 17 | 18 => 18 | 19 => 19 | 20 => 20 | 21 => 21 | 23 => 52 | 24 => 55 | 25 => 112 | 26 => 9 | 27 => 113 | 28 => 114 | 29 => 115 | 30 => 85 | 32 => 139 | 33 => 140 | 34 => 146 | 35 => 147 | 36 => 148 | 37 => 118 | 38 => 154 | 39 => 155 | 40 => 156 | 41 => 157 | 42 => 158 | 43 => 159 | 44 => 160 | 45 => 161 | 46 => 162 | 47 => 163 | 48 => 164 | 49 => 165 | 50 => 116 | 51 => 167 | 52 => 168 | 53 => 169 | 54 => 170 | 55 => 171 | 56 => 172 | 57 => 174 | 58 => 175 | 59 => 176 | 60 => 64 | 61 => 177 | 62 => 178 | 63 => 179 | 64 => 180 | 65 => 181 | 66 => 44 | 67 => 182 | 68 => 183 | 69 => 184 | 70 => 144 | 71 => 185 | 72 => 186 | 73 => 187 | 74 => 188 | 75 => 151 | n => n, fun | n => n⟩
set_option maxRecDepth 100000 in
theorem laysKe : Go.Proofs.SlLaysZ.n7 Tryz.prog renKe := {
  mixed := by kernel_rfl
  f7 := ⟨Tryz.f66.name, by decide, Tryz.func66.trans (congrArg some (by kernel_rfl))⟩
  f10 := ⟨Tryz.f85.name, by decide, Tryz.func85.trans (congrArg some (by kernel_rfl))⟩
  t0 := Tryz.underlying0
  a0 := Tryz.isAgg0
  z0 := Tryz.sizeOf0
  v0 := Tryz.zeroValue0
  t4 := Tryz.underlying4
  a4 := Tryz.isAgg4
  z4 := Tryz.sizeOf4
  v4 := Tryz.zeroValue4
  t23 := Tryz.underlying52
  a23 := Tryz.isAgg52
  z23 := Tryz.sizeOf52
  v23 := Tryz.zeroValue52
  t26 := Tryz.underlying9
  a26 := Tryz.isAgg9
  z26 := Tryz.sizeOf9
  v26 := Tryz.zeroValue9
  t27 := Tryz.underlying113
  a27 := Tryz.isAgg113
  z27 := Tryz.sizeOf113
  v27 := Tryz.zeroValue113
  t28 := Tryz.underlying114
  a28 := Tryz.isAgg114
  z28 := Tryz.sizeOf114
  v28 := Tryz.zeroValue114
  t33 := Tryz.underlying140
  a33 := Tryz.isAgg140
  z33 := Tryz.sizeOf140
  v33 := Tryz.zeroValue140 }

def renSo : Go.Shelf.Ren := ⟨fun | 0 => 0 | 1 => 1 | 2 => 2 | 6 => 65 | 8 => 83 | 9 => 84 | 11 => 99 | 12 => 100 | 13 => 101 | 14 => 110 | 15 => 111 | 16 => 112 | 17 => 113 | 18 => 114 | 19 => 115 | 20 => 116 | 21 => 117 | 22 => 118 | 23 => 119 | 24 => 120 | 25 => 123 | 26 => 124 | 27 => 125 | 28 => 126 | 29 => 127 | 30 => 128 | 31 => 129 | 32 => 130 | 33 => 131 | 34 => 132 | 35 => 133 | 36 => 134 | 37 => 135 | 38 => 136 | 39 => 137 | 40 => 138 | 41 => 139 | 42 => 140 | 43 => 141 | 44 => 142 | 45 => 143 | 46 => 144 | 47 => 148 | n => n, fun | 0 => 0 | 1 => 1 | 2 => 2 | 3 => 3 | 4 => 4 | 5 => 5 | 6 => 6 | 7 => 7 | 8 => 8 | 9 => 9 | 10 => 10 | 11 => 11 | 12 => 12 | 13 => 13 | 14 => 14 | 15 => 15 | 16 => 16 | 17 => 17 | 18 => 18 | 19 => 19 | 20 => 20 | 21 => 21 | 24 => 55 | 25 => 112 | 26 => 9 | 27 => 113 | 28 => 114 | 32 => 139 | 33 => 140 | 34 => 146 | 35 => 147 | 36 => 148 | 37 => 118 | 38 => 154 | 39 => 155 | 40 => 156 | 41 => 157 | 42 => 158 | 43 => 159 | 44 => 160 | 45 => 161 | 46 => 162 | 47 => 163 | 48 => 164 | 49 => 165 | 50 => 116 | 51 => 167 | 52 => 168 | 53 => 169 | 54 => 170 | 55 => 171 | 56 => 172 | 57 => 174 | 58 => 175 | 59 => 176 | 60 => 64 | 61 => 177 | 62 => 178 | 63 => 179 | 64 => 180 | 65 => 181 | 66 => 44 | 67 => 182 | 68 => 183 | 69 => 184 | 70 => 144 | 71 => 185 | 72 => 186 | 73 => 187 | 74 => 188 | 75 => 151 | n => n, fun | n => n⟩
set_option maxRecDepth 100000 in
theorem laysSo : Go.Proofs.SlLaysZ.n6 Tryz.prog renSo := {
  mixed := by kernel_rfl
  f6 := ⟨Tryz.f65.name, by decide, Tryz.func65.trans (congrArg some (by kernel_rfl))⟩
  f8 := ⟨Tryz.f83.name, by decide, Tryz.func83.trans (congrArg some (by kernel_rfl))⟩
  f11 := ⟨Tryz.f99.name, by decide, Tryz.func99.trans (congrArg some (by kernel_rfl))⟩
  t0 := Tryz.underlying0
  a0 := Tryz.isAgg0
  z0 := Tryz.sizeOf0
  v0 := Tryz.zeroValue0
  t24 := Tryz.underlying55
  a24 := Tryz.isAgg55
  z24 := Tryz.sizeOf55
  v24 := Tryz.zeroValue55
  t26 := Tryz.underlying9
  a26 := Tryz.isAgg9
  z26 := Tryz.sizeOf9
  v26 := Tryz.zeroValue9
  t28 := Tryz.underlying114
  a28 := Tryz.isAgg114
  z28 := Tryz.sizeOf114
  v28 := Tryz.zeroValue114
  i26 := by kernel_rfl }

def renSs : Go.Shelf.Ren := ⟨fun | 0 => 0 | 1 => 1 | 2 => 2 | 6 => 84 | 8 => 101 | 9 => 100 | 19 => 119 | 20 => 120 | 21 => 110 | 22 => 111 | 23 => 112 | 24 => 113 | 25 => 114 | 26 => 115 | 27 => 116 | 28 => 117 | 29 => 118 | 31 => 124 | 32 => 125 | 36 => 123 | 37 => 126 | 38 => 127 | 39 => 128 | 41 => 129 | 42 => 130 | 43 => 131 | 44 => 132 | 45 => 133 | 46 => 134 | 47 => 135 | 48 => 136 | 49 => 137 | 50 => 138 | 51 => 139 | 52 => 140 | 53 => 141 | 54 => 142 | 55 => 143 | 56 => 144 | 57 => 148 | n => n, fun | 0 => 0 | 1 => 1 | 2 => 2 | 3 => 3 | 4 => 4 | 5 => 5 | 6 => 6 | 7 => 7 | 8 => 8 | 9 => 9 | 10 => 10 | 11 => 11 | 12 => 12 | 13 => 13 | 14 => 14 | 15 => 15 | 16 => 16 | 17 => 17 | 18 => 18 | 19 => 19 | 20 => 20 | 21 => 21 | 26 => 55 | 27 => 55 | 28 => 139 | 29 => 9 | 31 => 148 | 32 => 118 | 33 => 147 | 35 => 155 | 36 => 156 | 41 => 161 | 43 => 163 | 44 => 164 | 45 => 165 | 46 => 116 | 47 => 154 | 48 => 157 | 49 => 158 | 50 => 159 | 51 => 160 | 52 => 162 | 53 => 167 | 54 => 168 | 55 => 169 | 57 => 171 | 60 => 170 | 61 => 172 | 62 => 140 | 63 => 174 | 64 => 175 | 66 => 176 | 67 => 64 | 68 => 177 | 69 => 178 | 70 => 179 | 71 => 180 | 72 => 181 | 73 => 44 | 74 => 182 | 75 => 183 | 76 => 184 | 77 => 144 | 78 => 185 | 79 => 186 | 80 => 187 | 81 => 188 | 82 => 151 | n => n, fun | n => n⟩
set_option maxRecDepth 100000 in
theorem laysSs : Go.Proofs.SlLaysM.n6 Tryz.prog renSs := {
  mixed := by kernel_rfl
  f6 := ⟨Tryz.f84.name, by decide, Tryz.func84.trans (congrArg some (by kernel_rfl))⟩
  f8 := Tryz.func101.trans (congrArg some (by kernel_rfl))
  f9 := ⟨Tryz.f100.name, by decide, Tryz.func100.trans (congrArg some (by kernel_rfl))⟩
  f19 := Tryz.func119.trans (congrArg some (by kernel_rfl))
  f20 := Tryz.func120.trans (congrArg some (by kernel_rfl))
  f21 := ⟨Tryz.f110.name, by decide, Tryz.func110.trans (congrArg some (by kernel_rfl))⟩
  f22 := ⟨Tryz.f111.name, by decide, Tryz.func111.trans (congrArg some (by kernel_rfl))⟩
  f23 := ⟨Tryz.f112.name, by decide, Tryz.func112.trans (congrArg some (by kernel_rfl))⟩
  f24 := ⟨Tryz.f113.name, by decide, Tryz.func113.trans (congrArg some (by kernel_rfl))⟩
  f25 := ⟨Tryz.f114.name, by decide, Tryz.func114.trans (congrArg some (by kernel_rfl))⟩
  f26 := ⟨Tryz.f115.name, by decide, Tryz.func115.trans (congrArg some (by kernel_rfl))⟩
  f27 := ⟨Tryz.f116.name, by decide, Tryz.func116.trans (congrArg some (by kernel_rfl))⟩
  f28 := ⟨Tryz.f117.name, by decide, Tryz.func117.trans (congrArg some (by kernel_rfl))⟩
  f29 := ⟨Tryz.f118.name, by decide, Tryz.func118.trans (congrArg some (by kernel_rfl))⟩
  f31 := Tryz.func124.trans (congrArg some (by kernel_rfl))
  f32 := Tryz.func125.trans (congrArg some (by kernel_rfl))
  f36 := ⟨Tryz.f123.name, by decide, Tryz.func123.trans (congrArg some (by kernel_rfl))⟩
  f37 := ⟨Tryz.f126.name, by decide, Tryz.func126.trans (congrArg some (by kernel_rfl))⟩
  f38 := ⟨Tryz.f127.name, by decide, Tryz.func127.trans (congrArg some (by kernel_rfl))⟩
  f39 := ⟨Tryz.f128.name, by decide, Tryz.func128.trans (congrArg some (by kernel_rfl))⟩
  f41 := ⟨Tryz.f129.name, by decide, Tryz.func129.trans (congrArg some (by kernel_rfl))⟩
  t0 := Tryz.underlying0
  a0 := Tryz.isAgg0
  z0 := Tryz.sizeOf0
  v0 := Tryz.zeroValue0
  t3 := Tryz.underlying3
  a3 := Tryz.isAgg3
  z3 := Tryz.sizeOf3
  v3 := Tryz.zeroValue3
  t4 := Tryz.underlying4
  a4 := Tryz.isAgg4
  z4 := Tryz.sizeOf4
  v4 := Tryz.zeroValue4
  t5 := Tryz.underlying5
  a5 := Tryz.isAgg5
  z5 := Tryz.sizeOf5
  v5 := Tryz.zeroValue5
  t9 := Tryz.underlying9
  a9 := Tryz.isAgg9
  z9 := Tryz.sizeOf9
  v9 := Tryz.zeroValue9
  t26 := Tryz.underlying55
  a26 := Tryz.isAgg55
  z26 := Tryz.sizeOf55
  v26 := Tryz.zeroValue55
  t27 := Tryz.underlying55
  a27 := Tryz.isAgg55
  z27 := Tryz.sizeOf55
  v27 := Tryz.zeroValue55
  t29 := Tryz.underlying9
  a29 := Tryz.isAgg9
  z29 := Tryz.sizeOf9
  v29 := Tryz.zeroValue9
  t32 := Tryz.underlying118
  a32 := Tryz.isAgg118
  z32 := Tryz.sizeOf118
  v32 := Tryz.zeroValue118
  t35 := Tryz.underlying155
  a35 := Tryz.isAgg155
  z35 := Tryz.sizeOf155
  v35 := Tryz.zeroValue155
  t36 := Tryz.underlying156
  a36 := Tryz.isAgg156
  z36 := Tryz.sizeOf156
  v36 := Tryz.zeroValue156
  t41 := Tryz.underlying161
  a41 := Tryz.isAgg161
  z41 := Tryz.sizeOf161
  v41 := Tryz.zeroValue161
  t44 := Tryz.underlying164
  a44 := Tryz.isAgg164
  z44 := Tryz.sizeOf164
  v44 := Tryz.zeroValue164
  t46 := Tryz.underlying116
  a46 := Tryz.isAgg116
  z46 := Tryz.sizeOf116
  v46 := Tryz.zeroValue116
  t53 := Tryz.underlying167
  a53 := Tryz.isAgg167
  z53 := Tryz.sizeOf167
  v53 := Tryz.zeroValue167
  t57 := Tryz.underlying171
  a57 := Tryz.isAgg171
  z57 := Tryz.sizeOf171
  v57 := Tryz.zeroValue171
  t63 := Tryz.underlying174
  a63 := Tryz.isAgg174
  z63 := Tryz.sizeOf174
  v63 := Tryz.zeroValue174
  t64 := Tryz.underlying175
  a64 := Tryz.isAgg175
  z64 := Tryz.sizeOf175
  v64 := Tryz.zeroValue175 }

end Go.Proofs.YtckddmdgmjekdaaGreat

/- A map's names in order; a map's copy. -/
namespace Go.Proofs.YtckddmdgmjekdaaGreat
open Go.Shelf Go.RowKit Go.Maps Go.Sort

theorem sortsS (m : Nat) : AnyZ.SortsIn Tryz.prog renSo Fence.wide m :=
  ⟨fun blk off cap ss W hH hblk hsz => callsIn_wide.2 (AnyM.slices_Sort_string laysSs blk off cap ss W hH hblk hsz),
   fun p cap W => callsIn_wide.2 (AnyM.slices_Sort_string_none laysSs p cap W)⟩
theorem maps_keys (mb : Option Nat) (W : World) : CallsIn Fence.wide 5 Tryz.prog 66 #[.map mb] W fun e w' => e = .returned (.func (.func 85) #[] #[.pointer (some ⟨W.heap.size, 0, none⟩)]) ∧ w' = W.alloc (.cells #[.map mb] 52) :=
  AnyZ.keys_in laysKe Fence.wide 5 trivial rfl mb W
set_option maxRecDepth 100000 in
set_option maxHeartbeats 1000000 in
theorem sorted_keys {H : Type} (b nn : Nat) (D0 : DataW H) (R : Value → Option (DataW H × List MemPlace)) (w : World) (hown : w.ownsMap Tryz.prog 9 R b nn D0) (hmax : Maps.size D0 ≤ maxLen) (hbytes : Maps.size D0 * 16 ≤ 140737488355328) :
    CallsIn Fence.wide 5 Tryz.prog 65 #[.func (.func 85) #[] #[.pointer (some ⟨w.heap.size, 0, none⟩)]] (w.alloc (.cells #[.map (some b)] 52)) fun e w' => ∃ (v : Value) (ss : List (List UInt8)), e = .returned v ∧ ss.Perm (strKeys D0) ∧
      w'.ownsRow (w.alloc (.cells #[.map (some b)] 52)).heap.size 9 1 v ss.length ((ss.mergeSort (fun x y => decide (x ≤ y))).map encStr) ∧ (v = .slice none 0 0 ↔ ss = []) ∧ Below (w.alloc (.cells #[.map (some b)] 52)).heap.size (w.alloc (.cells #[.map (some b)] 52)) w' := by
  have hbl := hown.lt
  have hseq : SeqGives Fence.wide 2 Tryz.prog 85 #[.pointer (some ⟨w.heap.size, 0, none⟩)] encStr (fun ss => ss.Perm (strKeys D0)) (Maps.size D0) (w.alloc (.cells #[.map (some b)] 52)) :=
    AnyZ.keys_gives (ρ := renKe) { laysKe with } Fence.wide _ trivial rfl (by omega) w.heap.size b nn D0 _ (by simp) (by simp) (by
      obtain ⟨es, clock, hb, Ft, hs, hD⟩ := hown
      exact ⟨es, clock, (Below.heap_alloc _ _ b hbl).trans hb, Ft, hs, hD⟩)
  exact AnyZ.sorted_in laysSo Fence.wide 5 trivial trivial trivial trivial rfl (by omega) (sortsS _) (enters_of Tryz.func84 (by kernel_rfl) rfl) 85 #[.pointer (some ⟨w.heap.size, 0, none⟩)] trivial (enters_of Tryz.func85 (by kernel_rfl) rfl) _ _ hmax hbytes _ hseq
set_option maxRecDepth 100000 in
set_option maxHeartbeats 1000000 in
theorem inOrder_any {W : World} {b : Nat} {m : MM} {c : Nat} (B : PMap W b m c) (hc : c ≤ 1000000) :
    Calls Tryz.prog 48 #[.map (some b)] W fun e W' => ∃ v ns, e = .returned v ∧ Nm m ns ∧ SRow W' v ns ∧ (∀ k, v.ownBlock = some k → W.heap.size ≤ k) ∧ Below W.heap.size W W' := by
  obtain ⟨D, hown, hPD⟩ := B
  have hsz := hown.size_le
  have KS := sorted_keys b c D R7 W hown (by unfold maxLen; omega) (by omega)
  refine (callsIn_wide (n := 6)).1 ?_
  have hfK : Fence.wide.fn 66 := trivial
  have hfS : Fence.wide.fn 65 := trivial
  refine callsIn_of_wp Tryz.func48 rfl trivial ?_ rfl
  simp only [Tryz.ntmps48, List.size_toArray, List.length_cons, List.length_nil, Nat.reduceAdd, Nat.reduceSub, Array.replicate_succ, Array.replicate_zero, List.push_toArray, List.append_toArray, List.nil_append, List.cons_append]
  gi_wp2_with (first
    | (gi_at_call 66; refine (maps_keys _ _).mono ?_; rintro e w' ⟨rfl, rfl⟩)
    | (gi_at_call 65; refine KS.mono ?_; rintro e w' ⟨v, ss, rfl, hS, hrow, hnil, hb⟩))
  go_ret
  have hb1 : Below W.heap.size W w' := ((Below.refl _ W).alloc (Nat.le_refl _) _).trans (hb.mono (by simp))
  have e1 : (ss.mergeSort (fun x y => decide (x ≤ y))) = (strKeys D).mergeSort leB := mergeSort_of_perm hS
  have e2 : ((strKeys D).mergeSort leB).map encStr = (nsOf D).map Value.string := by unfold nsOf; rw [List.map_map]; exact List.map_congr_left (fun x _ => rfl)
  have e3 : ss.length = (nsOf D).length := by unfold nsOf; rw [List.length_map, List.length_mergeSort]; exact hS.length_eq
  rw [e1, e2, e3] at hrow
  refine ⟨v, nsOf D, rfl, nsOf_nm hown hPD, ownsRow_base_a hrow (Nat.zero_le _), fun k hk => ?_, hb1⟩
  have := (World.ownsRow.lt hrow k hk).1
  simp at this
  omega
set_option maxRecDepth 100000 in
theorem clone_map {W : World} {b : Nat} {m : MM} {c : Nat} (B : PMap W b m c) :
    Calls Tryz.prog 58 #[.map (some b)] W fun e W' => e = .returned (.map (some W.heap.size)) ∧ PMap W' W.heap.size m c ∧ Below W.heap.size W W' := by
  obtain ⟨D, hown, hPD⟩ := B
  refine (AnyW.maps_Clone_owns (ρ := renCl) laysCl 9 R7 b c D W hown).mono ?_
  rintro e W' ⟨rfl, h1, _, h2⟩
  exact ⟨rfl, ⟨D, h1, hPD⟩, h2⟩
end Go.Proofs.YtckddmdgmjekdaaGreat
