/- Texts joined: StLib StD. -/
import Derived.Shelf.SlMaps.Clone
import Derived.Shelf.SlIter.Nil
import Derived.Shelf.SortM.Plain
import Derived.Shelf.SortM.SortNone
import Derived.Test.YtfnpeiikjiffeaaGreatStMem
/- The library's maps.Clone, maps.Keys, slices.Sorted and slices.Sort, laid off the shelf. -/
namespace Go.Proofs.YtfnpeiikjiffeaaGreat
open Go.Shelf Go.RowKit Go.Maps Go.Sort
def renCl : Go.Shelf.Ren := ⟨fun | 0 => 0 | 1 => 1 | 2 => 2 | 5 => 67 | 7 => 90 | 8 => 143 | 9 => 144 | 10 => 145 | 11 => 146 | 12 => 147 | 13 => 148 | 14 => 149 | 15 => 150 | 16 => 151 | 17 => 152 | 18 => 153 | 19 => 154 | 20 => 155 | 21 => 156 | 22 => 157 | 23 => 163 | n => n, fun | 0 => 0 | 1 => 1 | 2 => 2 | 3 => 48 | 4 => 4 | 5 => 5 | 6 => 6 | 7 => 7 | 8 => 8 | 9 => 9 | 10 => 10 | 11 => 11 | 12 => 12 | 13 => 13 | 14 => 14 | 15 => 15 | 16 => 16 | 17 => 17 | 18 => 18 | 19 => 19 | 20 => 20 | 21 => 21 | 23 => 82 | 24 => 117 | 25 => 9 | 28 => 152 | 29 => 57 | 30 => 195 | 31 => 196 | 32 => 197 | 33 => 198 | 34 => 199 | 35 => 44 | 36 => 182 | 37 => 200 | 38 => 201 | 39 => 202 | 40 => 162 | 41 => 203 | 42 => 204 | 43 => 205 | 44 => 206 | 45 => 169 | n => n, fun | n => n⟩
set_option maxRecDepth 100000 in
theorem laysCl : Go.Proofs.SlLaysW.n5 Tryz.prog renCl := {
  mixed := by kernel_rfl
  f5 := ⟨Tryz.f67.name, by decide, Tryz.func67.trans (congrArg some (by kernel_rfl))⟩
  f7 := Tryz.func90.trans (congrArg some (by kernel_rfl))
  t4 := Tryz.underlying4
  a4 := Tryz.isAgg4
  z4 := Tryz.sizeOf4
  v4 := Tryz.zeroValue4
  t20 := Tryz.underlying20
  a20 := Tryz.isAgg20
  z20 := Tryz.sizeOf20
  v20 := Tryz.zeroValue20
  t23 := Tryz.underlying82
  a23 := Tryz.isAgg82
  z23 := Tryz.sizeOf82
  v23 := Tryz.zeroValue82 }

def renKe : Go.Shelf.Ren := ⟨fun | 0 => 0 | 1 => 1 | 2 => 2 | 6 => 81 | 7 => 82 | 8 => 100 | 9 => 101 | 10 => 102 | 11 => 114 | 12 => 115 | 13 => 116 | 14 => 123 | 15 => 124 | 16 => 125 | 17 => 126 | 18 => 127 | 19 => 128 | 20 => 129 | 21 => 130 | 22 => 131 | 23 => 132 | 24 => 133 | 25 => 136 | 26 => 137 | 27 => 138 | 28 => 139 | 29 => 140 | 30 => 141 | 31 => 142 | 32 => 143 | 33 => 144 | 34 => 145 | 35 => 146 | 36 => 147 | 37 => 148 | 38 => 149 | 39 => 150 | 40 => 151 | 41 => 152 | 42 => 153 | 43 => 154 | 44 => 155 | 45 => 156 | 46 => 157 | 47 => 163 | n => n, fun | 0 => 0 | 1 => 1 | 2 => 2 | 3 => 48 | 4 => 4 | 5 => 5 | 6 => 6 | 7 => 7 | 8 => 8 | 9 => 9 | 10 => 10 | 11 => 11 | 12 => 12 | 13 => 13 | 14 => 14 | 15 => 15 | 16 => 16 | 17 => 17 | 18 => 18 | 19 => 19 | 20 => 20 | 21 => 21 | 23 => 82 | 24 => 71 | 25 => 135 | 26 => 9 | 27 => 136 | 28 => 137 | 29 => 138 | 30 => 108 | 32 => 159 | 33 => 160 | 34 => 165 | 35 => 166 | 36 => 167 | 37 => 129 | 38 => 172 | 39 => 173 | 40 => 174 | 41 => 175 | 42 => 176 | 43 => 177 | 44 => 178 | 45 => 179 | 46 => 180 | 47 => 181 | 48 => 182 | 49 => 183 | 50 => 127 | 51 => 185 | 52 => 186 | 53 => 187 | 54 => 188 | 55 => 189 | 56 => 190 | 57 => 192 | 58 => 193 | 59 => 194 | 60 => 57 | 61 => 195 | 62 => 196 | 63 => 197 | 64 => 198 | 65 => 199 | 66 => 44 | 67 => 200 | 68 => 201 | 69 => 202 | 70 => 162 | 71 => 203 | 72 => 204 | 73 => 205 | 74 => 206 | 75 => 169 | n => n, fun | n => n⟩
set_option maxRecDepth 100000 in
theorem laysKe : Go.Proofs.SlLaysZ.n7 Tryz.prog renKe := {
  mixed := by kernel_rfl
  f7 := ⟨Tryz.f82.name, by decide, Tryz.func82.trans (congrArg some (by kernel_rfl))⟩
  f10 := ⟨Tryz.f102.name, by decide, Tryz.func102.trans (congrArg some (by kernel_rfl))⟩
  t0 := Tryz.underlying0
  a0 := Tryz.isAgg0
  z0 := Tryz.sizeOf0
  v0 := Tryz.zeroValue0
  t4 := Tryz.underlying4
  a4 := Tryz.isAgg4
  z4 := Tryz.sizeOf4
  v4 := Tryz.zeroValue4
  t23 := Tryz.underlying82
  a23 := Tryz.isAgg82
  z23 := Tryz.sizeOf82
  v23 := Tryz.zeroValue82
  t26 := Tryz.underlying9
  a26 := Tryz.isAgg9
  z26 := Tryz.sizeOf9
  v26 := Tryz.zeroValue9
  t27 := Tryz.underlying136
  a27 := Tryz.isAgg136
  z27 := Tryz.sizeOf136
  v27 := Tryz.zeroValue136
  t28 := Tryz.underlying137
  a28 := Tryz.isAgg137
  z28 := Tryz.sizeOf137
  v28 := Tryz.zeroValue137
  t33 := Tryz.underlying160
  a33 := Tryz.isAgg160
  z33 := Tryz.sizeOf160
  v33 := Tryz.zeroValue160 }

def renSo : Go.Shelf.Ren := ⟨fun | 0 => 0 | 1 => 1 | 2 => 2 | 6 => 81 | 8 => 100 | 9 => 101 | 11 => 114 | 12 => 115 | 13 => 116 | 14 => 123 | 15 => 124 | 16 => 125 | 17 => 126 | 18 => 127 | 19 => 128 | 20 => 129 | 21 => 130 | 22 => 131 | 23 => 132 | 24 => 133 | 25 => 136 | 26 => 137 | 27 => 138 | 28 => 139 | 29 => 140 | 30 => 141 | 31 => 142 | 32 => 143 | 33 => 144 | 34 => 145 | 35 => 146 | 36 => 147 | 37 => 148 | 38 => 149 | 39 => 150 | 40 => 151 | 41 => 152 | 42 => 153 | 43 => 154 | 44 => 155 | 45 => 156 | 46 => 157 | 47 => 163 | n => n, fun | 0 => 0 | 1 => 1 | 2 => 2 | 3 => 3 | 4 => 4 | 5 => 5 | 6 => 6 | 7 => 7 | 8 => 8 | 9 => 9 | 10 => 10 | 11 => 11 | 12 => 12 | 13 => 13 | 14 => 14 | 15 => 15 | 16 => 16 | 17 => 17 | 18 => 18 | 19 => 19 | 20 => 20 | 21 => 21 | 24 => 71 | 25 => 135 | 26 => 9 | 27 => 136 | 28 => 137 | 32 => 159 | 33 => 160 | 34 => 165 | 35 => 166 | 36 => 167 | 37 => 129 | 38 => 172 | 39 => 173 | 40 => 174 | 41 => 175 | 42 => 176 | 43 => 177 | 44 => 178 | 45 => 179 | 46 => 180 | 47 => 181 | 48 => 182 | 49 => 183 | 50 => 127 | 51 => 185 | 52 => 186 | 53 => 187 | 54 => 188 | 55 => 189 | 56 => 190 | 57 => 192 | 58 => 193 | 59 => 194 | 60 => 57 | 61 => 195 | 62 => 196 | 63 => 197 | 64 => 198 | 65 => 199 | 66 => 44 | 67 => 200 | 68 => 201 | 69 => 202 | 70 => 162 | 71 => 203 | 72 => 204 | 73 => 205 | 74 => 206 | 75 => 169 | n => n, fun | n => n⟩
set_option maxRecDepth 100000 in
theorem laysSo : Go.Proofs.SlLaysZ.n6 Tryz.prog renSo := {
  mixed := by kernel_rfl
  f6 := ⟨Tryz.f81.name, by decide, Tryz.func81.trans (congrArg some (by kernel_rfl))⟩
  f8 := ⟨Tryz.f100.name, by decide, Tryz.func100.trans (congrArg some (by kernel_rfl))⟩
  f11 := ⟨Tryz.f114.name, by decide, Tryz.func114.trans (congrArg some (by kernel_rfl))⟩
  t0 := Tryz.underlying0
  a0 := Tryz.isAgg0
  z0 := Tryz.sizeOf0
  v0 := Tryz.zeroValue0
  t24 := Tryz.underlying71
  a24 := Tryz.isAgg71
  z24 := Tryz.sizeOf71
  v24 := Tryz.zeroValue71
  t26 := Tryz.underlying9
  a26 := Tryz.isAgg9
  z26 := Tryz.sizeOf9
  v26 := Tryz.zeroValue9
  t28 := Tryz.underlying137
  a28 := Tryz.isAgg137
  z28 := Tryz.sizeOf137
  v28 := Tryz.zeroValue137
  i26 := by kernel_rfl }

def renSs : Go.Shelf.Ren := ⟨fun | 0 => 0 | 1 => 1 | 2 => 2 | 6 => 101 | 8 => 116 | 9 => 115 | 19 => 132 | 20 => 133 | 21 => 123 | 22 => 124 | 23 => 125 | 24 => 126 | 25 => 127 | 26 => 128 | 27 => 129 | 28 => 130 | 29 => 131 | 31 => 137 | 32 => 138 | 36 => 136 | 37 => 139 | 38 => 140 | 39 => 141 | 41 => 142 | 42 => 143 | 43 => 144 | 44 => 145 | 45 => 146 | 46 => 147 | 47 => 148 | 48 => 149 | 49 => 150 | 50 => 151 | 51 => 152 | 52 => 153 | 53 => 154 | 54 => 155 | 55 => 156 | 56 => 157 | 57 => 163 | n => n, fun | 0 => 0 | 1 => 1 | 2 => 2 | 3 => 3 | 4 => 4 | 5 => 5 | 6 => 6 | 7 => 7 | 8 => 8 | 9 => 9 | 10 => 10 | 11 => 11 | 12 => 12 | 13 => 13 | 14 => 14 | 15 => 15 | 16 => 16 | 17 => 17 | 18 => 18 | 19 => 19 | 20 => 20 | 21 => 21 | 26 => 71 | 27 => 71 | 28 => 159 | 29 => 9 | 31 => 167 | 32 => 129 | 33 => 166 | 35 => 173 | 36 => 174 | 41 => 179 | 43 => 181 | 44 => 182 | 45 => 183 | 46 => 127 | 47 => 172 | 48 => 175 | 49 => 176 | 50 => 177 | 51 => 178 | 52 => 180 | 53 => 185 | 54 => 186 | 55 => 187 | 57 => 189 | 60 => 188 | 61 => 190 | 62 => 160 | 63 => 192 | 64 => 193 | 66 => 194 | 67 => 57 | 68 => 195 | 69 => 196 | 70 => 197 | 71 => 198 | 72 => 199 | 73 => 44 | 74 => 200 | 75 => 201 | 76 => 202 | 77 => 162 | 78 => 203 | 79 => 204 | 80 => 205 | 81 => 206 | 82 => 169 | n => n, fun | n => n⟩
set_option maxRecDepth 100000 in
theorem laysSs : Go.Proofs.SlLaysM.n6 Tryz.prog renSs := {
  mixed := by kernel_rfl
  f6 := ⟨Tryz.f101.name, by decide, Tryz.func101.trans (congrArg some (by kernel_rfl))⟩
  f8 := Tryz.func116.trans (congrArg some (by kernel_rfl))
  f9 := ⟨Tryz.f115.name, by decide, Tryz.func115.trans (congrArg some (by kernel_rfl))⟩
  f19 := Tryz.func132.trans (congrArg some (by kernel_rfl))
  f20 := Tryz.func133.trans (congrArg some (by kernel_rfl))
  f21 := ⟨Tryz.f123.name, by decide, Tryz.func123.trans (congrArg some (by kernel_rfl))⟩
  f22 := ⟨Tryz.f124.name, by decide, Tryz.func124.trans (congrArg some (by kernel_rfl))⟩
  f23 := ⟨Tryz.f125.name, by decide, Tryz.func125.trans (congrArg some (by kernel_rfl))⟩
  f24 := ⟨Tryz.f126.name, by decide, Tryz.func126.trans (congrArg some (by kernel_rfl))⟩
  f25 := ⟨Tryz.f127.name, by decide, Tryz.func127.trans (congrArg some (by kernel_rfl))⟩
  f26 := ⟨Tryz.f128.name, by decide, Tryz.func128.trans (congrArg some (by kernel_rfl))⟩
  f27 := ⟨Tryz.f129.name, by decide, Tryz.func129.trans (congrArg some (by kernel_rfl))⟩
  f28 := ⟨Tryz.f130.name, by decide, Tryz.func130.trans (congrArg some (by kernel_rfl))⟩
  f29 := ⟨Tryz.f131.name, by decide, Tryz.func131.trans (congrArg some (by kernel_rfl))⟩
  f31 := Tryz.func137.trans (congrArg some (by kernel_rfl))
  f32 := Tryz.func138.trans (congrArg some (by kernel_rfl))
  f36 := ⟨Tryz.f136.name, by decide, Tryz.func136.trans (congrArg some (by kernel_rfl))⟩
  f37 := ⟨Tryz.f139.name, by decide, Tryz.func139.trans (congrArg some (by kernel_rfl))⟩
  f38 := ⟨Tryz.f140.name, by decide, Tryz.func140.trans (congrArg some (by kernel_rfl))⟩
  f39 := ⟨Tryz.f141.name, by decide, Tryz.func141.trans (congrArg some (by kernel_rfl))⟩
  f41 := ⟨Tryz.f142.name, by decide, Tryz.func142.trans (congrArg some (by kernel_rfl))⟩
  t0 := Tryz.underlying0
  a0 := Tryz.isAgg0
  z0 := Tryz.sizeOf0
  v0 := Tryz.zeroValue0
  t3 := Tryz.underlying3
  a3 := Tryz.isAgg3
  z3 := Tryz.sizeOf3
  v3 := Tryz.zeroValue3
  t4 := Tryz.underlying4
  a4 := Tryz.isAgg4
  z4 := Tryz.sizeOf4
  v4 := Tryz.zeroValue4
  t5 := Tryz.underlying5
  a5 := Tryz.isAgg5
  z5 := Tryz.sizeOf5
  v5 := Tryz.zeroValue5
  t9 := Tryz.underlying9
  a9 := Tryz.isAgg9
  z9 := Tryz.sizeOf9
  v9 := Tryz.zeroValue9
  t26 := Tryz.underlying71
  a26 := Tryz.isAgg71
  z26 := Tryz.sizeOf71
  v26 := Tryz.zeroValue71
  t27 := Tryz.underlying71
  a27 := Tryz.isAgg71
  z27 := Tryz.sizeOf71
  v27 := Tryz.zeroValue71
  t29 := Tryz.underlying9
  a29 := Tryz.isAgg9
  z29 := Tryz.sizeOf9
  v29 := Tryz.zeroValue9
  t32 := Tryz.underlying129
  a32 := Tryz.isAgg129
  z32 := Tryz.sizeOf129
  v32 := Tryz.zeroValue129
  t35 := Tryz.underlying173
  a35 := Tryz.isAgg173
  z35 := Tryz.sizeOf173
  v35 := Tryz.zeroValue173
  t36 := Tryz.underlying174
  a36 := Tryz.isAgg174
  z36 := Tryz.sizeOf174
  v36 := Tryz.zeroValue174
  t41 := Tryz.underlying179
  a41 := Tryz.isAgg179
  z41 := Tryz.sizeOf179
  v41 := Tryz.zeroValue179
  t44 := Tryz.underlying182
  a44 := Tryz.isAgg182
  z44 := Tryz.sizeOf182
  v44 := Tryz.zeroValue182
  t46 := Tryz.underlying127
  a46 := Tryz.isAgg127
  z46 := Tryz.sizeOf127
  v46 := Tryz.zeroValue127
  t53 := Tryz.underlying185
  a53 := Tryz.isAgg185
  z53 := Tryz.sizeOf185
  v53 := Tryz.zeroValue185
  t57 := Tryz.underlying189
  a57 := Tryz.isAgg189
  z57 := Tryz.sizeOf189
  v57 := Tryz.zeroValue189
  t63 := Tryz.underlying192
  a63 := Tryz.isAgg192
  z63 := Tryz.sizeOf192
  v63 := Tryz.zeroValue192
  t64 := Tryz.underlying193
  a64 := Tryz.isAgg193
  z64 := Tryz.sizeOf193
  v64 := Tryz.zeroValue193 }

end Go.Proofs.YtfnpeiikjiffeaaGreat

/- A map's names in order; a map's copy. -/
namespace Go.Proofs.YtfnpeiikjiffeaaGreat
open Go.Shelf Go.RowKit Go.Maps Go.Sort

theorem sortsS (m : Nat) : AnyZ.SortsIn Tryz.prog renSo Fence.wide m :=
  ⟨fun blk off cap ss W hH hblk hsz => callsIn_wide.2 (AnyM.slices_Sort_string laysSs blk off cap ss W hH hblk hsz),
   fun p cap W => callsIn_wide.2 (AnyM.slices_Sort_string_none laysSs p cap W)⟩
theorem maps_keys (mb : Option Nat) (W : World) : CallsIn Fence.wide 5 Tryz.prog 82 #[.map mb] W fun e w' => e = .returned (.func (.func 102) #[] #[.pointer (some ⟨W.heap.size, 0, none⟩)]) ∧ w' = W.alloc (.cells #[.map mb] 82) :=
  AnyZ.keys_in laysKe Fence.wide 5 trivial rfl mb W
set_option maxRecDepth 100000 in
set_option maxHeartbeats 1000000 in
theorem sorted_keys {H : Type} (b nn : Nat) (D0 : DataW H) (R : Value → Option (DataW H × List MemPlace)) (w : World) (hown : w.ownsMap Tryz.prog 9 R b nn D0) (hmax : Maps.size D0 ≤ maxLen) (hbytes : Maps.size D0 * 16 ≤ 140737488355328) :
    CallsIn Fence.wide 5 Tryz.prog 81 #[.func (.func 102) #[] #[.pointer (some ⟨w.heap.size, 0, none⟩)]] (w.alloc (.cells #[.map (some b)] 82)) fun e w' => ∃ (v : Value) (ss : List (List UInt8)), e = .returned v ∧ ss.Perm (strKeys D0) ∧
      w'.ownsRow (w.alloc (.cells #[.map (some b)] 82)).heap.size 9 1 v ss.length ((ss.mergeSort (fun x y => decide (x ≤ y))).map encStr) ∧ (v = .slice none 0 0 ↔ ss = []) ∧ Below (w.alloc (.cells #[.map (some b)] 82)).heap.size (w.alloc (.cells #[.map (some b)] 82)) w' := by
  have hbl := hown.lt
  have hseq : SeqGives Fence.wide 2 Tryz.prog 102 #[.pointer (some ⟨w.heap.size, 0, none⟩)] encStr (fun ss => ss.Perm (strKeys D0)) (Maps.size D0) (w.alloc (.cells #[.map (some b)] 82)) :=
    AnyZ.keys_gives (ρ := renKe) { laysKe with } Fence.wide _ trivial rfl (by omega) w.heap.size b nn D0 _ (by simp) (by simp) (by
      obtain ⟨es, clock, hb, Ft, hs, hD⟩ := hown
      exact ⟨es, clock, (Below.heap_alloc _ _ b hbl).trans hb, Ft, hs, hD⟩)
  exact AnyZ.sorted_in laysSo Fence.wide 5 trivial trivial trivial trivial rfl (by omega) (sortsS _) (enters_of Tryz.func101 (by kernel_rfl) rfl) 102 #[.pointer (some ⟨w.heap.size, 0, none⟩)] trivial (enters_of Tryz.func102 (by kernel_rfl) rfl) _ _ hmax hbytes _ hseq
set_option maxRecDepth 100000 in
set_option maxHeartbeats 1000000 in
theorem inOrder_any {W : World} {b : Nat} {m : MM} {c : Nat} (B : PMap W b m c) (hc : c ≤ 1000000) :
    Calls Tryz.prog 61 #[.map (some b)] W fun e W' => ∃ v ns, e = .returned v ∧ Nm m ns ∧ SRow W' v ns ∧ (∀ k, v.ownBlock = some k → W.heap.size ≤ k) ∧ Below W.heap.size W W' := by
  obtain ⟨D, hown, hPD⟩ := B
  have hsz := hown.size_le
  have KS := sorted_keys b c D R7 W hown (by unfold maxLen; omega) (by omega)
  refine (callsIn_wide (n := 6)).1 ?_
  have hfK : Fence.wide.fn 82 := trivial
  have hfS : Fence.wide.fn 81 := trivial
  refine callsIn_of_wp Tryz.func61 rfl trivial ?_ rfl
  simp only [Tryz.ntmps61, List.size_toArray, List.length_cons, List.length_nil, Nat.reduceAdd, Nat.reduceSub, Array.replicate_succ, Array.replicate_zero, List.push_toArray, List.append_toArray, List.nil_append, List.cons_append]
  gi_wp2_with (first
    | (gi_at_call 82; refine (maps_keys _ _).mono ?_; rintro e w' ⟨rfl, rfl⟩)
    | (gi_at_call 81; refine KS.mono ?_; rintro e w' ⟨v, ss, rfl, hS, hrow, hnil, hb⟩))
  go_ret
  have hb1 : Below W.heap.size W w' := ((Below.refl _ W).alloc (Nat.le_refl _) _).trans (hb.mono (by simp))
  have e1 : (ss.mergeSort (fun x y => decide (x ≤ y))) = (strKeys D).mergeSort leB := mergeSort_of_perm hS
  have e2 : ((strKeys D).mergeSort leB).map encStr = (nsOf D).map Value.string := by unfold nsOf; rw [List.map_map]; exact List.map_congr_left (fun x _ => rfl)
  have e3 : ss.length = (nsOf D).length := by unfold nsOf; rw [List.length_map, List.length_mergeSort]; exact hS.length_eq
  rw [e1, e2, e3] at hrow
  refine ⟨v, nsOf D, rfl, nsOf_nm hown hPD, ownsRow_base_a hrow (Nat.zero_le _), fun k hk => ?_, hb1⟩
  have := (World.ownsRow.lt hrow k hk).1
  simp at this
  omega
set_option maxRecDepth 100000 in
theorem clone_map {W : World} {b : Nat} {m : MM} {c : Nat} (B : PMap W b m c) :
    Calls Tryz.prog 67 #[.map (some b)] W fun e W' => e = .returned (.map (some W.heap.size)) ∧ PMap W' W.heap.size m c ∧ Below W.heap.size W W' := by
  obtain ⟨D, hown, hPD⟩ := B
  refine (AnyW.maps_Clone_owns (ρ := renCl) laysCl 9 R7 b c D W hown).mono ?_
  rintro e W' ⟨rfl, h1, _, h2⟩
  exact ⟨rfl, ⟨D, h1, hPD⟩, h2⟩
end Go.Proofs.YtfnpeiikjiffeaaGreat
