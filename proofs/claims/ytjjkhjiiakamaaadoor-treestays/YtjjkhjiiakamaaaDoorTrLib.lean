/- The library's slices.Sort, slices.Compact and slices.BinarySearch at []int, laid off the shelf. -/
import Derived.Shelf.SortM.Plain
import Derived.Shelf.SortM.SortNone
import Derived.Shelf.Slices.CompactI
import Derived.Shelf.Slices.SearchI
import Derived.Shelf.Slices.Empties
import Derived.Test.YtjjkhjiiakamaaaDoorTrB
namespace Go.Proofs.YtjjkhjiiakamaaaDoor
open Go.Shelf Go.RowKit Go.Maps Go.Sort
def renSo : Go.Shelf.Ren := ⟨fun | 0 => 0 | 1 => 1 | 2 => 2 | 5 => 63 | 7 => 76 | 8 => 77 | 10 => 82 | 11 => 83 | 12 => 84 | 13 => 85 | 14 => 86 | 15 => 87 | 16 => 66 | 17 => 88 | 18 => 89 | 19 => 90 | 20 => 91 | 30 => 93 | 31 => 94 | 32 => 95 | 33 => 96 | 34 => 97 | 35 => 80 | 40 => 98 | 42 => 99 | 43 => 100 | 44 => 101 | 45 => 102 | 46 => 103 | 47 => 104 | 48 => 105 | 49 => 106 | 50 => 107 | 51 => 108 | 52 => 109 | 53 => 110 | 54 => 111 | 55 => 112 | 56 => 113 | 57 => 115 | n => n, fun | 0 => 0 | 1 => 1 | 2 => 2 | 3 => 3 | 4 => 4 | 5 => 5 | 6 => 6 | 7 => 7 | 8 => 8 | 9 => 9 | 10 => 10 | 11 => 11 | 12 => 12 | 13 => 13 | 14 => 14 | 15 => 15 | 16 => 16 | 17 => 17 | 18 => 18 | 19 => 19 | 20 => 20 | 21 => 21 | 22 => 32 | 23 => 32 | 24 => 77 | 25 => 3 | 30 => 86 | 31 => 87 | 32 => 80 | 34 => 89 | 35 => 90 | 36 => 91 | 37 => 92 | 38 => 93 | 39 => 44 | 40 => 94 | 41 => 71 | 42 => 95 | 43 => 96 | 44 => 97 | 45 => 82 | 46 => 83 | 53 => 98 | 54 => 99 | 55 => 100 | 56 => 101 | 57 => 102 | 58 => 103 | 59 => 67 | 63 => 104 | 64 => 84 | 65 => 105 | 67 => 106 | 68 => 107 | 69 => 108 | 70 => 109 | 71 => 110 | 72 => 111 | 73 => 112 | 74 => 113 | 75 => 114 | 76 => 115 | 77 => 116 | 78 => 117 | 79 => 118 | 80 => 119 | 81 => 120 | 82 => 121 | n => n, fun | n => n⟩
set_option maxRecDepth 100000 in
theorem laysSo : Go.Proofs.SlLaysM.n5 Tryd.prog renSo := {
  mixed := by kernel_rfl
  f5 := ⟨Tryd.f63.name, by decide, Tryd.func63.trans (congrArg some (by kernel_rfl))⟩
  f7 := ⟨Tryd.f76.name, by decide, Tryd.func76.trans (congrArg some (by kernel_rfl))⟩
  f8 := Tryd.func77.trans (congrArg some (by kernel_rfl))
  f10 := ⟨Tryd.f82.name, by decide, Tryd.func82.trans (congrArg some (by kernel_rfl))⟩
  f11 := ⟨Tryd.f83.name, by decide, Tryd.func83.trans (congrArg some (by kernel_rfl))⟩
  f12 := ⟨Tryd.f84.name, by decide, Tryd.func84.trans (congrArg some (by kernel_rfl))⟩
  f13 := ⟨Tryd.f85.name, by decide, Tryd.func85.trans (congrArg some (by kernel_rfl))⟩
  f14 := ⟨Tryd.f86.name, by decide, Tryd.func86.trans (congrArg some (by kernel_rfl))⟩
  f15 := ⟨Tryd.f87.name, by decide, Tryd.func87.trans (congrArg some (by kernel_rfl))⟩
  f16 := ⟨Tryd.f66.name, by decide, Tryd.func66.trans (congrArg some (by kernel_rfl))⟩
  f17 := ⟨Tryd.f88.name, by decide, Tryd.func88.trans (congrArg some (by kernel_rfl))⟩
  f18 := ⟨Tryd.f89.name, by decide, Tryd.func89.trans (congrArg some (by kernel_rfl))⟩
  f19 := Tryd.func90.trans (congrArg some (by kernel_rfl))
  f20 := Tryd.func91.trans (congrArg some (by kernel_rfl))
  f30 := ⟨Tryd.f93.name, by decide, Tryd.func93.trans (congrArg some (by kernel_rfl))⟩
  f31 := Tryd.func94.trans (congrArg some (by kernel_rfl))
  f32 := Tryd.func95.trans (congrArg some (by kernel_rfl))
  f33 := ⟨Tryd.f96.name, by decide, Tryd.func96.trans (congrArg some (by kernel_rfl))⟩
  f34 := ⟨Tryd.f97.name, by decide, Tryd.func97.trans (congrArg some (by kernel_rfl))⟩
  f35 := ⟨Tryd.f80.name, by decide, Tryd.func80.trans (congrArg some (by kernel_rfl))⟩
  f40 := ⟨Tryd.f98.name, by decide, Tryd.func98.trans (congrArg some (by kernel_rfl))⟩
  t0 := Tryd.underlying0
  a0 := Tryd.isAgg0
  z0 := Tryd.sizeOf0
  v0 := Tryd.zeroValue0
  t3 := Tryd.underlying3
  a3 := Tryd.isAgg3
  z3 := Tryd.sizeOf3
  v3 := Tryd.zeroValue3
  t4 := Tryd.underlying4
  a4 := Tryd.isAgg4
  z4 := Tryd.sizeOf4
  v4 := Tryd.zeroValue4
  t5 := Tryd.underlying5
  a5 := Tryd.isAgg5
  z5 := Tryd.sizeOf5
  v5 := Tryd.zeroValue5
  t9 := Tryd.underlying9
  a9 := Tryd.isAgg9
  z9 := Tryd.sizeOf9
  v9 := Tryd.zeroValue9
  t22 := Tryd.underlying32
  a22 := Tryd.isAgg32
  z22 := Tryd.sizeOf32
  v22 := Tryd.zeroValue32
  t23 := Tryd.underlying32
  a23 := Tryd.isAgg32
  z23 := Tryd.sizeOf32
  v23 := Tryd.zeroValue32
  t25 := Tryd.underlying3
  a25 := Tryd.isAgg3
  z25 := Tryd.sizeOf3
  v25 := Tryd.zeroValue3
  t32 := Tryd.underlying80
  a32 := Tryd.isAgg80
  z32 := Tryd.sizeOf80
  v32 := Tryd.zeroValue80
  t35 := Tryd.underlying90
  a35 := Tryd.isAgg90
  z35 := Tryd.sizeOf90
  v35 := Tryd.zeroValue90
  t36 := Tryd.underlying91
  a36 := Tryd.isAgg91
  z36 := Tryd.sizeOf91
  v36 := Tryd.zeroValue91
  t41 := Tryd.underlying71
  a41 := Tryd.isAgg71
  z41 := Tryd.sizeOf71
  v41 := Tryd.zeroValue71
  t44 := Tryd.underlying97
  a44 := Tryd.isAgg97
  z44 := Tryd.sizeOf97
  v44 := Tryd.zeroValue97
  t46 := Tryd.underlying83
  a46 := Tryd.isAgg83
  z46 := Tryd.sizeOf83
  v46 := Tryd.zeroValue83
  t53 := Tryd.underlying98
  a53 := Tryd.isAgg98
  z53 := Tryd.sizeOf98
  v53 := Tryd.zeroValue98
  t57 := Tryd.underlying102
  a57 := Tryd.isAgg102
  z57 := Tryd.sizeOf102
  v57 := Tryd.zeroValue102
  t63 := Tryd.underlying104
  a63 := Tryd.isAgg104
  z63 := Tryd.sizeOf104
  v63 := Tryd.zeroValue104
  t64 := Tryd.underlying84
  a64 := Tryd.isAgg84
  z64 := Tryd.sizeOf84
  v64 := Tryd.zeroValue84 }

def renCo : Go.Shelf.Ren := ⟨fun | 0 => 0 | 1 => 1 | 2 => 2 | 20 => 64 | 21 => 53 | 25 => 52 | 27 => 68 | 28 => 69 | 31 => 66 | 32 => 67 | 35 => 81 | 37 => 80 | 39 => 92 | 40 => 99 | 41 => 100 | 42 => 101 | 43 => 102 | 44 => 103 | 45 => 104 | 46 => 105 | 47 => 106 | 48 => 107 | 49 => 108 | 50 => 109 | 51 => 110 | 52 => 111 | 53 => 112 | 54 => 113 | 55 => 115 | n => n, fun | 0 => 0 | 1 => 1 | 2 => 2 | 3 => 3 | 4 => 4 | 5 => 5 | 6 => 6 | 7 => 7 | 8 => 8 | 9 => 9 | 10 => 10 | 11 => 11 | 12 => 12 | 13 => 13 | 14 => 14 | 15 => 15 | 16 => 16 | 17 => 17 | 18 => 18 | 19 => 19 | 20 => 20 | 21 => 21 | 22 => 32 | 23 => 78 | 28 => 73 | 33 => 71 | 34 => 72 | 36 => 39 | 37 => 81 | 40 => 80 | 41 => 44 | 42 => 67 | 45 => 77 | 46 => 106 | 47 => 107 | 48 => 108 | 49 => 109 | 50 => 110 | 51 => 111 | 52 => 112 | 53 => 97 | 54 => 113 | 55 => 114 | 56 => 115 | 57 => 116 | 58 => 117 | 59 => 118 | 60 => 119 | 61 => 120 | 62 => 121 | n => n, fun | n => n⟩
set_option maxRecDepth 100000 in
theorem laysCo : Go.Proofs.Lays2.n20 Tryd.prog renCo := {
  mixed := by kernel_rfl
  f20 := Tryd.func64.trans (congrArg some (by kernel_rfl))
  t0 := Tryd.underlying0
  a0 := Tryd.isAgg0
  z0 := Tryd.sizeOf0
  v0 := Tryd.zeroValue0
  t3 := Tryd.underlying3
  a3 := Tryd.isAgg3
  z3 := Tryd.sizeOf3
  v3 := Tryd.zeroValue3
  t4 := Tryd.underlying4
  a4 := Tryd.isAgg4
  z4 := Tryd.sizeOf4
  v4 := Tryd.zeroValue4
  t22 := Tryd.underlying32
  a22 := Tryd.isAgg32
  z22 := Tryd.sizeOf32
  v22 := Tryd.zeroValue32
  i3 := by kernel_rfl }

def renSe : Go.Shelf.Ren := ⟨fun | 0 => 0 | 1 => 1 | 2 => 2 | 20 => 64 | 21 => 53 | 25 => 52 | 27 => 68 | 28 => 69 | 31 => 66 | 32 => 67 | 35 => 81 | 37 => 80 | 39 => 92 | 40 => 99 | 41 => 100 | 42 => 101 | 43 => 102 | 44 => 103 | 45 => 104 | 46 => 105 | 47 => 106 | 48 => 107 | 49 => 108 | 50 => 109 | 51 => 110 | 52 => 111 | 53 => 112 | 54 => 113 | 55 => 115 | n => n, fun | 0 => 0 | 1 => 1 | 2 => 2 | 3 => 3 | 4 => 4 | 5 => 5 | 6 => 6 | 7 => 7 | 8 => 8 | 9 => 9 | 10 => 10 | 11 => 11 | 12 => 12 | 13 => 13 | 14 => 14 | 15 => 15 | 16 => 16 | 17 => 17 | 18 => 18 | 19 => 19 | 20 => 20 | 21 => 21 | 22 => 32 | 23 => 78 | 28 => 73 | 33 => 71 | 34 => 72 | 36 => 39 | 37 => 81 | 40 => 80 | 41 => 44 | 42 => 67 | 45 => 77 | 46 => 106 | 47 => 107 | 48 => 108 | 49 => 109 | 50 => 110 | 51 => 111 | 52 => 112 | 53 => 97 | 54 => 113 | 55 => 114 | 56 => 115 | 57 => 116 | 58 => 117 | 59 => 118 | 60 => 119 | 61 => 120 | 62 => 121 | n => n, fun | n => n⟩
set_option maxRecDepth 100000 in
theorem laysSe : Go.Proofs.Lays2.n25 Tryd.prog renSe := {
  mixed := by kernel_rfl
  f25 := Tryd.func52.trans (congrArg some (by kernel_rfl))
  f31 := Tryd.func66.trans (congrArg some (by kernel_rfl))
  f32 := Tryd.func67.trans (congrArg some (by kernel_rfl))
  f37 := Tryd.func80.trans (congrArg some (by kernel_rfl))
  t0 := Tryd.underlying0
  a0 := Tryd.isAgg0
  z0 := Tryd.sizeOf0
  v0 := Tryd.zeroValue0
  t3 := Tryd.underlying3
  a3 := Tryd.isAgg3
  z3 := Tryd.sizeOf3
  v3 := Tryd.zeroValue3
  t4 := Tryd.underlying4
  a4 := Tryd.isAgg4
  z4 := Tryd.sizeOf4
  v4 := Tryd.zeroValue4
  t22 := Tryd.underlying32
  a22 := Tryd.isAgg32
  z22 := Tryd.sizeOf32
  v22 := Tryd.zeroValue32
  t40 := Tryd.underlying80
  a40 := Tryd.isAgg80
  z40 := Tryd.sizeOf80
  v40 := Tryd.zeroValue80 }

end Go.Proofs.YtjjkhjiiakamaaaDoor
