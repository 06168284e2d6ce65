/- The library's slices.ContainsFunc, slices.DeleteFunc and slices.Contains at []int, laid off the shelf; contracts of the two closures. -/
import Derived.Shelf.SlicesE.IndexFunc
import Derived.Shelf.SlicesE.DeleteFunc
import Derived.Shelf.Slices.Turned
import Derived.Test.YtjjkhjiiakamaaaDoorTrO
namespace Go.Proofs.YtjjkhjiiakamaaaDoor
open Go.Shelf Go.RowKit Go.Maps Go.Sort Go.Lib
def renCF : Go.Shelf.Ren := ⟨fun | 0 => 0 | 1 => 1 | 2 => 2 | 6 => 55 | 8 => 39 | 10 => 43 | 12 => 99 | 13 => 100 | 14 => 101 | 15 => 102 | 16 => 103 | 17 => 104 | 18 => 105 | 19 => 106 | 20 => 107 | 21 => 108 | 22 => 109 | 23 => 110 | 24 => 111 | 25 => 112 | 26 => 113 | 27 => 115 | n => n, fun | 0 => 0 | 1 => 1 | 2 => 2 | 3 => 3 | 4 => 4 | 5 => 5 | 6 => 6 | 7 => 7 | 8 => 8 | 9 => 9 | 10 => 10 | 11 => 11 | 12 => 12 | 13 => 13 | 14 => 14 | 15 => 15 | 16 => 16 | 17 => 17 | 18 => 18 | 19 => 19 | 20 => 20 | 21 => 21 | 22 => 32 | 23 => 3 | 24 => 74 | 25 => 67 | 26 => 76 | 27 => 66 | 28 => 54 | 29 => 69 | 31 => 106 | 32 => 107 | 33 => 108 | 34 => 109 | 35 => 110 | 36 => 111 | 37 => 112 | 38 => 97 | 39 => 113 | 40 => 114 | 41 => 115 | 42 => 116 | 43 => 117 | 44 => 118 | 45 => 119 | 46 => 120 | 47 => 121 | n => n, fun | n => n⟩
set_option maxRecDepth 100000 in
theorem laysCF : Go.Proofs.SlLaysH.n8 Tryd.prog renCF := {
  mixed := by kernel_rfl
  f6 := ⟨Tryd.f55.name, by decide, Tryd.func55.trans (congrArg some (by kernel_rfl))⟩
  f8 := ⟨Tryd.f39.name, by decide, Tryd.func39.trans (congrArg some (by kernel_rfl))⟩
  t0 := Tryd.underlying0
  a0 := Tryd.isAgg0
  z0 := Tryd.sizeOf0
  v0 := Tryd.zeroValue0
  t3 := Tryd.underlying3
  a3 := Tryd.isAgg3
  z3 := Tryd.sizeOf3
  v3 := Tryd.zeroValue3
  t4 := Tryd.underlying4
  a4 := Tryd.isAgg4
  z4 := Tryd.sizeOf4
  v4 := Tryd.zeroValue4
  t22 := Tryd.underlying32
  a22 := Tryd.isAgg32
  z22 := Tryd.sizeOf32
  v22 := Tryd.zeroValue32
  a23 := Tryd.isAgg3
  z23 := Tryd.sizeOf3
  t25 := Tryd.underlying67
  a25 := Tryd.isAgg67
  z25 := Tryd.sizeOf67
  v25 := Tryd.zeroValue67 }

def renDF : Go.Shelf.Ren := ⟨fun | 0 => 0 | 1 => 1 | 2 => 2 | 6 => 55 | 8 => 39 | 10 => 43 | 12 => 99 | 13 => 100 | 14 => 101 | 15 => 102 | 16 => 103 | 17 => 104 | 18 => 105 | 19 => 106 | 20 => 107 | 21 => 108 | 22 => 109 | 23 => 110 | 24 => 111 | 25 => 112 | 26 => 113 | 27 => 115 | n => n, fun | 0 => 0 | 1 => 1 | 2 => 2 | 3 => 3 | 4 => 4 | 5 => 5 | 6 => 6 | 7 => 7 | 8 => 8 | 9 => 9 | 10 => 10 | 11 => 11 | 12 => 12 | 13 => 13 | 14 => 14 | 15 => 15 | 16 => 16 | 17 => 17 | 18 => 18 | 19 => 19 | 20 => 20 | 21 => 21 | 22 => 32 | 23 => 3 | 24 => 74 | 25 => 67 | 26 => 76 | 27 => 66 | 28 => 54 | 29 => 69 | 31 => 106 | 32 => 107 | 33 => 108 | 34 => 109 | 35 => 110 | 36 => 111 | 37 => 112 | 38 => 97 | 39 => 113 | 40 => 114 | 41 => 115 | 42 => 116 | 43 => 117 | 44 => 118 | 45 => 119 | 46 => 120 | 47 => 121 | n => n, fun | n => n⟩
set_option maxRecDepth 100000 in
theorem laysDF : Go.Proofs.SlLaysH.n10 Tryd.prog renDF := {
  mixed := by kernel_rfl
  f6 := ⟨Tryd.f55.name, by decide, Tryd.func55.trans (congrArg some (by kernel_rfl))⟩
  f10 := ⟨Tryd.f43.name, by decide, Tryd.func43.trans (congrArg some (by kernel_rfl))⟩
  t0 := Tryd.underlying0
  a0 := Tryd.isAgg0
  z0 := Tryd.sizeOf0
  v0 := Tryd.zeroValue0
  t3 := Tryd.underlying3
  a3 := Tryd.isAgg3
  z3 := Tryd.sizeOf3
  v3 := Tryd.zeroValue3
  t4 := Tryd.underlying4
  a4 := Tryd.isAgg4
  z4 := Tryd.sizeOf4
  v4 := Tryd.zeroValue4
  t22 := Tryd.underlying32
  a22 := Tryd.isAgg32
  z22 := Tryd.sizeOf32
  v22 := Tryd.zeroValue32
  a23 := Tryd.isAgg3
  z23 := Tryd.sizeOf3
  t25 := Tryd.underlying67
  a25 := Tryd.isAgg67
  z25 := Tryd.sizeOf67
  v25 := Tryd.zeroValue67 }

def renCt : Go.Shelf.Ren := ⟨fun | 0 => 0 | 1 => 1 | 2 => 2 | 107 => 45 | 108 => 59 | 112 => 92 | 125 => 77 | 128 => 90 | 129 => 91 | 189 => 63 | 215 => 80 | 216 => 66 | 257 => 76 | 294 => 82 | 295 => 83 | 296 => 84 | 297 => 85 | 298 => 86 | 299 => 87 | 300 => 88 | 301 => 89 | 328 => 93 | 329 => 94 | 330 => 95 | 331 => 96 | 332 => 97 | 338 => 74 | 343 => 98 | 347 => 99 | 348 => 100 | 349 => 101 | 350 => 102 | 351 => 103 | 352 => 104 | 353 => 105 | 354 => 106 | 355 => 107 | 356 => 108 | 357 => 109 | 358 => 110 | 359 => 111 | 360 => 112 | 361 => 113 | 366 => 115 | 367 => 119 | n => n, fun | 0 => 0 | 1 => 1 | 2 => 2 | 3 => 3 | 4 => 4 | 5 => 5 | 6 => 6 | 7 => 7 | 8 => 8 | 9 => 9 | 10 => 10 | 11 => 11 | 12 => 12 | 13 => 13 | 14 => 14 | 15 => 15 | 16 => 16 | 17 => 17 | 18 => 18 | 19 => 19 | 20 => 20 | 21 => 21 | 28 => 32 | 29 => 54 | 30 => 76 | 34 => 39 | 35 => 77 | 43 => 60 | 46 => 80 | 47 => 87 | 51 => 97 | 52 => 96 | 53 => 83 | 54 => 82 | 80 => 106 | 81 => 112 | 111 => 67 | 112 => 44 | 114 => 68 | 127 => 116 | 131 => 71 | 132 => 75 | 134 => 86 | 164 => 121 | 181 => 89 | 182 => 90 | 183 => 91 | 184 => 92 | 185 => 93 | 186 => 94 | 187 => 95 | 218 => 98 | 219 => 99 | 220 => 100 | 221 => 101 | 222 => 102 | 223 => 103 | 228 => 104 | 229 => 84 | 230 => 105 | 233 => 88 | 238 => 107 | 239 => 108 | 240 => 109 | 241 => 110 | 242 => 111 | 243 => 113 | 244 => 114 | 245 => 115 | 246 => 117 | 247 => 118 | 248 => 119 | 249 => 120 | n => n, fun | n => n⟩
set_option maxRecDepth 100000 in
theorem laysCt : Go.Proofs.Lays.n107 Tryd.prog renCt := {
  mixed := by kernel_rfl
  f107 := Tryd.func45.trans (congrArg some (by kernel_rfl))
  f108 := Tryd.func59.trans (congrArg some (by kernel_rfl))
  t0 := Tryd.underlying0
  a0 := Tryd.isAgg0
  z0 := Tryd.sizeOf0
  v0 := Tryd.zeroValue0
  t3 := Tryd.underlying3
  a3 := Tryd.isAgg3
  z3 := Tryd.sizeOf3
  v3 := Tryd.zeroValue3
  t4 := Tryd.underlying4
  a4 := Tryd.isAgg4
  z4 := Tryd.sizeOf4
  v4 := Tryd.zeroValue4
  t28 := Tryd.underlying32
  a28 := Tryd.isAgg32
  z28 := Tryd.sizeOf32
  v28 := Tryd.zeroValue32 }

theorem gives_lt (x : Int) (W : World) : FnGives Tryd.prog 40 #[] #[.int .i64 x] (.bool (decide (x < 1))) W := by
  show Calls Tryd.prog 40 #[.int .i64 x] W _
  go_enter Tryd.func40, Tryd.ntmps40
  go_wp2
  go_ret
  exact ⟨rfl, 0, rfl⟩
/-- Is one of the numbers below 1? -/
theorem contains_lt {w : World} {v : Value} {l : List Int} (h : Nums w v l) (hl : l.length ≤ 1000) :
    Calls Tryd.prog 39 #[v, .func (.func 40) #[] #[]] w fun e w' => e = .returned (.bool (l.any fun q => decide (q < 1))) ∧ ∃ q, w' = w.drewN q := by
  rcases Nat.eq_zero_or_pos l.length with h0 | h0
  · obtain rfl := List.eq_nil_of_length_eq_zero h0
    obtain ⟨a, c, rfl⟩ := nums_slice h
    refine (AnyE.slices_ContainsFunc_empty laysCF a c _ w).mono ?_
    rintro e w' ⟨rfl, rfl⟩
    exact ⟨rfl, 0, rfl⟩
  · obtain ⟨g, o, cap, rfl, hc⟩ := h.open h0
    have := AnyE.slices_ContainsFunc laysCF (Value.int .i64) (fun q => decide (q < 1)) 40 #[] (enters_of Tryd.func40 (by kernel_rfl) rfl) g o l.length cap l w (fun W x _ => gives_lt x W) (Nat.le_refl _) (by omega) (fun j hj => by rw [getElem!_pos _ j hj]; exact hc j _ (List.getElem?_eq_getElem hj))
    rw [List.take_length] at this
    exact this
set_option maxHeartbeats 1000000 in
theorem gives_fresh (x : Int) (hx0 : 0 ≤ x) (hx : x ≤ 30) (B : Nat) (fv : Value) (fl : List Int) (W : World) (hf : Nums W fv fl) (hc : W.cell? ⟨B, 0, none⟩ = some fv) :
    Calls Tryd.prog 44 #[.int .i64 x, .pointer (some ⟨B, 0, none⟩)] W fun e w' => e = .returned (.bool (!keepF fl x)) ∧ w' = W := by
  have ek : (!keepF fl x) = (x % 2 == 0 && fl.contains (x / 2)) := by unfold keepF; simp
  rw [ek]
  obtain ⟨n, rfl⟩ : ∃ n : Nat, x = n := ⟨x.toNat, by omega⟩
  have KC : Calls Tryd.prog 45 #[fv, .int .i64 ((n : Int) / 2)] W fun e w' => e = .returned (.bool (fl.contains ((n : Int) / 2))) ∧ w' = W := by
    rcases Nat.eq_zero_or_pos fl.length with h0 | h0
    · obtain rfl := List.eq_nil_of_length_eq_zero h0
      obtain ⟨a, c, rfl⟩ := nums_slice hf
      exact Any.slices_Contains_int_empty laysCt a c _ W
    · obtain ⟨⟨a', c', e'⟩, hm⟩ := hf.form
      obtain ⟨g, o, cap, rfl, hcc⟩ := hf.open h0
      have := Any.slices_Contains_int laysCt g o fl.length cap fl ((n : Int) / 2) W (Nat.le_refl _) (by unfold maxLen at hm; omega) (fun j hj => by
        have := hcc j _ (List.getElem?_eq_getElem hj); simpa [List.getD, List.getElem?_eq_getElem hj] using this)
      rw [List.take_length] at this
      exact this
  have hn : (n : Int) ≤ 30 := hx
  have hm2 : (n : Int) % 2 = ((n % 2 : Nat) : Int) := by omega
  generalize fl.contains ((n : Int) / 2) = cb at *
  rcases Nat.mod_two_eq_zero_or_one n with c | c
  · have e1 : ((n : Int) % 2 == 0) = true := by rw [hm2, c]; rfl
    have e2 : (n : Int) % 2 = 0 := by omega
    rw [e1]
    clear hm2 e1
    go_enter Tryd.func44, Tryd.ntmps44
    go_wp2_with fail
    refine KC.mono ?_
    rintro e w' ⟨rfl, rfl⟩
    go_wp2
    go_ret
    exact ⟨rfl, rfl⟩
  · have e1 : ((n : Int) % 2 == 0) = false := by rw [hm2, c]; rfl
    have e2 : (n : Int) % 2 = 1 := by omega
    rw [e1]
    clear hm2 e1
    go_enter Tryd.func44, Tryd.ntmps44
    go_wp2
    go_ret
    exact ⟨rfl, rfl⟩
end Go.Proofs.YtjjkhjiiakamaaaDoor
