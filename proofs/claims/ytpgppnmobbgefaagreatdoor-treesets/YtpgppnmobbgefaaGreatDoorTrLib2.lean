/- The library's slices.ContainsFunc, slices.DeleteFunc and slices.Contains at []int, laid off the shelf; contracts of the two closures. -/
import Derived.Shelf.SlicesE.IndexFunc
import Derived.Shelf.SlicesE.DeleteFunc
import Derived.Shelf.Slices.Turned
import Derived.Test.YtpgppnmobbgefaaGreatDoorTrO
namespace Go.Proofs.YtpgppnmobbgefaaGreatDoor
open Go.Shelf Go.RowKit Go.Maps Go.Sort Go.Lib
def renCF : Go.Shelf.Ren := ⟨fun | 0 => 0 | 1 => 1 | 2 => 2 | 6 => 265 | 8 => 179 | 10 => 170 | 12 => 326 | 13 => 327 | 14 => 328 | 15 => 329 | 16 => 330 | 17 => 331 | 18 => 332 | 19 => 333 | 20 => 334 | 21 => 335 | 22 => 336 | 23 => 337 | 24 => 338 | 25 => 339 | 26 => 340 | 27 => 342 | n => n, fun | 0 => 0 | 1 => 1 | 2 => 2 | 3 => 3 | 4 => 4 | 5 => 5 | 6 => 6 | 7 => 7 | 8 => 8 | 9 => 9 | 10 => 10 | 11 => 11 | 12 => 12 | 13 => 13 | 14 => 14 | 15 => 15 | 16 => 16 | 17 => 17 | 18 => 18 | 19 => 19 | 20 => 20 | 21 => 21 | 22 => 31 | 23 => 3 | 24 => 380 | 25 => 115 | 26 => 381 | 27 => 118 | 28 => 114 | 29 => 113 | 30 => 109 | 31 => 415 | 32 => 416 | 33 => 417 | 34 => 418 | 35 => 419 | 36 => 420 | 37 => 421 | 38 => 396 | 39 => 422 | 40 => 423 | 41 => 424 | 42 => 425 | 43 => 426 | 44 => 427 | 45 => 428 | 46 => 429 | 47 => 430 | n => n, fun | n => n⟩
set_option maxRecDepth 100000 in
theorem laysCF : Go.Proofs.SlLaysH.n8 Tryz.prog renCF := {
  mixed := by kernel_rfl
  f6 := ⟨Tryz.f265.name, by decide, Tryz.func265.trans (congrArg some (by kernel_rfl))⟩
  f8 := ⟨Tryz.f179.name, by decide, Tryz.func179.trans (congrArg some (by kernel_rfl))⟩
  t0 := Tryz.underlying0
  a0 := Tryz.isAgg0
  z0 := Tryz.sizeOf0
  v0 := Tryz.zeroValue0
  t3 := Tryz.underlying3
  a3 := Tryz.isAgg3
  z3 := Tryz.sizeOf3
  v3 := Tryz.zeroValue3
  t4 := Tryz.underlying4
  a4 := Tryz.isAgg4
  z4 := Tryz.sizeOf4
  v4 := Tryz.zeroValue4
  t22 := Tryz.underlying31
  a22 := Tryz.isAgg31
  z22 := Tryz.sizeOf31
  v22 := Tryz.zeroValue31
  a23 := Tryz.isAgg3
  z23 := Tryz.sizeOf3
  t25 := Tryz.underlying115
  a25 := Tryz.isAgg115
  z25 := Tryz.sizeOf115
  v25 := Tryz.zeroValue115 }

def renDF : Go.Shelf.Ren := ⟨fun | 0 => 0 | 1 => 1 | 2 => 2 | 6 => 265 | 8 => 179 | 10 => 170 | 12 => 326 | 13 => 327 | 14 => 328 | 15 => 329 | 16 => 330 | 17 => 331 | 18 => 332 | 19 => 333 | 20 => 334 | 21 => 335 | 22 => 336 | 23 => 337 | 24 => 338 | 25 => 339 | 26 => 340 | 27 => 342 | n => n, fun | 0 => 0 | 1 => 1 | 2 => 2 | 3 => 3 | 4 => 4 | 5 => 5 | 6 => 6 | 7 => 7 | 8 => 8 | 9 => 9 | 10 => 10 | 11 => 11 | 12 => 12 | 13 => 13 | 14 => 14 | 15 => 15 | 16 => 16 | 17 => 17 | 18 => 18 | 19 => 19 | 20 => 20 | 21 => 21 | 22 => 31 | 23 => 3 | 24 => 380 | 25 => 115 | 26 => 381 | 27 => 118 | 28 => 114 | 29 => 113 | 30 => 109 | 31 => 415 | 32 => 416 | 33 => 417 | 34 => 418 | 35 => 419 | 36 => 420 | 37 => 421 | 38 => 396 | 39 => 422 | 40 => 423 | 41 => 424 | 42 => 425 | 43 => 426 | 44 => 427 | 45 => 428 | 46 => 429 | 47 => 430 | n => n, fun | n => n⟩
set_option maxRecDepth 100000 in
theorem laysDF : Go.Proofs.SlLaysH.n10 Tryz.prog renDF := {
  mixed := by kernel_rfl
  f6 := ⟨Tryz.f265.name, by decide, Tryz.func265.trans (congrArg some (by kernel_rfl))⟩
  f10 := ⟨Tryz.f170.name, by decide, Tryz.func170.trans (congrArg some (by kernel_rfl))⟩
  t0 := Tryz.underlying0
  a0 := Tryz.isAgg0
  z0 := Tryz.sizeOf0
  v0 := Tryz.zeroValue0
  t3 := Tryz.underlying3
  a3 := Tryz.isAgg3
  z3 := Tryz.sizeOf3
  v3 := Tryz.zeroValue3
  t4 := Tryz.underlying4
  a4 := Tryz.isAgg4
  z4 := Tryz.sizeOf4
  v4 := Tryz.zeroValue4
  t22 := Tryz.underlying31
  a22 := Tryz.isAgg31
  z22 := Tryz.sizeOf31
  v22 := Tryz.zeroValue31
  a23 := Tryz.isAgg3
  z23 := Tryz.sizeOf3
  t25 := Tryz.underlying115
  a25 := Tryz.isAgg115
  z25 := Tryz.sizeOf115
  v25 := Tryz.zeroValue115 }

def renCt : Go.Shelf.Ren := ⟨fun | 0 => 0 | 1 => 1 | 2 => 2 | 107 => 172 | 108 => 266 | 112 => 309 | 125 => 290 | 128 => 306 | 129 => 307 | 171 => 292 | 189 => 273 | 215 => 295 | 216 => 278 | 243 => 308 | 246 => 315 | 257 => 289 | 283 => 317 | 284 => 318 | 285 => 319 | 286 => 320 | 294 => 298 | 295 => 299 | 296 => 300 | 297 => 301 | 298 => 302 | 299 => 303 | 300 => 304 | 301 => 305 | 317 => 321 | 318 => 322 | 319 => 323 | 320 => 324 | 328 => 310 | 329 => 311 | 330 => 312 | 331 => 313 | 332 => 314 | 337 => 325 | 338 => 287 | 343 => 316 | 347 => 326 | 348 => 327 | 349 => 328 | 350 => 329 | 351 => 330 | 352 => 331 | 353 => 332 | 354 => 333 | 355 => 334 | 356 => 335 | 357 => 336 | 358 => 337 | 359 => 338 | 360 => 339 | 361 => 340 | 366 => 342 | 367 => 348 | n => n, fun | 0 => 0 | 1 => 1 | 2 => 2 | 3 => 3 | 4 => 4 | 5 => 5 | 6 => 6 | 7 => 7 | 8 => 8 | 9 => 9 | 10 => 10 | 11 => 11 | 12 => 12 | 13 => 13 | 14 => 14 | 15 => 15 | 16 => 16 | 17 => 17 | 18 => 18 | 19 => 19 | 20 => 20 | 21 => 21 | 28 => 31 | 29 => 114 | 30 => 381 | 31 => 136 | 34 => 33 | 35 => 71 | 37 => 408 | 43 => 104 | 46 => 101 | 47 => 386 | 51 => 396 | 52 => 395 | 53 => 384 | 54 => 383 | 80 => 415 | 81 => 421 | 83 => 139 | 84 => 403 | 111 => 115 | 112 => 119 | 114 => 117 | 127 => 425 | 131 => 374 | 132 => 379 | 134 => 385 | 164 => 430 | 171 => 406 | 172 => 407 | 173 => 409 | 174 => 410 | 181 => 388 | 182 => 389 | 183 => 390 | 184 => 391 | 185 => 392 | 186 => 393 | 187 => 394 | 211 => 411 | 212 => 412 | 213 => 413 | 218 => 397 | 219 => 398 | 220 => 399 | 221 => 400 | 222 => 401 | 223 => 402 | 228 => 404 | 229 => 123 | 230 => 405 | 232 => 414 | 233 => 387 | 238 => 416 | 239 => 417 | 240 => 418 | 241 => 419 | 242 => 420 | 243 => 422 | 244 => 423 | 245 => 424 | 246 => 426 | 247 => 427 | 248 => 428 | 249 => 429 | n => n, fun | n => n⟩
set_option maxRecDepth 100000 in
theorem laysCt : Go.Proofs.Lays.n107 Tryz.prog renCt := {
  mixed := by kernel_rfl
  f107 := Tryz.func172.trans (congrArg some (by kernel_rfl))
  f108 := Tryz.func266.trans (congrArg some (by kernel_rfl))
  t0 := Tryz.underlying0
  a0 := Tryz.isAgg0
  z0 := Tryz.sizeOf0
  v0 := Tryz.zeroValue0
  t3 := Tryz.underlying3
  a3 := Tryz.isAgg3
  z3 := Tryz.sizeOf3
  v3 := Tryz.zeroValue3
  t4 := Tryz.underlying4
  a4 := Tryz.isAgg4
  z4 := Tryz.sizeOf4
  v4 := Tryz.zeroValue4
  t28 := Tryz.underlying31
  a28 := Tryz.isAgg31
  z28 := Tryz.sizeOf31
  v28 := Tryz.zeroValue31 }

theorem gives_lt (x : Int) (W : World) : FnGives Tryz.prog 180 #[] #[.int .i64 x] (.bool (decide (x < 1))) W := by
  show Calls Tryz.prog 180 #[.int .i64 x] W _
  go_enter Tryz.func180, Tryz.ntmps180
  go_wp2
  go_ret
  exact ⟨rfl, 0, rfl⟩
/-- Is one of the numbers below 1? -/
theorem contains_lt {w : World} {v : Value} {l : List Int} (h : Nums w v l) (hl : l.length ≤ 1000) :
    Calls Tryz.prog 179 #[v, .func (.func 180) #[] #[]] w fun e w' => e = .returned (.bool (l.any fun q => decide (q < 1))) ∧ ∃ q, w' = w.drewN q := by
  rcases Nat.eq_zero_or_pos l.length with h0 | h0
  · obtain rfl := List.eq_nil_of_length_eq_zero h0
    obtain ⟨a, c, rfl⟩ := nums_slice h
    refine (AnyE.slices_ContainsFunc_empty laysCF a c _ w).mono ?_
    rintro e w' ⟨rfl, rfl⟩
    exact ⟨rfl, 0, rfl⟩
  · obtain ⟨g, o, cap, rfl, hc⟩ := h.open h0
    have := AnyE.slices_ContainsFunc laysCF (Value.int .i64) (fun q => decide (q < 1)) 180 #[] (enters_of Tryz.func180 (by kernel_rfl) rfl) g o l.length cap l w (fun W x _ => gives_lt x W) (Nat.le_refl _) (by omega) (fun j hj => by rw [getElem!_pos _ j hj]; exact hc j _ (List.getElem?_eq_getElem hj))
    rw [List.take_length] at this
    exact this
set_option maxHeartbeats 1000000 in
theorem gives_fresh (x : Int) (hx0 : 0 ≤ x) (hx : x ≤ 30) (B : Nat) (fv : Value) (fl : List Int) (W : World) (hf : Nums W fv fl) (hc : W.cell? ⟨B, 0, none⟩ = some fv) :
    Calls Tryz.prog 171 #[.int .i64 x, .pointer (some ⟨B, 0, none⟩)] W fun e w' => e = .returned (.bool (!keepF fl x)) ∧ w' = W := by
  have ek : (!keepF fl x) = (x % 2 == 0 && fl.contains (x / 2)) := by unfold keepF; simp
  rw [ek]
  obtain ⟨n, rfl⟩ : ∃ n : Nat, x = n := ⟨x.toNat, by omega⟩
  have KC : Calls Tryz.prog 172 #[fv, .int .i64 ((n : Int) / 2)] W fun e w' => e = .returned (.bool (fl.contains ((n : Int) / 2))) ∧ w' = W := by
    rcases Nat.eq_zero_or_pos fl.length with h0 | h0
    · obtain rfl := List.eq_nil_of_length_eq_zero h0
      obtain ⟨a, c, rfl⟩ := nums_slice hf
      exact Any.slices_Contains_int_empty laysCt a c _ W
    · obtain ⟨⟨a', c', e'⟩, hm⟩ := hf.form
      obtain ⟨g, o, cap, rfl, hcc⟩ := hf.open h0
      have := Any.slices_Contains_int laysCt g o fl.length cap fl ((n : Int) / 2) W (Nat.le_refl _) (by unfold maxLen at hm; omega) (fun j hj => by
        have := hcc j _ (List.getElem?_eq_getElem hj); simpa [List.getD, List.getElem?_eq_getElem hj] using this)
      rw [List.take_length] at this
      exact this
  have hn : (n : Int) ≤ 30 := hx
  have hm2 : (n : Int) % 2 = ((n % 2 : Nat) : Int) := by omega
  generalize fl.contains ((n : Int) / 2) = cb at *
  rcases Nat.mod_two_eq_zero_or_one n with c | c
  · have e1 : ((n : Int) % 2 == 0) = true := by rw [hm2, c]; rfl
    have e2 : (n : Int) % 2 = 0 := by omega
    rw [e1]
    clear hm2 e1
    go_enter Tryz.func171, Tryz.ntmps171
    go_wp2_with fail
    refine KC.mono ?_
    rintro e w' ⟨rfl, rfl⟩
    go_wp2
    go_ret
    exact ⟨rfl, rfl⟩
  · have e1 : ((n : Int) % 2 == 0) = false := by rw [hm2, c]; rfl
    have e2 : (n : Int) % 2 = 1 := by omega
    rw [e1]
    clear hm2 e1
    go_enter Tryz.func171, Tryz.ntmps171
    go_wp2
    go_ret
    exact ⟨rfl, rfl⟩
end Go.Proofs.YtpgppnmobbgefaaGreatDoor
