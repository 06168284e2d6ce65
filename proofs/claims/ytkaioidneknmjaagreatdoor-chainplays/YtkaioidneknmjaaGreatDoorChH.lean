/- The library's maps.Keys, slices.Sorted and slices.Sort at numbers, laid off the shelf; the numbers of a map, rising. -/
import Derived.Shelf.SlIterI.Nil
import Derived.Shelf.SortM.Plain
import Derived.Shelf.SortM.SortNone
import Derived.Test.YtkaioidneknmjaaGreatDoorZ08
namespace Go.Proofs.YtkaioidneknmjaaGreatDoor.Tn
open Go.Shelf Go.RowKit Go.Maps Go.Sort
def renKi : Go.Shelf.Ren := ⟨fun | 0 => 0 | 1 => 1 | 2 => 2 | 6 => 29 | 7 => 30 | 8 => 148 | 9 => 149 | 10 => 150 | 11 => 220 | 12 => 221 | 13 => 222 | 14 => 224 | 15 => 225 | 16 => 226 | 17 => 227 | 18 => 228 | 19 => 229 | 20 => 230 | 21 => 231 | 22 => 232 | 23 => 233 | 24 => 234 | 25 => 236 | 26 => 237 | 27 => 238 | 28 => 239 | 29 => 240 | 30 => 241 | 31 => 243 | 32 => 255 | 33 => 256 | 34 => 257 | 35 => 258 | 36 => 259 | 37 => 260 | 38 => 261 | 39 => 262 | 40 => 263 | 41 => 264 | 42 => 265 | 43 => 266 | 44 => 267 | 45 => 268 | 46 => 269 | 47 => 271 | n => n, fun | 0 => 0 | 1 => 1 | 2 => 2 | 3 => 3 | 4 => 4 | 5 => 5 | 6 => 6 | 7 => 7 | 8 => 8 | 9 => 9 | 10 => 10 | 11 => 11 | 12 => 12 | 13 => 13 | 14 => 14 | 15 => 15 | 16 => 16 | 17 => 17 | 18 => 18 | 19 => 19 | 20 => 20 | 21 => 21 | 22 => 37 | 23 => 37 | 24 => 23 | 25 => 103 | 26 => 3 | 27 => 104 | 28 => 105 | 29 => 106 | 32 => 82 | 33 => 127 | 34 => 390 | 35 => 391 | 36 => 392 | 37 => 116 | 38 => 393 | 39 => 394 | 40 => 395 | 41 => 396 | 42 => 397 | 43 => 114 | 44 => 398 | 45 => 102 | 46 => 399 | 47 => 400 | 48 => 401 | 49 => 402 | 50 => 403 | 51 => 404 | 52 => 405 | 53 => 406 | 54 => 407 | 55 => 408 | 56 => 409 | 57 => 410 | 58 => 411 | 59 => 412 | 60 => 424 | 61 => 425 | 62 => 426 | 63 => 427 | 64 => 428 | 65 => 429 | 66 => 113 | 67 => 430 | 68 => 431 | 69 => 432 | 70 => 433 | 71 => 434 | 72 => 435 | 73 => 436 | 74 => 437 | 75 => 438 | n => n, fun | n => n⟩
set_option maxRecDepth 100000 in
theorem laysKi : Go.Proofs.SlLaysZI.n7 Tryz.prog renKi := {
  mixed := by kernel_rfl
  f7 := ⟨Tryz.f30.name, by decide, Tryz.func30.trans (congrArg some (by kernel_rfl))⟩
  f10 := ⟨Tryz.f150.name, by decide, Tryz.func150.trans (congrArg some (by kernel_rfl))⟩
  t0 := Tryz.underlying0
  a0 := Tryz.isAgg0
  z0 := Tryz.sizeOf0
  v0 := Tryz.zeroValue0
  t4 := Tryz.underlying4
  a4 := Tryz.isAgg4
  z4 := Tryz.sizeOf4
  v4 := Tryz.zeroValue4
  t23 := Tryz.underlying37
  a23 := Tryz.isAgg37
  z23 := Tryz.sizeOf37
  v23 := Tryz.zeroValue37
  t26 := Tryz.underlying3
  a26 := Tryz.isAgg3
  z26 := Tryz.sizeOf3
  v26 := Tryz.zeroValue3
  t27 := Tryz.underlying104
  a27 := Tryz.isAgg104
  z27 := Tryz.sizeOf104
  v27 := Tryz.zeroValue104
  t28 := Tryz.underlying105
  a28 := Tryz.isAgg105
  z28 := Tryz.sizeOf105
  v28 := Tryz.zeroValue105
  t33 := Tryz.underlying127
  a33 := Tryz.isAgg127
  z33 := Tryz.sizeOf127
  v33 := Tryz.zeroValue127 }

def renSi : Go.Shelf.Ren := ⟨fun | 0 => 0 | 1 => 1 | 2 => 2 | 6 => 29 | 8 => 148 | 9 => 149 | 11 => 220 | 12 => 221 | 13 => 222 | 14 => 224 | 15 => 225 | 16 => 226 | 17 => 227 | 18 => 228 | 19 => 229 | 20 => 230 | 21 => 231 | 22 => 232 | 23 => 233 | 24 => 234 | 25 => 236 | 26 => 237 | 27 => 238 | 28 => 239 | 29 => 240 | 30 => 241 | 31 => 243 | 32 => 255 | 33 => 256 | 34 => 257 | 35 => 258 | 36 => 259 | 37 => 260 | 38 => 261 | 39 => 262 | 40 => 263 | 41 => 264 | 42 => 265 | 43 => 266 | 44 => 267 | 45 => 268 | 46 => 269 | 47 => 271 | n => n, fun | 0 => 0 | 1 => 1 | 2 => 2 | 3 => 3 | 4 => 4 | 5 => 5 | 6 => 6 | 7 => 7 | 8 => 8 | 9 => 9 | 10 => 10 | 11 => 11 | 12 => 12 | 13 => 13 | 14 => 14 | 15 => 15 | 16 => 16 | 17 => 17 | 18 => 18 | 19 => 19 | 20 => 20 | 21 => 21 | 22 => 37 | 24 => 23 | 25 => 103 | 26 => 3 | 27 => 104 | 28 => 105 | 32 => 82 | 33 => 127 | 34 => 390 | 35 => 391 | 36 => 392 | 37 => 116 | 38 => 393 | 39 => 394 | 40 => 395 | 41 => 396 | 42 => 397 | 43 => 114 | 44 => 398 | 45 => 102 | 46 => 399 | 47 => 400 | 48 => 401 | 49 => 402 | 50 => 403 | 51 => 404 | 52 => 405 | 53 => 406 | 54 => 407 | 55 => 408 | 56 => 409 | 57 => 410 | 58 => 411 | 59 => 412 | 60 => 424 | 61 => 425 | 62 => 426 | 63 => 427 | 64 => 428 | 65 => 429 | 66 => 113 | 67 => 430 | 68 => 431 | 69 => 432 | 70 => 433 | 71 => 434 | 72 => 435 | 73 => 436 | 74 => 437 | 75 => 438 | n => n, fun | n => n⟩
set_option maxRecDepth 100000 in
theorem laysSi : Go.Proofs.SlLaysZI.n6 Tryz.prog renSi := {
  mixed := by kernel_rfl
  f6 := ⟨Tryz.f29.name, by decide, Tryz.func29.trans (congrArg some (by kernel_rfl))⟩
  f8 := ⟨Tryz.f148.name, by decide, Tryz.func148.trans (congrArg some (by kernel_rfl))⟩
  f11 := ⟨Tryz.f220.name, by decide, Tryz.func220.trans (congrArg some (by kernel_rfl))⟩
  t0 := Tryz.underlying0
  a0 := Tryz.isAgg0
  z0 := Tryz.sizeOf0
  v0 := Tryz.zeroValue0
  t24 := Tryz.underlying23
  a24 := Tryz.isAgg23
  z24 := Tryz.sizeOf23
  v24 := Tryz.zeroValue23
  t26 := Tryz.underlying3
  a26 := Tryz.isAgg3
  z26 := Tryz.sizeOf3
  v26 := Tryz.zeroValue3
  t28 := Tryz.underlying105
  a28 := Tryz.isAgg105
  z28 := Tryz.sizeOf105
  v28 := Tryz.zeroValue105
  i26 := by kernel_rfl }

def renSt : Go.Shelf.Ren := ⟨fun | 0 => 0 | 1 => 1 | 2 => 2 | 5 => 149 | 7 => 221 | 8 => 222 | 10 => 224 | 11 => 225 | 12 => 226 | 13 => 227 | 14 => 228 | 15 => 229 | 16 => 230 | 17 => 231 | 18 => 232 | 19 => 233 | 20 => 234 | 30 => 236 | 31 => 237 | 32 => 238 | 33 => 239 | 34 => 240 | 35 => 241 | 40 => 243 | 42 => 255 | 43 => 256 | 44 => 257 | 45 => 258 | 46 => 259 | 47 => 260 | 48 => 261 | 49 => 262 | 50 => 263 | 51 => 264 | 52 => 265 | 53 => 266 | 54 => 267 | 55 => 268 | 56 => 269 | 57 => 271 | n => n, fun | 0 => 0 | 1 => 1 | 2 => 2 | 3 => 3 | 4 => 4 | 5 => 5 | 6 => 6 | 7 => 7 | 8 => 8 | 9 => 9 | 10 => 10 | 11 => 11 | 12 => 12 | 13 => 13 | 14 => 14 | 15 => 15 | 16 => 16 | 17 => 17 | 18 => 18 | 19 => 19 | 20 => 20 | 21 => 21 | 22 => 23 | 23 => 23 | 24 => 82 | 25 => 3 | 30 => 391 | 31 => 392 | 32 => 116 | 34 => 393 | 35 => 394 | 36 => 395 | 37 => 396 | 38 => 397 | 39 => 114 | 40 => 398 | 41 => 102 | 42 => 399 | 43 => 400 | 44 => 401 | 45 => 402 | 46 => 403 | 53 => 404 | 54 => 405 | 55 => 406 | 56 => 407 | 57 => 408 | 58 => 409 | 59 => 127 | 63 => 410 | 64 => 411 | 65 => 412 | 67 => 424 | 68 => 425 | 69 => 426 | 70 => 427 | 71 => 428 | 72 => 429 | 73 => 113 | 74 => 430 | 75 => 431 | 76 => 432 | 77 => 433 | 78 => 434 | 79 => 435 | 80 => 436 | 81 => 437 | 82 => 438 | n => n, fun | n => n⟩
set_option maxRecDepth 100000 in
theorem laysSt : Go.Proofs.SlLaysM.n5 Tryz.prog renSt := {
  mixed := by kernel_rfl
  f5 := ⟨Tryz.f149.name, by decide, Tryz.func149.trans (congrArg some (by kernel_rfl))⟩
  f7 := ⟨Tryz.f221.name, by decide, Tryz.func221.trans (congrArg some (by kernel_rfl))⟩
  f8 := Tryz.func222.trans (congrArg some (by kernel_rfl))
  f10 := ⟨Tryz.f224.name, by decide, Tryz.func224.trans (congrArg some (by kernel_rfl))⟩
  f11 := ⟨Tryz.f225.name, by decide, Tryz.func225.trans (congrArg some (by kernel_rfl))⟩
  f12 := ⟨Tryz.f226.name, by decide, Tryz.func226.trans (congrArg some (by kernel_rfl))⟩
  f13 := ⟨Tryz.f227.name, by decide, Tryz.func227.trans (congrArg some (by kernel_rfl))⟩
  f14 := ⟨Tryz.f228.name, by decide, Tryz.func228.trans (congrArg some (by kernel_rfl))⟩
  f15 := ⟨Tryz.f229.name, by decide, Tryz.func229.trans (congrArg some (by kernel_rfl))⟩
  f16 := ⟨Tryz.f230.name, by decide, Tryz.func230.trans (congrArg some (by kernel_rfl))⟩
  f17 := ⟨Tryz.f231.name, by decide, Tryz.func231.trans (congrArg some (by kernel_rfl))⟩
  f18 := ⟨Tryz.f232.name, by decide, Tryz.func232.trans (congrArg some (by kernel_rfl))⟩
  f19 := Tryz.func233.trans (congrArg some (by kernel_rfl))
  f20 := Tryz.func234.trans (congrArg some (by kernel_rfl))
  f30 := ⟨Tryz.f236.name, by decide, Tryz.func236.trans (congrArg some (by kernel_rfl))⟩
  f31 := Tryz.func237.trans (congrArg some (by kernel_rfl))
  f32 := Tryz.func238.trans (congrArg some (by kernel_rfl))
  f33 := ⟨Tryz.f239.name, by decide, Tryz.func239.trans (congrArg some (by kernel_rfl))⟩
  f34 := ⟨Tryz.f240.name, by decide, Tryz.func240.trans (congrArg some (by kernel_rfl))⟩
  f35 := ⟨Tryz.f241.name, by decide, Tryz.func241.trans (congrArg some (by kernel_rfl))⟩
  f40 := ⟨Tryz.f243.name, by decide, Tryz.func243.trans (congrArg some (by kernel_rfl))⟩
  t0 := Tryz.underlying0
  a0 := Tryz.isAgg0
  z0 := Tryz.sizeOf0
  v0 := Tryz.zeroValue0
  t3 := Tryz.underlying3
  a3 := Tryz.isAgg3
  z3 := Tryz.sizeOf3
  v3 := Tryz.zeroValue3
  t4 := Tryz.underlying4
  a4 := Tryz.isAgg4
  z4 := Tryz.sizeOf4
  v4 := Tryz.zeroValue4
  t5 := Tryz.underlying5
  a5 := Tryz.isAgg5
  z5 := Tryz.sizeOf5
  v5 := Tryz.zeroValue5
  t9 := Tryz.underlying9
  a9 := Tryz.isAgg9
  z9 := Tryz.sizeOf9
  v9 := Tryz.zeroValue9
  t22 := Tryz.underlying23
  a22 := Tryz.isAgg23
  z22 := Tryz.sizeOf23
  v22 := Tryz.zeroValue23
  t23 := Tryz.underlying23
  a23 := Tryz.isAgg23
  z23 := Tryz.sizeOf23
  v23 := Tryz.zeroValue23
  t25 := Tryz.underlying3
  a25 := Tryz.isAgg3
  z25 := Tryz.sizeOf3
  v25 := Tryz.zeroValue3
  t32 := Tryz.underlying116
  a32 := Tryz.isAgg116
  z32 := Tryz.sizeOf116
  v32 := Tryz.zeroValue116
  t35 := Tryz.underlying394
  a35 := Tryz.isAgg394
  z35 := Tryz.sizeOf394
  v35 := Tryz.zeroValue394
  t36 := Tryz.underlying395
  a36 := Tryz.isAgg395
  z36 := Tryz.sizeOf395
  v36 := Tryz.zeroValue395
  t41 := Tryz.underlying102
  a41 := Tryz.isAgg102
  z41 := Tryz.sizeOf102
  v41 := Tryz.zeroValue102
  t44 := Tryz.underlying401
  a44 := Tryz.isAgg401
  z44 := Tryz.sizeOf401
  v44 := Tryz.zeroValue401
  t46 := Tryz.underlying403
  a46 := Tryz.isAgg403
  z46 := Tryz.sizeOf403
  v46 := Tryz.zeroValue403
  t53 := Tryz.underlying404
  a53 := Tryz.isAgg404
  z53 := Tryz.sizeOf404
  v53 := Tryz.zeroValue404
  t57 := Tryz.underlying408
  a57 := Tryz.isAgg408
  z57 := Tryz.sizeOf408
  v57 := Tryz.zeroValue408
  t63 := Tryz.underlying410
  a63 := Tryz.isAgg410
  z63 := Tryz.sizeOf410
  v63 := Tryz.zeroValue410
  t64 := Tryz.underlying411
  a64 := Tryz.isAgg411
  z64 := Tryz.sizeOf411
  v64 := Tryz.zeroValue411 }

theorem sortsI (m : Nat) : AnyZI.SortsIn Tryz.prog renSi Fence.wide m :=
  ⟨fun blk off cap ss W hH hblk hsz => callsIn_wide.2 (AnyM.slices_Sort_int laysSt blk off cap ss W hH hblk hsz),
   fun p cap W => callsIn_wide.2 (AnyM.slices_Sort_int_none laysSt p cap W)⟩
theorem keysI (mb : Option Nat) (W : World) : Calls Tryz.prog 30 #[.map mb] W fun e w' => e = .returned (.func (.func 150) #[] #[.pointer (some ⟨W.heap.size, 0, none⟩)]) ∧ w' = W.alloc (.cells #[.map mb] 37) :=
  (callsIn_wide (n := 5)).1 (AnyZI.keys_in laysKi Fence.wide 5 trivial rfl mb W)
set_option maxRecDepth 100000 in
set_option maxHeartbeats 1000000 in
theorem sortedI {H : Type} (b nn : Nat) (D0 : DataW H) (R : Value → Option (DataW H × List MemPlace)) (w : World) (hown : w.ownsMap Tryz.prog 3 R b nn D0) (hmax : Maps.size D0 ≤ maxLen) (hbytes : Maps.size D0 * 8 ≤ 140737488355328) :
    CallsIn Fence.wide 5 Tryz.prog 29 #[.func (.func 150) #[] #[.pointer (some ⟨w.heap.size, 0, none⟩)]] (w.alloc (.cells #[.map (some b)] 37)) fun e w' => ∃ (v : Value) (ss : List Int), e = .returned v ∧ ss.Perm (intKeys D0) ∧
      w'.ownsRow (w.alloc (.cells #[.map (some b)] 37)).heap.size 3 1 v ss.length ((ss.mergeSort (fun x y => decide (x ≤ y))).map encZ) ∧ (v = .slice none 0 0 ↔ ss = []) ∧ Below (w.alloc (.cells #[.map (some b)] 37)).heap.size (w.alloc (.cells #[.map (some b)] 37)) w' := by
  have hbl := hown.lt
  have hseq : SeqGives Fence.wide 2 Tryz.prog 150 #[.pointer (some ⟨w.heap.size, 0, none⟩)] encZ (fun ss => ss.Perm (intKeys D0)) (Maps.size D0) (w.alloc (.cells #[.map (some b)] 37)) :=
    AnyZI.keys_gives (ρ := renKi) { laysKi with } Fence.wide _ trivial rfl (by omega) w.heap.size b nn D0 _ (by simp) (by simp) (by
      obtain ⟨es, clock, hb, Ft, hs, hD⟩ := hown
      exact ⟨es, clock, (Below.heap_alloc _ _ b hbl).trans hb, Ft, hs, hD⟩)
  exact AnyZI.sorted_in laysSi Fence.wide 5 trivial trivial trivial trivial rfl (by omega) (sortsI _) (enters_of Tryz.func149 (by kernel_rfl) rfl) 150 #[.pointer (some ⟨w.heap.size, 0, none⟩)] trivial (enters_of Tryz.func150 (by kernel_rfl) rfl) _ _ hmax hbytes _ hseq
theorem imap_keys {w : World} {b nx c : Nat} {l : Lfs} {D : DataW Unit} (h : w.ownsMap Tryz.prog 3 RI b c D) (hd : ID D l) (hl : Lf nx l) : (l.map fun p => (p.1 : Int)).Perm (intKeys D) := by
  obtain ⟨es, hD, hpw, _⟩ := h.entries lawI
  obtain ⟨es', hD', hko⟩ := h.keysOf
  obtain rfl : es = es' := by rw [hD] at hD'; simpa using hD'
  subst hD
  refine perm_intKeys hpw (fun p hp => by obtain ⟨v, hv⟩ := hko p hp; obtain ⟨x, _, hx, _⟩ := Maps.keyOf_i64 Tryz.underlying3 hv; exact ⟨x, hx⟩) ?_ (fun x => ?_)
  · exact List.pairwise_map.2 (hl.up.imp (fun h => by omega))
  · rw [hd.has, List.mem_map]
    constructor
    · rintro ⟨p, hp, rfl⟩
      rw [lkp_of_mem hl hp]; rfl
    · intro hs
      obtain ⟨t, ht⟩ := Option.isSome_iff_exists.1 hs
      obtain ⟨p, hp, h1, -⟩ := lkp_some ht
      exact ⟨p, hp, h1⟩
theorem lf_sorted {nx : Nat} {l : Lfs} (hl : Lf nx l) : (l.map fun p => (p.1 : Int)).mergeSort (fun x y => decide (x ≤ y)) = l.map fun p => (p.1 : Int) :=
  List.mergeSort_of_pairwise (List.pairwise_map.2 (hl.up.imp (fun h => by simp; omega)))
/-- The numbers of a map, rising. -/
theorem sorted_left {w : World} {b nx : Nat} {l : Lfs} (h : IMap w b l) (hl : Lf nx l) (hll : l.length ≤ 1000) :
    Calls Tryz.prog 29 #[.func (.func 150) #[] #[.pointer (some ⟨w.heap.size, 0, none⟩)]] (w.alloc (.cells #[.map (some b)] 37)) fun e w' => ∃ v, e = .returned v ∧ NRow 0 w' v (l.map (·.1)) ∧ Below w.heap.size w w' ∧ ∀ k, v.ownBlock = some k → w.heap.size ≤ k := by
  obtain ⟨D, h1, h2⟩ := h
  have hsz := h1.size_le
  refine ((callsIn_wide (n := 5)).1 (sortedI b l.length D RI w h1 (by unfold maxLen; omega) (by omega))).mono ?_
  rintro e w' ⟨v, ss, rfl, hp, hr, -, hb⟩
  have e1 : ss.mergeSort (fun x y => decide (x ≤ y)) = l.map fun p => (p.1 : Int) := by
    rw [← lf_sorted hl]; exact mergeSort_of_perm_i (hp.trans (imap_keys h1 h2 hl).symm)
  have e2 : ss.length = l.length := by rw [(hp.trans (imap_keys h1 h2 hl).symm).length_eq, List.length_map]
  rw [e1, e2] at hr
  have hb1 : Below w.heap.size w w' := ((Below.refl _ w).alloc (Nat.le_refl _) _).trans (hb.mono (by simp))
  refine ⟨v, rfl, ?_, hb1, fun k hk => ?_⟩
  · have := own_monoT hr (Nat.zero_le _)
    unfold NRow
    rw [List.length_map, List.map_map]
    rw [List.map_map] at this
    exact this
  · have := (World.ownsRow.lt hr k hk).1
    simp at this
    omega
end Go.Proofs.YtkaioidneknmjaaGreatDoor.Tn
