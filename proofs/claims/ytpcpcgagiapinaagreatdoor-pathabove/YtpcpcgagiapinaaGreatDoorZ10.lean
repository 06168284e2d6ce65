/- Texts joined: TrLib2 TrP TrQ TrQ2 TrR. -/
import Derived.Shelf.SlicesE.IndexFunc
import Derived.Shelf.SlicesE.DeleteFunc
import Derived.Shelf.Slices.Turned
import Derived.Test.YtpcpcgagiapinaaGreatDoorZ09
import Derived.Deep.CutRange
/- The library's slices.ContainsFunc, slices.DeleteFunc and slices.Contains at []int, laid off the shelf; contracts of the two closures. -/
namespace Go.Proofs.YtpcpcgagiapinaaGreatDoor
open Go.Shelf Go.RowKit Go.Maps Go.Sort Go.Lib
def renCF : Go.Shelf.Ren := ⟨fun | 0 => 0 | 1 => 1 | 2 => 2 | 6 => 147 | 8 => 115 | 10 => 112 | 12 => 205 | 13 => 206 | 14 => 207 | 15 => 208 | 16 => 209 | 17 => 210 | 18 => 211 | 19 => 212 | 20 => 213 | 21 => 214 | 22 => 215 | 23 => 216 | 24 => 217 | 25 => 218 | 26 => 219 | 27 => 222 | n => n, fun | 0 => 0 | 1 => 1 | 2 => 2 | 3 => 3 | 4 => 4 | 5 => 5 | 6 => 6 | 7 => 7 | 8 => 8 | 9 => 9 | 10 => 10 | 11 => 11 | 12 => 12 | 13 => 13 | 14 => 14 | 15 => 15 | 16 => 16 | 17 => 17 | 18 => 18 | 19 => 19 | 20 => 20 | 21 => 21 | 22 => 27 | 23 => 3 | 24 => 190 | 25 => 80 | 26 => 191 | 27 => 175 | 28 => 174 | 29 => 173 | 30 => 169 | 31 => 223 | 32 => 224 | 33 => 225 | 34 => 226 | 35 => 227 | 36 => 228 | 37 => 99 | 38 => 201 | 39 => 229 | 40 => 230 | 41 => 231 | 42 => 232 | 43 => 233 | 44 => 234 | 45 => 235 | 46 => 236 | 47 => 237 | n => n, fun | n => n⟩
set_option maxRecDepth 100000 in
theorem laysCF : Go.Proofs.SlLaysH.n8 Tryz.prog renCF := {
  mixed := by kernel_rfl
  f6 := ⟨Tryz.f147.name, by decide, Tryz.func147.trans (congrArg some (by kernel_rfl))⟩
  f8 := ⟨Tryz.f115.name, by decide, Tryz.func115.trans (congrArg some (by kernel_rfl))⟩
  t0 := Tryz.underlying0
  a0 := Tryz.isAgg0
  z0 := Tryz.sizeOf0
  v0 := Tryz.zeroValue0
  t3 := Tryz.underlying3
  a3 := Tryz.isAgg3
  z3 := Tryz.sizeOf3
  v3 := Tryz.zeroValue3
  t4 := Tryz.underlying4
  a4 := Tryz.isAgg4
  z4 := Tryz.sizeOf4
  v4 := Tryz.zeroValue4
  t22 := Tryz.underlying27
  a22 := Tryz.isAgg27
  z22 := Tryz.sizeOf27
  v22 := Tryz.zeroValue27
  a23 := Tryz.isAgg3
  z23 := Tryz.sizeOf3
  t25 := Tryz.underlying80
  a25 := Tryz.isAgg80
  z25 := Tryz.sizeOf80
  v25 := Tryz.zeroValue80 }
def renDF : Go.Shelf.Ren := ⟨fun | 0 => 0 | 1 => 1 | 2 => 2 | 6 => 147 | 8 => 115 | 10 => 112 | 12 => 205 | 13 => 206 | 14 => 207 | 15 => 208 | 16 => 209 | 17 => 210 | 18 => 211 | 19 => 212 | 20 => 213 | 21 => 214 | 22 => 215 | 23 => 216 | 24 => 217 | 25 => 218 | 26 => 219 | 27 => 222 | n => n, fun | 0 => 0 | 1 => 1 | 2 => 2 | 3 => 3 | 4 => 4 | 5 => 5 | 6 => 6 | 7 => 7 | 8 => 8 | 9 => 9 | 10 => 10 | 11 => 11 | 12 => 12 | 13 => 13 | 14 => 14 | 15 => 15 | 16 => 16 | 17 => 17 | 18 => 18 | 19 => 19 | 20 => 20 | 21 => 21 | 22 => 27 | 23 => 3 | 24 => 190 | 25 => 80 | 26 => 191 | 27 => 175 | 28 => 174 | 29 => 173 | 30 => 169 | 31 => 223 | 32 => 224 | 33 => 225 | 34 => 226 | 35 => 227 | 36 => 228 | 37 => 99 | 38 => 201 | 39 => 229 | 40 => 230 | 41 => 231 | 42 => 232 | 43 => 233 | 44 => 234 | 45 => 235 | 46 => 236 | 47 => 237 | n => n, fun | n => n⟩
set_option maxRecDepth 100000 in
theorem laysDF : Go.Proofs.SlLaysH.n10 Tryz.prog renDF := {
  mixed := by kernel_rfl
  f6 := ⟨Tryz.f147.name, by decide, Tryz.func147.trans (congrArg some (by kernel_rfl))⟩
  f10 := ⟨Tryz.f112.name, by decide, Tryz.func112.trans (congrArg some (by kernel_rfl))⟩
  t0 := Tryz.underlying0
  a0 := Tryz.isAgg0
  z0 := Tryz.sizeOf0
  v0 := Tryz.zeroValue0
  t3 := Tryz.underlying3
  a3 := Tryz.isAgg3
  z3 := Tryz.sizeOf3
  v3 := Tryz.zeroValue3
  t4 := Tryz.underlying4
  a4 := Tryz.isAgg4
  z4 := Tryz.sizeOf4
  v4 := Tryz.zeroValue4
  t22 := Tryz.underlying27
  a22 := Tryz.isAgg27
  z22 := Tryz.sizeOf27
  v22 := Tryz.zeroValue27
  a23 := Tryz.isAgg3
  z23 := Tryz.sizeOf3
  t25 := Tryz.underlying80
  a25 := Tryz.isAgg80
  z25 := Tryz.sizeOf80
  v25 := Tryz.zeroValue80 }
def renCt : Go.Shelf.Ren := ⟨fun | 0 => 0 | 1 => 1 | 2 => 2 | 107 => 114 | 108 => 148 | 122 => 96 | 125 => 133 | 128 => 167 | 129 => 168 | 189 => 151 | 215 => 134 | 216 => 197 | 257 => 180 | 294 => 191 | 295 => 192 | 296 => 193 | 297 => 194 | 298 => 195 | 299 => 196 | 300 => 198 | 301 => 199 | 328 => 201 | 329 => 183 | 330 => 184 | 331 => 202 | 332 => 203 | 338 => 178 | 343 => 204 | 347 => 205 | 348 => 206 | 349 => 207 | 350 => 208 | 351 => 209 | 352 => 210 | 353 => 211 | 354 => 212 | 355 => 213 | 356 => 214 | 357 => 215 | 358 => 216 | 359 => 217 | 360 => 218 | 361 => 219 | 366 => 222 | 367 => 226 | n => n, fun | 0 => 0 | 1 => 1 | 2 => 2 | 3 => 3 | 4 => 4 | 5 => 5 | 6 => 6 | 7 => 7 | 8 => 8 | 9 => 9 | 10 => 10 | 11 => 11 | 12 => 12 | 13 => 13 | 14 => 14 | 15 => 15 | 16 => 16 | 17 => 17 | 18 => 18 | 19 => 19 | 20 => 20 | 21 => 21 | 28 => 27 | 29 => 174 | 30 => 191 | 34 => 38 | 35 => 155 | 43 => 162 | 46 => 186 | 47 => 185 | 51 => 201 | 52 => 200 | 53 => 203 | 54 => 202 | 73 => 74 | 80 => 223 | 81 => 99 | 111 => 80 | 112 => 39 | 114 => 96 | 127 => 232 | 131 => 128 | 132 => 192 | 134 => 205 | 164 => 237 | 181 => 213 | 182 => 194 | 183 => 195 | 184 => 214 | 185 => 215 | 186 => 216 | 187 => 217 | 218 => 206 | 219 => 207 | 220 => 208 | 221 => 220 | 222 => 210 | 223 => 221 | 228 => 218 | 229 => 105 | 230 => 222 | 233 => 212 | 238 => 224 | 239 => 225 | 240 => 226 | 241 => 227 | 242 => 228 | 243 => 229 | 244 => 230 | 245 => 231 | 246 => 233 | 247 => 234 | 248 => 235 | 249 => 236 | n => n, fun | n => n⟩
set_option maxRecDepth 100000 in
theorem laysCt : Go.Proofs.Lays.n107 Tryz.prog renCt := {
  mixed := by kernel_rfl
  f107 := Tryz.func114.trans (congrArg some (by kernel_rfl))
  f108 := Tryz.func148.trans (congrArg some (by kernel_rfl))
  t0 := Tryz.underlying0
  a0 := Tryz.isAgg0
  z0 := Tryz.sizeOf0
  v0 := Tryz.zeroValue0
  t3 := Tryz.underlying3
  a3 := Tryz.isAgg3
  z3 := Tryz.sizeOf3
  v3 := Tryz.zeroValue3
  t4 := Tryz.underlying4
  a4 := Tryz.isAgg4
  z4 := Tryz.sizeOf4
  v4 := Tryz.zeroValue4
  t28 := Tryz.underlying27
  a28 := Tryz.isAgg27
  z28 := Tryz.sizeOf27
  v28 := Tryz.zeroValue27 }
theorem gives_lt (x : Int) (W : World) : FnGives Tryz.prog 116 #[] #[.int .i64 x] (.bool (decide (x < 1))) W := by
  show Calls Tryz.prog 116 #[.int .i64 x] W _
  go_enter Tryz.func116, Tryz.ntmps116
  go_wp2
  go_ret
  exact ⟨rfl, 0, rfl⟩
theorem contains_lt {w : World} {v : Value} {l : List Int} (h : Nums w v l) (hl : l.length ≤ 1000) :
    Calls Tryz.prog 115 #[v, .func (.func 116) #[] #[]] w fun e w' => e = .returned (.bool (l.any fun q => decide (q < 1))) ∧ ∃ q, w' = w.drewN q := by
  rcases Nat.eq_zero_or_pos l.length with h0 | h0
  · obtain rfl := List.eq_nil_of_length_eq_zero h0
    obtain ⟨a, c, rfl⟩ := nums_slice h
    refine (AnyE.slices_ContainsFunc_empty laysCF a c _ w).mono ?_
    rintro e w' ⟨rfl, rfl⟩
    exact ⟨rfl, 0, rfl⟩
  · obtain ⟨g, o, cap, rfl, hc⟩ := h.open h0
    have := AnyE.slices_ContainsFunc laysCF (Value.int .i64) (fun q => decide (q < 1)) 116 #[] (enters_of Tryz.func116 (by kernel_rfl) rfl) g o l.length cap l w (fun W x _ => gives_lt x W) (Nat.le_refl _) (by omega) (fun j hj => by rw [getElem!_pos _ j hj]; exact hc j _ (List.getElem?_eq_getElem hj))
    rw [List.take_length] at this
    exact this
set_option maxHeartbeats 1000000 in
theorem gives_fresh (x : Int) (hx0 : 0 ≤ x) (hx : x ≤ 30) (B : Nat) (fv : Value) (fl : List Int) (W : World) (hf : Nums W fv fl) (hc : W.cell? ⟨B, 0, none⟩ = some fv) :
    Calls Tryz.prog 113 #[.int .i64 x, .pointer (some ⟨B, 0, none⟩)] W fun e w' => e = .returned (.bool (!keepF fl x)) ∧ w' = W := by
  have ek : (!keepF fl x) = (x % 2 == 0 && fl.contains (x / 2)) := by unfold keepF; simp
  rw [ek]
  obtain ⟨n, rfl⟩ : ∃ n : Nat, x = n := ⟨x.toNat, by omega⟩
  have KC : Calls Tryz.prog 114 #[fv, .int .i64 ((n : Int) / 2)] W fun e w' => e = .returned (.bool (fl.contains ((n : Int) / 2))) ∧ w' = W := by
    rcases Nat.eq_zero_or_pos fl.length with h0 | h0
    · obtain rfl := List.eq_nil_of_length_eq_zero h0
      obtain ⟨a, c, rfl⟩ := nums_slice hf
      exact Any.slices_Contains_int_empty laysCt a c _ W
    · obtain ⟨⟨a', c', e'⟩, hm⟩ := hf.form
      obtain ⟨g, o, cap, rfl, hcc⟩ := hf.open h0
      have := Any.slices_Contains_int laysCt g o fl.length cap fl ((n : Int) / 2) W (Nat.le_refl _) (by unfold maxLen at hm; omega) (fun j hj => by
        have := hcc j _ (List.getElem?_eq_getElem hj); simpa [List.getD, List.getElem?_eq_getElem hj] using this)
      rw [List.take_length] at this
      exact this
  have hn : (n : Int) ≤ 30 := hx
  have hm2 : (n : Int) % 2 = ((n % 2 : Nat) : Int) := by omega
  generalize fl.contains ((n : Int) / 2) = cb at *
  rcases Nat.mod_two_eq_zero_or_one n with c | c
  · have e1 : ((n : Int) % 2 == 0) = true := by rw [hm2, c]; rfl
    have e2 : (n : Int) % 2 = 0 := by omega
    rw [e1]
    clear hm2 e1
    go_enter Tryz.func113, Tryz.ntmps113
    go_wp2_with fail
    refine KC.mono ?_
    rintro e w' ⟨rfl, rfl⟩
    go_wp2
    go_ret
    exact ⟨rfl, rfl⟩
  · have e1 : ((n : Int) % 2 == 0) = false := by rw [hm2, c]; rfl
    have e2 : (n : Int) % 2 = 1 := by omega
    rw [e1]
    clear hm2 e1
    go_enter Tryz.func113, Tryz.ntmps113
    go_wp2
    go_ret
    exact ⟨rfl, rfl⟩
end Go.Proofs.YtpcpcgagiapinaaGreatDoor

/- The contract of SetPath, where it comes off. -/
namespace Go.Proofs.YtpcpcgagiapinaaGreatDoor
open Go.RowKit Go.Maps
def setPL (T : List Nd) (l : List (Int × Int)) : List Nd := l.foldl (fun T q => T.set q.1.toNat ⟨q.2, (ndAt T q.1.toNat).mem, (ndAt T q.1.toNat).ep, (ndAt T q.1.toNat).un⟩) T
theorem setPL_snoc (T : List Nd) (l : List (Int × Int)) (x p : Int) : setPL T (l ++ [(x, p)]) = (setPL T l).set x.toNat ⟨p, (ndAt (setPL T l) x.toNat).mem, (ndAt (setPL T l) x.toNat).ep, (ndAt (setPL T l) x.toNat).un⟩ := by
  unfold setPL; rw [List.foldl_append]; rfl
theorem setPL_len (T : List Nd) (l : List (Int × Int)) : (setPL T l).length = T.length := by
  unfold setPL
  induction l generalizing T with
  | nil => rfl
  | cons q l ih => rw [List.foldl_cons, ih]; simp
theorem prs_mem {T : List Nd} {i : Nat} {p : Nat × List Int} (h : p ∈ prs T i) : p.1 ∈ upN (nlv T) i ∧ p.2 ≠ [] ∧ ∃ s, (p.1, s) ∈ (upN (nlv T) i).zip (sdN (nlv T) i) ∧ p.2 = rsl T s := by
  unfold prs at h
  rw [List.mem_filter, List.mem_map] at h
  obtain ⟨⟨⟨x, s⟩, hq, rfl⟩, h2⟩ := h
  refine ⟨(List.of_mem_zip hq).1, fun c => ?_, s, hq, rfl⟩
  rw [c] at h2; simp at h2
theorem prs_len (T : List Nd) (i : Nat) : (prs T i).length ≤ (upN (nlv T) i).length := by
  rw [prs_eq]
  refine Nat.le_trans (prsL_len _ _) ?_
  simp; omega
set_option maxRecDepth 100000 in
set_option maxHeartbeats 8000000 in
theorem set_ok {w : World} {v pv : Value} {T : List Nd} {ps : List Int} (h : Trd w v T) (hpv : Nums w pv ps) (hT : Tab w) (li ee pp : Int) (hE : setE T li ee pp ps = 0) :
    Calls Tryz.prog 70 #[.agg #[v], .int .i64 li, .int .i64 ee, .int .i64 pp, pv] w fun e w' => ∃ r us, e = .returned (.tuple #[.agg #[r], .int .i64 0]) ∧ OTr w.heap.size w' r (setT T li.toNat ee pp ps) us ∧ Below w.heap.size w w' := by
  have q : mayB T = true ∧ 0 ≤ ee ∧ 1 ≤ pp ∧ hasL T li = true ∧ ps.length = (pth T li.toNat).length ∧ ps.any (fun q => decide (q < 1)) = false := by
    unfold setE at hE
    split at hE
    · cases hE
    · rename_i hh
      simp only [not_or, Bool.not_eq_false] at hh
      split at hE
      · cases hE
      · rename_i h2
        split at hE
        · cases hE
        · rename_i h3
          simp only [not_or, Bool.not_eq_true] at h3
          exact ⟨hh.1, by omega, by omega, by simpa using h2, by omega, h3.2⟩
  obtain ⟨qm, q1, q2, q3, q4, q5⟩ := q
  have hli : 0 ≤ li := by
    apply Decidable.byContradiction; intro c; unfold hasL at q3; rw [decide_eq_false c] at q3; simp at q3
  obtain ⟨i, rfl⟩ : ∃ n : Nat, li = n := ⟨li.toNat, by omega⟩
  rw [Int.toNat_natCast] at *
  obtain ⟨hil, hpi⟩ := hasL_pos q3
  have ok := mayB_okn qm (nlv_pos (by omega))
  obtain ⟨r1, g2, g3, g4, g5⟩ := ok.wd.facts
  obtain ⟨d1, d2, d3, d4, d5, d6⟩ := up_of r1 hil
  have d7 := up_len r1 hil
  have hpl := prs_len T i
  have HPT : Hid (pth T i = (prs T i).map fun p => (p.1 : Int)) := rfl
  have HPM : Hid (∀ y ∈ pth T i, ∃ x : Nat, y = x ∧ x ∈ upN (nlv T) i) := fun y hy => by
    rw [unhide HPT] at hy
    obtain ⟨p, hp, rfl⟩ := List.mem_map.1 hy
    exact ⟨p.1, rfl, (prs_mem hp).1⟩
  have hpt3 : (pth T i).length ≤ 3 := by rw [unhide HPT, List.length_map]; omega
  have HSET : Hid (setT T i ee pp ps = setPL (onAll (fun _ => nd0) (upN (nlv T) i) (T.set (2 * i) ⟨pp, (ndAt T (2 * i)).mem, ee, (ndAt T (2 * i)).un⟩)) ((pth T i).zip ps)) := rfl
  have KP : Hid (∀ W, Below w.heap.size w W → Calls Tryz.prog 111 #[.agg #[v], .int .i64 (i : Int)] W fun e w' => ∃ nv ov us, e = .returned (.tuple #[nv, ov]) ∧ PI W.heap.size w' nv ov (prs T i) us ∧ Below W.heap.size W w') := fun W hW => path_any (h.bw hW) ok.wd ok.sm (hT.bw hW) hil
  have KH : Hid (∀ W, Below w.heap.size w W → Calls Tryz.prog 110 #[.agg #[v], .int .i64 (i : Int)] W fun e w' => e = .returned (.bool true) ∧ Below W.heap.size W w') := fun W hW => by
    have := hasLeaf_any (h.bw hW) (mayB_15 qm).1 (i : Int); rw [q3] at this; exact this
  have KCF : Hid (∀ W, Below w.heap.size w W → Calls Tryz.prog 115 #[pv, .func (.func 116) #[] #[]] W fun e w' => e = .returned (.bool false) ∧ ∃ q, w' = W.drewN q) := fun W hW => by
    have := contains_lt (hpv.bw hW) (by omega); rw [q5] at this; exact this
  obtain ⟨pa, pc, rfl⟩ := nums_slice hpv
  have HPV : Hid (∀ W, Below w.heap.size w W → Nums W (.slice pa ps.length pc) ps) := fun W hW => hpv.bw hW
  obtain ⟨a, c, rfl⟩ := h.slice
  obtain ⟨W0, hW0⟩ : ∃ W0, W0 = (bxw w (.slice a T.length c)).alloc (.cells #[.slice none 0 0] 44) := ⟨_, rfl⟩
  have hb0 : Below w.heap.size w W0 := by rw [hW0]; exact (bwA _ _).alloc (by simp) _
  have hs0 : W0.heap.size = w.heap.size + 2 := by rw [hW0]; simp
  have HB : Hid (∀ W, Below W0.heap.size W0 W → W.cell? ⟨w.heap.size, 0, none⟩ = some (.slice a T.length c) ∧ (W.heap[w.heap.size + 1]? = some (.cells #[.slice none 0 0] 44 (0, 0)) ∧ W.cell? ⟨w.heap.size + 1, 0, none⟩ = some (.slice none 0 0) ∧ W.frozen? ⟨w.heap.size + 1, 0, none⟩ = false) ∧ Below w.heap.size w W) := fun W hW => by
    have e0 : W.heap[w.heap.size]? = some (.cells #[.slice a T.length c] 44 (0, 0)) := by
      rw [hW.block _ (by omega), hW0, Below.heap_alloc _ _ _ (by simp)]; exact heap_alloc_new _ _
    have e2 : W.heap[w.heap.size + 1]? = some (.cells #[.slice none 0 0] 44 (0, 0)) := by
      rw [hW.block _ (by omega), hW0]
      have := heap_alloc_new (bxw w (.slice a T.length c)) (.cells #[.slice none 0 0] 44)
      simpa using this
    exact ⟨cell_of_blk e0 rfl, ⟨e2, cell_of_blk e2 rfl, by simp [World.frozen?, e2]⟩, bw_tr hb0 hW⟩
  have KM : Hid (∀ W, Below w.heap.size w W → Calls Tryz.prog 109 #[.agg #[.slice a T.length c]] W fun e w' => e = .returned (.bool true) ∧ Below W.heap.size W w') := fun W hW => by
    have := mayBe_any (h.bw hW) (hT.bw hW); rw [qm] at this; exact this
  have KL : Hid (∀ W, Calls Tryz.prog 118 #[.agg #[.slice a T.length c]] W fun e w' => e = .returned (.int .i64 (nlv T : Nat)) ∧ Below W.heap.size W w') := fun W => leaves_any a T.length c W h.len
  have KC : Hid (∀ W, Below W0.heap.size W0 W → Calls Tryz.prog 117 #[.agg #[.slice a T.length c], .int .i64 (nlv T : Nat)] W fun e w' => ∃ g us, e = .returned (.agg #[.slice (some ⟨g, 0, none⟩) T.length T.length]) ∧ OTr W.heap.size w' (.slice (some ⟨g, 0, none⟩) T.length T.length) T us ∧ Below W.heap.size W w') := fun W hW => by
    have hW := (unhide HB _ hW).2.2
    have := copied_any (h.bw hW) (mayB_15 qm).1 (un_len qm) r1
    rw [← g2, fit_self rfl] at this; exact this
  have HTr : Hid (∀ W, Below w.heap.size w W → Tab W) := fun W hW => hT.bw hW
  have HW : Hid (W0 = (w.alloc (.cells #[.slice a T.length c] 44)).alloc (.cells #[.slice none 0 0] 44)) := hW0
  have n1 : decide (ee < 0) = false := decide_eq_false (by omega)
  have n2 : decide (pp < 1) = false := decide_eq_false (by omega)
  have n7 : (i : Int) ≤ 8 := by omega
  have HUN : Hid (∀ x, (ndAt T x).un.length ≤ 8) := fun x => (un_ok qm x).2
  have HR := hide (And.intro r1 (And.intro hil (And.intro d1 (And.intro d4 (And.intro d5 d7)))))
  have HS0 := hide hs0
  have HG := hide (And.intro g2 (And.intro g3 g4))
  obtain ⟨M2, hM2⟩ : ∃ M2, M2 = ps.length := ⟨_, rfl⟩
  rw [← hM2] at q4 KCF HPV ⊢
  have HM2 : Hid (M2 = ps.length ∧ M2 = (pth T i).length ∧ M2 = (prs T i).length) := ⟨hM2, q4, by rw [q4, unhide HPT, List.length_map]⟩
  have hM3 : (M2 : Int) ≤ 3 := by omega
  have n3 : ((M2 : Int) != (M2 : Int)) = false := by simp
  clear hE q1 q2 q3 q4 q5 r1 d1 d2 d3 d4 d5 d6 d7 hW0 h hT qm hs0 ok g2 g3 g4 g5 hpv hM2 hpi hpl hpt3 hli
  obtain ⟨n, hn⟩ : ∃ n, n = nlv T := ⟨_, rfl⟩
  simp only [← hn] at KL KC HR HG HSET HPM
  have HN := hide hn
  clear hn hil
  obtain ⟨mn, hmn⟩ : ∃ mn, mn = T.length := ⟨_, rfl⟩
  simp only [← hmn] at KM KH KP KL KC HB HW HG
  go_enter Tryz.func70, Tryz.ntmps70
  go_wp2_with fail
  rw [← hmn, ← unhide HW]
  have HMN := hide hmn
  clear hmn
  refine (unhide KM _ hb0).mono ?_
  rintro e W1 ⟨rfl, b1⟩
  obtain ⟨c0, -, hw1⟩ := unhide HB _ b1
  clear KM HW
  go_wp2_with fail
  refine (unhide KH _ hw1).mono ?_
  rintro e W2 ⟨rfl, b2⟩
  have b3 := bw_tr b1 b2
  clear c0 KH b2
  obtain ⟨c0, -, hw3⟩ := unhide HB _ b3
  go_wp2_with fail
  refine (unhide KP _ hw3).mono ?_
  rintro e W2b ⟨nv, ov, us0, rfl, hPI, b4⟩
  have b5 := bw_tr b3 b4
  obtain ⟨na, nc, hne⟩ := own_slice hPI.ns
  rw [List.length_map, ← (unhide HM2).2.2] at hne
  subst hne
  have HNV0 : Hid (Ints W0.heap.size W2b (.slice na M2 nc) (pth T i)) := by unfold Hid; rw [unhide HPT]; exact hPI.ns.mono b3.size
  clear c0 KP b4 b3 b1 hw1 hw3 hPI
  obtain ⟨c0, -, hw5⟩ := unhide HB _ b5
  clear n1 n2
  go_wp2_with fail
  refine (unhide KCF _ hw5).mono ?_
  rintro e W3 ⟨rfl, qd, rfl⟩
  have y5 : Below W2b.heap.size W2b (W2b.drewN qd) := below_drewN (Below.refl _ _) _
  have b6 := bw_tr b5 y5
  have HNV : Hid (Ints W0.heap.size (W2b.drewN qd) (.slice na M2 nc) (pth T i)) := (unhide HNV0).bw y5
  clear c0 b5 hw5 KCF y5 HNV0 n3
  generalize W2b.drewN qd = W3 at *
  obtain ⟨c0, -, hw5⟩ := unhide HB _ b6
  have b5 := b6
  clear b6
  have HB3 : Hid (∀ W, Below W3.heap.size W3 W → W.cell? ⟨w.heap.size, 0, none⟩ = some (.slice a mn c) ∧ (W.heap[w.heap.size + 1]? = some (.cells #[.slice none 0 0] 44 (0, 0)) ∧ W.cell? ⟨w.heap.size + 1, 0, none⟩ = some (.slice none 0 0) ∧ W.frozen? ⟨w.heap.size + 1, 0, none⟩ = false) ∧ Below w.heap.size w W) := fun W hW => unhide HB _ (bw_tr b5 hW)
  have KC3 : Hid (∀ W, Below W3.heap.size W3 W → Calls Tryz.prog 117 #[.agg #[.slice a mn c], .int .i64 (n : Int)] W fun e w' => ∃ g us, e = .returned (.agg #[.slice (some ⟨g, 0, none⟩) mn mn]) ∧ OTr W.heap.size w' (.slice (some ⟨g, 0, none⟩) mn mn) T us ∧ Below W.heap.size W w') := fun W hW => unhide KC W (bw_tr b5 hW)
  have HS3 : Hid (w.heap.size + 2 ≤ W3.heap.size) := by have h1 := b5.size; have h2 := unhide HS0; unfold Hid; omega
  clear KC HB HS0
  go_upto_region 8 with fail
  have bA : Below W3.heap.size W3 W3.drew := (Below.refl _ _).drew
  have bB : Below W3.heap.size W3 (W3.alloc (.cells #[.slice none 0 0] 44)).drew := (bwA _ _).drew
  have k0 : (W3.alloc (.cells #[.slice none 0 0] 44)).drew.heap[W3.heap.size]? = some (.cells #[.slice none 0 0] 44 (0, 0)) := heap_alloc_new W3 _
  have S0 := (unhide HB3 _ bA).1
  have S0b := (unhide HB3 _ bB).1
  have hA3 : W3.heap.size ≤ W3.heap.size := Nat.le_refl _
  go_cut [14] from 52 to 56 (fun s8 wx => ∃ nb g us, s8 = .pointer (some ⟨nb, 0, none⟩) ∧ Hid (NX W3 wx nb g mn T us))
  case first =>
    go_region_held3 (fun w' : World => w'.cell? ⟨w.heap.size, 0, none⟩ = some (.slice a mn c)) (first | with_reducible exact S0 | with_reducible exact S0b | with_reducible exact S1 | with_reducible exact S1b | with_reducible exact S3 | with_reducible exact S3b | with_reducible exact S3c | with_reducible exact S3d) (first
      | (go_at_call 118; refine (unhide KL _).mono ?_; rintro e z1 ⟨rfl, y1⟩; first
        | (have x1 : Below W3.heap.size W3 z1 := bw_tr bA y1; have S1 := (unhide HB3 _ x1).1; have x1b := x1.alloc x1.size (.cells #[.slice none 0 0] 44); have S1b := (unhide HB3 _ x1b).1)
        | (have x1 : Below W3.heap.size W3 z1 := bw_tr bB y1; have S1 := (unhide HB3 _ x1).1; have k1 := kept1 k0 y1) | fail)
      | (go_at_call 117; first
        | (with_reducible refine (unhide KC3 _ x1).mono ?_; rintro e z3 ⟨g, us, rfl, hO, y3⟩; have x3 := bw_tr x1 y3; have O3 := hO.mono x1.size; have S3 := (unhide HB3 _ x3).1; have S3b := (unhide HB3 _ (x3.alloc x3.size (.cells #[.slice (some ⟨g, 0, none⟩) mn mn] 44))).1; have S3d := (unhide HB3 _ (x3.alloc x3.size (.cells #[.slice none 0 0] 44))).1; try (have k3 : z3.heap[W3.heap.size]? = some (.cells #[.slice none 0 0] 44 (0, 0)) := kept1 k1 y3; have k4 : z3.cell? ⟨W3.heap.size, 0, none⟩ = some (.slice none 0 0) := cell_of_blk k3 rfl; have k5 : z3.frozen? ⟨W3.heap.size, 0, none⟩ = false := frozen_of_blk k3; have hN := nx_put x3 O3 k3 hA3; have S3c := (unhide HB3 _ hN.bel).1))
        | (with_reducible refine (unhide KC3 _ x1b).mono ?_; rintro e z3 ⟨g, us, rfl, hO, y3⟩; have x3 := bw_tr x1b y3; have O3 := hO.mono x1b.size; have S3 := (unhide HB3 _ x3).1; have k3 := new1 y3; have k4 : z3.cell? ⟨z1.heap.size, 0, none⟩ = some (.slice none 0 0) := cell_of_blk k3 rfl; have k5 : z3.frozen? ⟨z1.heap.size, 0, none⟩ = false := frozen_of_blk k3; have hN := nx_put x3 O3 k3 x1.size; have S3c := (unhide HB3 _ hN.bel).1) | fail) | fail)
    all_goals
      go_wp2_with fail
      go_meet
      case rel => first | exact ⟨_, _, _, rfl, hN⟩ | exact ⟨_, _, _, rfl, nx_new x3 O3⟩
  case rest =>
    obtain ⟨nb, g, us, rfl, hNX⟩ := hcut
    clear bA bB k0 S0 S0b KC3 KL c0 b5 hw5 hA3
    obtain ⟨r1, r2, d1, d4, d5, d7⟩ := unhide HR
    obtain ⟨G1, G2, G3⟩ := unhide HG
    obtain ⟨x2, hx2⟩ : ∃ x2, x2 = 2 * i := ⟨_, rfl⟩
    rw [← hx2] at d1 HSET
    have hmn := unhide HMN
    have hx2l : x2 < T.length := by omega
    obtain ⟨u2, hu2, ⟨e0, e1, e2, e3⟩, hfz⟩ := (unhide hNX).at hx2l
    have f0 := hfz (x2 * 4); have f2 := hfz (x2 * 4 + 2)
    have cN := (unhide hNX).cell
    have p1 : 2 * (i : Int) = (x2 : Int) := by omega
    have p2 : (x2 : Int) < (mn : Int) := by omega
    have p3 : (0 : Int) ≤ (x2 : Int) := by omega
    have p4 : (mn : Int) ≤ 15 := by omega
    have hNX3 : Hid (NX W3 (wc.setCell ⟨g, x2 * 4 + 2, none⟩ (.int .i64 ee)) nb g mn (T.set x2 ⟨(ndAt T x2).pub, (ndAt T x2).mem, ee, (ndAt T x2).un⟩) us) := (unhide hNX).set1 (by decide) hx2l _ ee rfl (fun u => rfl)
    obtain ⟨T0, hT0⟩ : ∃ T0, T0 = T.set x2 ⟨(ndAt T x2).pub, (ndAt T x2).mem, ee, (ndAt T x2).un⟩ := ⟨_, rfl⟩
    rw [← hT0] at hNX3
    have hT0l : x2 < T0.length := by rw [hT0, List.length_set]; exact hx2l
    have hT0a : ndAt T0 x2 = ⟨(ndAt T x2).pub, (ndAt T x2).mem, ee, (ndAt T x2).un⟩ := by rw [hT0, ndAt_set, if_pos ⟨rfl, hx2l⟩]
    have HNX4 : Hid (∀ W, NX W3 W nb g mn T0 us → NX W3 (W.setCell ⟨g, x2 * 4, none⟩ (.int .i64 pp)) nb g mn (T.set x2 ⟨pp, (ndAt T x2).mem, ee, (ndAt T x2).un⟩) us) := fun W hW => by
      have := hW.set1 (k := 0) (by decide) hT0l ⟨pp, (ndAt T x2).mem, ee, (ndAt T x2).un⟩ pp (by rw [hT0a]) (fun u => by rw [hT0a]; rfl)
      rw [hT0, List.set_set] at this
      simpa using this
    obtain ⟨T1, hT1⟩ : ∃ T1, T1 = T.set x2 ⟨pp, (ndAt T x2).mem, ee, (ndAt T x2).un⟩ := ⟨_, rfl⟩
    rw [← hT1] at HNX4 HSET
    have hT1l : T1.length = mn := by rw [hT1, List.length_set, hmn]
    have hnl1 : nlv T1 = n := by unfold nlv; simp [sizes] at r1; omega
    have HU2 : Hid (∀ y, (ndAt T1 y).un.length ≤ 8) := fun k => by
      rw [hT1, ndAt_set]
      split
      · exact unhide HUN x2
      · exact unhide HUN k
    have HN1 := hide (And.intro hT1l (And.intro hnl1 (And.intro r2 (And.intro d4 (And.intro d5 r1)))))
    have HD1 := hide d1
    clear hNX hT1 hT1l hnl1 r1 r2 d1 d4 d5 hmn hx2l HR hu2 hfz hx2 HUN HMN HN G1 G3 hT0a hT0
    obtain ⟨U, hU⟩ : ∃ U, U = upN n i := ⟨_, rfl⟩
    rw [← hU] at HSET HN1 HD1 d7 HPM
    clear hU
    go_upto_region 10 with fail
    generalize wc.setCell ⟨g, x2 * 4 + 2, none⟩ (.int .i64 ee) = W3b at *
    clear e0 e1 e2 e3 f0 f2 cN
    obtain ⟨u2, hu2, ⟨e0, e1, e2, e3⟩, hfz⟩ := (unhide hNX3).at hT0l
    have f0 := hfz (x2 * 4)
    have cN := (unhide hNX3).cell
    have hNX4 := hide (unhide HNX4 _ (unhide hNX3))
    clear HNX4 hNX3 hfz hu2 hT0l
    go_upto_region 11 with fail
    generalize W3b.setCell ⟨g, x2 * 4, none⟩ (.int .i64 pp) = W4 at *
    have cN4 := (unhide hNX4).cell
    have HTRD : Hid (∀ y ∈ T1, y.un.length ≤ 140737488355328) := fun y hy => by
      obtain ⟨k, hk⟩ := List.mem_iff_getElem?.1 hy
      have hlt := (List.getElem?_eq_some_iff.1 hk).1
      rw [ndAt_of hlt] at hk
      cases hk
      have := unhide HU2 k; omega
    obtain ⟨t1, t2, t3, t4, t5, t6⟩ := unhide HN1
    have KA := hide (above_tr ((unhide hNX4).tr.trd (by omega) (unhide HTRD)) (by omega) (unhide HTr _ (unhide HB3 _ (unhide hNX4).bel).2.2) (show i < nlv T1 by omega))
    rw [t2, show ((2 * i : Nat) : Int) = ((x2 : Nat) : Int) by omega, unhide HD1] at KA
    clear e0 e1 e2 e3 f0 cN t1 t2 t3 t4 t5 t6 HTRD HD1 HU2
    obtain ⟨M, hM⟩ : ∃ M, M = U.length := ⟨_, rfl⟩
    have HM := hide hM
    rw [← hM] at d7
    clear hM
    go_wp2_with fail
    refine (unhide KA).mono ?_
    rintro e W5 ⟨rv, rfl, hrv, y5⟩
    have hNX5 := hide ((unhide hNX4).bw y5)
    obtain ⟨ra, rc, hre⟩ := own_slice hrv
    rw [List.length_map, ← unhide HM] at hre
    subst hre
    have HRV : Hid (Ints W4.heap.size W5 (.slice ra M rc) (U.map (fun (x : Nat) => (x : Int))) ∧ ∀ k, (Value.slice ra M rc).ownBlock = some k → k ≠ g) := ⟨hrv, fun k hk c => by
      have h1 := (World.ownsRow.lt hrv k hk).1
      have h2 := ((unhide hNX4).tr.blocks g (by simp)).2
      omega⟩
    clear KA cN4 hNX4 hrv y5 p2 p3
    go_wp2_with fail
    go_loopw [74] (fun iv wr => ∃ (j : Nat) (us' : List Value), iv = .int .i64 (j : Int) ∧ j ≤ M ∧ Hid (NX W3 wr nb g mn (onAll (fun _ => nd0) (U.take j) T1) us') ∧ Hid (Ints W4.heap.size wr (.slice ra M rc) (U.map (fun (x : Nat) => (x : Int))) ∧ ∀ k, (Value.slice ra M rc).ownBlock = some k → k ≠ g)) (fun iv _ => (M - (intOf iv)).toNat)
    case atStart => exact ⟨0, us, rfl, by omega, by rw [List.take_zero, onAll_nil]; exact hNX5, HRV⟩
    case round =>
      clear HRV hNX5
      obtain ⟨j, us', rfl, hjM, hNX, hRV⟩ := hrel
      by_cases hlt : j < M
      · obtain ⟨x, hx⟩ : ∃ x, U[j]? = some x := ⟨_, List.getElem?_eq_getElem (by have := unhide HM; omega)⟩
        have hxm : x ∈ U := List.mem_of_getElem? hx
        obtain ⟨gu, ou, cu, hue, hcu⟩ := (unhide hRV).1.nums.open (by simp; have := unhide HM; omega)
        rw [List.length_map, ← unhide HM] at hue
        cases hue
        have k1 : wr.cell? ⟨gu, ou + j, none⟩ = some (.int .i64 (x : Int)) := hcu j (x : Int) (by simp [hx])
        obtain ⟨t1, t2, t3, t4, t5, t6⟩ := unhide HN1
        have ht5 := t5 x hxm
        have hTl : (onAll (fun _ => nd0) (U.take j) T1).length = mn := by rw [onAll_len, t1]
        have hsn : Hid (onAll (fun _ => nd0) (U.take (j + 1)) T1 = (onAll (fun _ => nd0) (U.take j) T1).set x nd0) := by
          unfold Hid; rw [List.take_add_one, hx]; show onAll _ (U.take j ++ [x]) _ = _; rw [onAll_snoc]
        have G1 := (unhide HG).1
        have hxl : x < (onAll (fun _ => nd0) (U.take j) T1).length := by omega
        obtain ⟨u2, hu2, ⟨e0, e1, e2, e3⟩, hfz⟩ := (unhide hNX).at hxl
        have f0 := hfz (x * 4); have f1 := hfz (x * 4 + 1); have f2 := hfz (x * 4 + 2); have f3 := hfz (x * 4 + 3)
        have cN := (unhide hNX).cell
        have hNX9 : Hid (NX W3 ((((wr.setCell ⟨g, x * 4, none⟩ (.int .i64 0)).setCell ⟨g, x * 4 + 1, none⟩ (.int .i64 0)).setCell ⟨g, x * 4 + 2, none⟩ (.int .i64 0)).setCell ⟨g, x * 4 + 3, none⟩ (.slice none 0 0)) nb g mn ((onAll (fun _ => nd0) (U.take j) T1).set x nd0) (us'.set x (.slice none 0 0))) := (unhide hNX).set4 hxl nd0 rfl
        have hRV9 : Hid (Ints W4.heap.size ((((wr.setCell ⟨g, x * 4, none⟩ (.int .i64 0)).setCell ⟨g, x * 4 + 1, none⟩ (.int .i64 0)).setCell ⟨g, x * 4 + 2, none⟩ (.int .i64 0)).setCell ⟨g, x * 4 + 3, none⟩ (.slice none 0 0)) (.slice (some ⟨gu, ou, none⟩) M rc) (U.map (fun (x : Nat) => (x : Int))) ∧ ∀ k, (Value.slice (some ⟨gu, ou, none⟩) M rc).ownBlock = some k → k ≠ g) := by
          have f9 : Fr [g] wr ((((wr.setCell ⟨g, x * 4, none⟩ (.int .i64 0)).setCell ⟨g, x * 4 + 1, none⟩ (.int .i64 0)).setCell ⟨g, x * 4 + 2, none⟩ (.int .i64 0)).setCell ⟨g, x * 4 + 3, none⟩ (.slice none 0 0)) :=
            (((((Fr.refl [g] wr).setCell (a := ⟨g, x * 4, none⟩) (Or.inr (by simp)) _).setCell (a := ⟨g, x * 4 + 1, none⟩) (Or.inr (by simp)) _).setCell (a := ⟨g, x * 4 + 2, none⟩) (Or.inr (by simp)) _).setCell (a := ⟨g, x * 4 + 3, none⟩) (Or.inr (by simp)) _)
          exact ⟨own_keep (unhide hRV).1 (fun k hk => f9.block k (World.ownsRow.lt (unhide hRV).1 k hk).2 (by have := (unhide hRV).2 k hk; simpa using this)), (unhide hRV).2⟩
        have q1 : (j : Int) < (M : Int) := by omega
        have q0 : (0 : Int) ≤ (j : Int) := by omega
        have p2 : (x : Int) < (mn : Int) := by omega
        have p3 : (0 : Int) ≤ (x : Int) := by omega
        have hM3 : (M : Int) ≤ 3 := by omega
        generalize onAll (fun _ => nd0) (U.take j) T1 = Tj at *
        clear hcu hx hxm t1 t2 t3 t4 t5 t6 ht5 hTl hxl hfz hu2 hNX hRV G1
        go_wp2_with fail
        generalize ((((wr.setCell ⟨g, x * 4, none⟩ (.int .i64 0)).setCell ⟨g, x * 4 + 1, none⟩ (.int .i64 0)).setCell ⟨g, x * 4 + 2, none⟩ (.int .i64 0)).setCell ⟨g, x * 4 + 3, none⟩ (.slice none 0 0)) = W9 at *
        go_roundw
        case rel => exact ⟨j + 1, _, by go_num, by omega, by rw [unhide hsn]; exact hNX9, hRV9⟩
        case measure => simp [intOf]; omega
      · obtain rfl : j = M := by omega
        have e9 : U.take j = U := List.take_of_length_le (by have := unhide HM; omega)
        rw [e9] at hNX
        obtain ⟨T2, hT2⟩ : ∃ T2, T2 = onAll (fun _ => nd0) U T1 := ⟨_, rfl⟩
        rw [← hT2] at hNX HSET
        have hT2l : T2.length = mn := by rw [hT2, onAll_len]; exact (unhide HN1).1
        have HXL : Hid (∀ y ∈ pth T i, ∃ x : Nat, y = x ∧ x < mn) := fun y hy => by
          obtain ⟨x, h1, h2⟩ := unhide HPM y hy
          exact ⟨x, h1, by have := (unhide HN1).2.2.2.2.1 x h2; have := (unhide HG).1; omega⟩
        have HT2L := hide hT2l
        clear hT2 hT2l hRV HN1 HM HPM
        go_wp2_with fail
        go_loopw [86] (fun iv wr2 => ∃ (j2 : Nat) , iv = .int .i64 (j2 : Int) ∧ j2 ≤ M2 ∧ Hid (NX W3 wr2 nb g mn (setPL T2 (((pth T i).zip ps).take j2)) us')) (fun iv _ => (M2 - (intOf iv)).toNat)
        case atStart => exact ⟨0, rfl, by omega, by rw [List.take_zero]; exact hNX⟩
        case round =>
          rename World => wz
          obtain ⟨j2, rfl, hj2, hNX2⟩ := hrel
          have hbz := (unhide hNX2).bel
          by_cases hlt2 : j2 < M2
          · obtain ⟨y, hy⟩ : ∃ y, (pth T i)[j2]? = some y := ⟨_, List.getElem?_eq_getElem (by have := (unhide HM2).2.1; omega)⟩
            obtain ⟨p, hp⟩ : ∃ p, ps[j2]? = some p := ⟨_, List.getElem?_eq_getElem (by have := (unhide HM2).1; omega)⟩
            obtain ⟨x, rfl, hxl⟩ := unhide HXL y (List.mem_of_getElem? hy)
            obtain ⟨gn, on, cn, hne, hcn⟩ := (unhide HNV).nums.open (by have := (unhide HM2).2.1; omega)
            rw [← (unhide HM2).2.1] at hne
            cases hne
            obtain ⟨gp, op, cp, hpe, hcp⟩ := (unhide HPV _ (unhide HB3 _ hbz).2.2).open (by have := (unhide HM2).1; omega)
            rw [← (unhide HM2).1] at hpe
            cases hpe
            have k1 : wz.cell? ⟨gn, on + j2, none⟩ = some (.int .i64 (x : Int)) := by
              have hcc := hcn j2 _ hy
              rw [hbz.cell (p := ⟨gn, on + j2, none⟩) (lt_of_cell (a := ⟨gn, on + j2, none⟩) hcc)]; exact hcc
            have k2 : wz.cell? ⟨gp, op + j2, none⟩ = some (.int .i64 p) := hcp j2 _ hp
            have hxl2 : x < (setPL T2 (((pth T i).zip ps).take j2)).length := by rw [setPL_len, unhide HT2L]; exact hxl
            obtain ⟨u2, hu2, ⟨e0, e1, e2, e3⟩, hfz⟩ := (unhide hNX2).at hxl2
            have f0 : wz.drew.frozen? ⟨g, x * 4, none⟩ = false := hfz (x * 4)
            have e0d : wz.drew.cell? ⟨g, x * 4, none⟩ = some (.int .i64 (ndAt (setPL T2 (((pth T i).zip ps).take j2)) x).pub) := e0
            have cN := (unhide hNX2).cell
            have hgl := ((unhide hNX2).tr.blocks g (by simp))
            have hnbg : nb ≠ g := fun hc => (unhide hNX2).notin (by rw [hc]; simp)
            have hpg : gp ≠ g := by
              intro hc; subst hc
              obtain ⟨cur, q1⟩ := own_kind (unhide hNX2).tr.row (k := gp) rfl
              obtain ⟨gp', op', cp', hpe', hcp'⟩ := (unhide HPV _ (Below.refl _ _)).open (by have := (unhide HM2).1; omega)
              cases hpe'
              have q2 := lt_of_cell (a := ⟨gp, op + j2, none⟩) (hcp' j2 _ hp)
              have q3 := hgl.1
              have q4 := unhide HS3
              simp at q2; omega
            have S0 : wz.drew.cell? ⟨nb, 0, none⟩ = some (.slice (some ⟨g, 0, none⟩) mn mn) ∧ wz.drew.cell? ⟨gp, op + j2, none⟩ = some (.int .i64 p) := ⟨cN, k2⟩
            have S1 : (wz.setCell ⟨g, x * 4, none⟩ (.int .i64 p)).drew.cell? ⟨nb, 0, none⟩ = some (.slice (some ⟨g, 0, none⟩) mn mn) ∧ (wz.setCell ⟨g, x * 4, none⟩ (.int .i64 p)).drew.cell? ⟨gp, op + j2, none⟩ = some (.int .i64 p) := ⟨cell_keep S0.1 (Below.heap_setCell _ _ _ _ hnbg), cell_keep S0.2 (Below.heap_setCell _ _ _ _ hpg)⟩
            have hsn : Hid (setPL T2 (((pth T i).zip ps).take (j2 + 1)) = (setPL T2 (((pth T i).zip ps).take j2)).set x ⟨p, (ndAt (setPL T2 (((pth T i).zip ps).take j2)) x).mem, (ndAt (setPL T2 (((pth T i).zip ps).take j2)) x).ep, (ndAt (setPL T2 (((pth T i).zip ps).take j2)) x).un⟩) := by
              unfold Hid
              have ez : ((pth T i).zip ps)[j2]? = some ((x : Int), p) := by rw [List.getElem?_zip_eq_some]; exact ⟨hy, hp⟩
              rw [List.take_add_one, ez]
              have := setPL_snoc T2 (((pth T i).zip ps).take j2) (x : Int) p
              rw [Int.toNat_natCast] at this; exact this
            have hNX9 : Hid (NX W3 (wz.setCell ⟨g, x * 4, none⟩ (.int .i64 p)).drew nb g mn ((setPL T2 (((pth T i).zip ps).take j2)).set x ⟨p, (ndAt (setPL T2 (((pth T i).zip ps).take j2)) x).mem, (ndAt (setPL T2 (((pth T i).zip ps).take j2)) x).ep, (ndAt (setPL T2 (((pth T i).zip ps).take j2)) x).un⟩) us') := by
              have := ((unhide hNX2)).set1 (k := 0) (by decide) hxl2 ⟨p, (ndAt (setPL T2 (((pth T i).zip ps).take j2)) x).mem, (ndAt (setPL T2 (((pth T i).zip ps).take j2)) x).ep, (ndAt (setPL T2 (((pth T i).zip ps).take j2)) x).un⟩ p rfl (fun u => rfl)
              exact NX.bw (by simpa using this) (Below.refl _ _).drew
            have q1 : (j2 : Int) < (M2 : Int) := by omega
            have q0 : (0 : Int) ≤ (j2 : Int) := by omega
            have p2 : (x : Int) < (mn : Int) := by omega
            have p3 : (0 : Int) ≤ (x : Int) := by omega
            generalize setPL T2 (((pth T i).zip ps).take j2) = Tj at *
            generalize (ndAt Tj x).pub = pub0 at *
            clear hcn hcp hy hp hxl hxl2 hfz hu2 hNX2 hNX e1 e2 e3 hgl hpg hnbg
            go_upto_region 19 with fail
            go_region_held3 (fun w' : World => w'.cell? ⟨nb, 0, none⟩ = some (.slice (some ⟨g, 0, none⟩) mn mn) ∧ w'.cell? ⟨gp, op + j2, none⟩ = some (.int .i64 p)) (first | with_reducible exact S0 | with_reducible exact S1) (fail)
            all_goals
              generalize (wz.setCell ⟨g, x * 4, none⟩ (.int .i64 p)).drew = W9 at *
              go_wp2_with fail
              go_roundw
              case rel => exact ⟨j2 + 1, by go_num, by omega, by rw [unhide hsn]; exact hNX9⟩
              case measure => simp [intOf]; omega
          · obtain rfl : j2 = M2 := by omega
            have e9 : ((pth T i).zip ps).take j2 = (pth T i).zip ps := List.take_of_length_le (by have := unhide HM2; simp; omega)
            rw [e9, ← unhide HSET] at hNX2
            have cN := (unhide hNX2).cell
            obtain ⟨-, ⟨-, cR, fR⟩, cW⟩ := unhide HB3 _ hbz
            have HS := unhide HS3
            have HF : Hid (OTr w.heap.size (wz.setCell ⟨w.heap.size + 1, 0, none⟩ (.slice (some ⟨g, 0, none⟩) mn mn)) (.slice (some ⟨g, 0, none⟩) mn mn) (setT T i ee pp ps) us' ∧ Below w.heap.size w (wz.setCell ⟨w.heap.size + 1, 0, none⟩ (.slice (some ⟨g, 0, none⟩) mn mn))) :=
              ⟨((unhide hNX2).tr.keepB (fun k hk => Below.heap_setCell _ _ _ _ (by simp; omega))).mono (by omega), cW.setCell (by simp) _⟩
            have cZ : (wz.setCell ⟨w.heap.size + 1, 0, none⟩ (.slice (some ⟨g, 0, none⟩) mn mn)).cell? ⟨w.heap.size + 1, 0, none⟩ = some (.slice (some ⟨g, 0, none⟩) mn mn) := cell_set_same cR _
            clear hNX2 hNX HS cW
            go_wp2_with fail
            generalize wz.setCell ⟨w.heap.size + 1, 0, none⟩ (.slice (some ⟨g, 0, none⟩) mn mn) = WZ at *
            exact bodyPost_ret (v := .tuple #[.agg #[.slice (some ⟨g, 0, none⟩) mn mn], .int .i64 0]) (by simp [results, Tryz.results70, go_sem, cZ]) rfl ⟨_, _, rfl, (unhide HF).1, (unhide HF).2⟩
end Go.Proofs.YtpcpcgagiapinaaGreatDoor

/- The contract of Targets. -/
namespace Go.Proofs.YtpcpcgagiapinaaGreatDoor
open Go.Shelf Go.RowKit Go.Maps Go.Sort Go.Lib
abbrev F31 := Fin 31
def enF (x : F31) : Value := .int .i64 ((x.val : Nat) : Int)
def toF (z : Int) : F31 := ⟨z.toNat % 31, Nat.mod_lt _ (by decide)⟩
theorem enF_toF {z : Int} (h0 : 0 ≤ z) (h1 : z ≤ 30) : enF (toF z) = .int .i64 z ∧ (((toF z).val : Nat) : Int) = z := by
  have : ((z.toNat % 31 : Nat) : Int) = z := by rw [Nat.mod_eq_of_lt (by omega)]; omega
  exact ⟨by unfold enF toF; rw [this], this⟩
theorem fr_putRowG {α : Type} [Inhabited α] (enc : α → Value) (w : World) (blk off q : Nat) (d : Array α) : Fr [blk] w (putRow enc (Sort.ahead w q) blk off d) := by
  refine ⟨rfl, rfl, rfl, by simp, fun k hk hn => ?_⟩
  simp only [putRow, mapBlock, Sort.ahead, Array.getElem?_modify]
  have : blk ≠ k := fun c => hn (by simp [c])
  simp [this]
theorem putRow_blk {α : Type} [Inhabited α] (enc : α → Value) (w : World) (blk off q : Nat) (d : Array α) {cur : Array Value} {t : TypeId} {z : Nat × Nat} (h : w.heap[blk]? = some (.cells cur t z)) : ∃ cur', (putRow enc (Sort.ahead w q) blk off d).heap[blk]? = some (.cells cur' t z) ∧ cur'.size = cur.size := by
  refine ⟨putCells enc off d cur, ?_, by simp [putCells]⟩
  simp only [putRow, mapBlock, Sort.ahead, Array.getElem?_modify, if_true, h]; rfl
theorem Nums.keepFr {w w' : World} {v : Value} {l : List Int} {S : List Nat} (h : Nums w v l) (hf : Fr S w w') (hn : ∀ g o c, v = .slice (some ⟨g, o, none⟩) l.length c → g ∉ S) : Nums w' v l := by
  rcases h with h | ⟨g, o, cap, hv, h1, h2, hc⟩
  · exact Or.inl h
  · refine Or.inr ⟨g, o, cap, hv, h1, h2, fun j z hj => ?_⟩
    have hcc := hc j z hj
    exact cell_keep hcc (hf.block g (lt_of_cell (a := ⟨g, o + j, none⟩) hcc) (hn g o cap hv))
theorem delete_fresh {B : Nat} {w : World} {u fv : Value} {L fl : List Int} {fb : Nat} (h : Ints B w u L) (hL : L ≠ []) (h30 : ∀ z ∈ L, 0 ≤ z ∧ z ≤ 30) (hf : Nums w fv fl) (hfB : ∀ g o c, fv = .slice (some ⟨g, o, none⟩) fl.length c → fl ≠ [] → g < B) (hc : w.cell? ⟨fb, 0, none⟩ = some fv) (hfb : fb < B) (hl : L.length ≤ 100) :
    Calls Tryz.prog 112 #[u, .func (.func 113) #[] #[.pointer (some ⟨fb, 0, none⟩)]] w fun e w' => ∃ a m c, e = .returned (.slice a m c) ∧ Ints B w' (.slice a m c) (L.filter (keepF fl)) ∧ (Value.slice a m c).ownBlock = u.ownBlock ∧ Fr u.ownBlock.toList w w' := by
  have hpos : 0 < L.length := List.length_pos_iff.2 hL
  obtain ⟨g, cap, rfl, hg, hcap, _⟩ := own_open h hpos
  have hgB : B ≤ g := (World.ownsRow.lt h g rfl).1
  obtain ⟨d, hd⟩ : ∃ d : Array F31, d = (L.map toF).toArray := ⟨_, rfl⟩
  have hds : d.size = L.length := by rw [hd]; simp
  have hdt : d.toList = L.map toF := by rw [hd]
  have hpred : ∀ (W : World) (x : F31), Nums W fv fl → W.cell? ⟨fb, 0, none⟩ = some fv → FnGives Tryz.prog 113 #[.pointer (some ⟨fb, 0, none⟩)] #[enF x] (.bool (!keepF fl ((x.val : Nat) : Int))) W := fun W x h1 h2 => by
    show Calls Tryz.prog 113 #[.int .i64 ((x.val : Nat) : Int), .pointer (some ⟨fb, 0, none⟩)] W _
    refine (gives_fresh ((x.val : Nat) : Int) (by omega) (by have := x.isLt; omega) fb fv fl W h1 h2).mono ?_
    rintro e w' ⟨rfl, rfl⟩
    exact ⟨rfl, 0, rfl⟩
  have hfS : ∀ (W : World) , Fr [g] w W → Nums W fv fl ∧ W.cell? ⟨fb, 0, none⟩ = some fv := fun W hW => by
    refine ⟨?_, cell_keep hc (hW.block fb (lt_of_cell hc) (by simp; omega))⟩
    by_cases e : fl = []
    · subst e
      rcases hf with hf | ⟨g', o', c', rfl, h1, h2, _⟩
      · exact Or.inl hf
      · exact Or.inr ⟨g', o', c', rfl, h1, h2, by simp⟩
    · exact hf.keepFr hW (fun g' o' c' hv => by have := hfB g' o' c' hv e; simp; omega)
  have hH : Holds enF w g 0 d := fun j hj => by
    have hj' : j < L.length := by omega
    have hz := h30 L[j] (List.getElem_mem hj')
    refine ⟨?_, by simpa using own_frozen h (g := g) rfl j⟩
    have e1 : d[j]! = toF L[j] := by rw [getElem!_pos _ j hj]; simp [hd]
    rw [e1, (enF_toF hz.1 hz.2).1]
    have := own_cell h (g := g) rfl (j := j) (u := .int .i64 L[j]) (by simp [I64, List.getElem?_eq_getElem hj'])
    simpa using this
  have K := AnyE.slices_DeleteFunc laysDF enF (fun _ => rfl) (fun x => !keepF fl ((x.val : Nat) : Int)) 113 #[.pointer (some ⟨fb, 0, none⟩)] (enters_of Tryz.func113 (by kernel_rfl) rfl) (toF 0) Tryz.zeroValue3 g 0 cap d w
    (fun W x hb => hpred W x (hfS W ((Fr.ofBelow hb).mono (by simp))).1 (hfS W ((Fr.ofBelow hb).mono (by simp))).2)
    (fun n os dk x hdk => hpred _ x (hfS _ ((fr_putRowG enF w g 0 n dk).tr (fr_grow _ _ _))).1 (hfS _ ((fr_putRowG enF w g 0 n dk).tr (fr_grow _ _ _))).2) hH (by omega) (by omega)
  rw [hds] at K
  refine K.mono ?_
  rintro e w' ⟨rfl, q, rfl⟩
  obtain ⟨R, hR⟩ : ∃ R : List F31, R = d.toList.filter fun x => !!keepF fl ((x.val : Nat) : Int) := ⟨_, rfl⟩
  have hRL : L.filter (keepF fl) = R.map (fun x => ((x.val : Nat) : Int)) := by
    rw [hR, hdt]
    clear hR hdt hds hd K hH h hL hpos hl hcap
    induction L with
    | nil => rfl
    | cons z L ih =>
      have hz := h30 z (by simp)
      have e1 := (enF_toF hz.1 hz.2).2
      have ih := ih (fun y hy => h30 y (by simp [hy]))
      simp only [List.map_cons, List.filter_cons, e1, Bool.not_not]
      simp only [Bool.not_not] at ih
      by_cases ck : keepF fl z = true
      · rw [if_pos ck, if_pos ck, List.map_cons, e1, ih]
      · rw [if_neg ck, if_neg ck, ih]
  rw [← hR]
  have hRl : R.length ≤ L.length := by rw [hR, hdt]; exact Nat.le_trans (List.length_filter_le _ _) (by simp)
  have f1 := fr_putRowG enF w g 0 q (R ++ List.replicate (L.length - R.length) (toF 0)).toArray
  obtain ⟨cur, hcur⟩ := own_kind h (k := g) rfl
  have hcs : cur.size = cap := by
    rcases h.2 with ⟨hv, _⟩ | ⟨g', cap', cur', hv, _, hg', _, _, h3, _⟩
    · cases hv
    · cases hv; rw [hcur] at hg'; cases hg'; omega
  have hcm : cap ≤ maxLen := by
    rcases h.2 with ⟨hv, _⟩ | ⟨g', cap', cur', hv, _, hg', _, h2, _, _⟩
    · cases hv
    · cases hv; exact h2
  obtain ⟨cur', hcur', hcs'⟩ := putRow_blk enF w g 0 q (R ++ List.replicate (L.length - R.length) (toF 0)).toArray hcur
  have hh := holds_putRow enF (Sort.ahead w q) g 0 d (R ++ List.replicate (L.length - R.length) (toF 0)).toArray (holds_ahead _ _ _ _ _ _ hH) (by simp; omega)
  generalize putRow enF (Sort.ahead w q) g 0 (R ++ List.replicate (L.length - R.length) (toF 0)).toArray = W9 at *
  refine ⟨_, _, _, rfl, ?_, rfl, f1⟩
  have e2 : R.length = (L.filter (keepF fl)).length := by rw [hRL]; simp
  rw [e2]
  refine ints_of_cells hcur' hgB (by omega) (by rw [← e2]; omega) hcm (fun j z hj => ?_)
  rw [hRL] at hj
  have hjR : j < R.length := by have := (List.getElem?_eq_some_iff.1 hj).1; simpa using this
  have h9 := (hh j (by simp; omega)).1
  rw [Nat.zero_add] at h9
  rw [h9]
  have e3 : (R ++ List.replicate (L.length - R.length) (toF 0)).toArray[j]! = R[j] := by
    rw [getElem!_pos _ j (by simp; omega)]; simp [hjR]
  rw [e3]
  rw [List.getElem?_map, List.getElem?_eq_getElem hjR] at hj
  cases hj; rfl
end Go.Proofs.YtpcpcgagiapinaaGreatDoor

/- The contract of Targets, the walk. -/
namespace Go.Proofs.YtpcpcgagiapinaaGreatDoor
open Go.RowKit Go.Maps
theorem RR.put {B : Nat} {w w1 : World} {g m : Nat} {ls : List (List Int)} {us : List Value} {j : Nat} {u u' : Value} {l' : List Int} (h : RR B w (.slice (some ⟨g, 0, none⟩) ls.length m) ls us) (hu : us[j]? = some u) (hf : Fr u.ownBlock.toList w w1) (hr : Ints B w1 u' l') (hp : u'.ownBlock = u.ownBlock) :
    RR B (w1.setCell ⟨g, j, none⟩ u') (.slice (some ⟨g, 0, none⟩) ls.length m) (ls.set j l') (us.set j u') := by
  obtain ⟨l, hl, hul⟩ := h.pick hu
  have hj : j < us.length := (List.getElem?_eq_some_iff.1 hu).1
  have hgu : g ∉ u.ownBlock.toList := fun c => own_apart hul h.row (show (3 : Nat) ≠ 27 by decide) (k := g) (by simpa using c) rfl
  have hgl : g < w.heap.size := (World.ownsRow.lt h.row g rfl).2
  have row1 : w1.ownsRow B 27 1 (.slice (some ⟨g, 0, none⟩) ls.length m) ls.length us := own_keep h.row (fun k hk => by cases hk; exact hf.block g hgl hgu)
  have row2 := own_set row1 (g := g) rfl (j := j) u'
  have kp : ∀ (x : Value) (ll : List Int), Ints B w1 x ll → Ints B (w1.setCell ⟨g, j, none⟩ u') x ll := fun x ll hx => own_keep hx (fun k hk => Below.heap_setCell _ _ _ _ (fun c => by
    have c : k = g := c
    subst c
    exact own_apart hx row1 (show (3 : Nat) ≠ 27 by decide) hk rfl))
  refine ⟨by simpa using h.ul, by simpa using row2, ?_, ?_⟩
  · intro i ll x hll hx
    by_cases c : j = i
    · subst c
      rw [List.getElem?_set_self hj] at hx
      rw [List.getElem?_set_self (by rw [← h.ul]; exact hj)] at hll
      cases hx; cases hll
      exact kp _ _ hr
    · rw [List.getElem?_set_ne c] at hx hll
      have hx0 := h.un i ll x hll hx
      exact kp _ _ (own_keep hx0 (fun k hk => hf.block k (World.ownsRow.lt hx0 k hk).2 (fun q => c (h.apart j i u x k hu hx (by simpa using q) hk))))
  · intro a b x y k ha hb k1 k2
    have cs : ∀ (a : Nat) (x : Value), (us.set j u')[a]? = some x → x.ownBlock = some k → ∃ x0, us[a]? = some x0 ∧ x0.ownBlock = some k := fun a x ha hk => by
      by_cases c : j = a
      · subst c
        rw [List.getElem?_set_self hj] at ha
        cases ha
        exact ⟨u, hu, by rw [← hp]; exact hk⟩
      · rw [List.getElem?_set_ne c] at ha
        exact ⟨x, ha, hk⟩
    obtain ⟨x0, a1, a2⟩ := cs a x ha k1
    obtain ⟨y0, b1, b2⟩ := cs b y hb k2
    exact h.apart a b x0 y0 k a1 b1 a2 b2
def tgtJ (ls : List (List Int)) (fl : List Int) (j : Nat) : List (List Int) := (ls.take j).map (fun l => l.filter (keepF fl)) ++ ls.drop j
theorem tgtJ_step {ls : List (List Int)} {fl : List Int} {j : Nat} {l : List Int} (h : ls[j]? = some l) : (tgtJ ls fl j)[j]? = some l ∧ (tgtJ ls fl j).set j (l.filter (keepF fl)) = tgtJ ls fl (j + 1) := by
  have hj := (List.getElem?_eq_some_iff.1 h).1
  have hlen : ((ls.take j).map (fun l => l.filter (keepF fl))).length = j := by simp; omega
  have hd : ls.drop j = l :: ls.drop (j + 1) := by
    rw [List.drop_eq_getElem_cons hj]; congr 1; exact (List.getElem?_eq_some_iff.1 h).2
  unfold tgtJ
  constructor
  · rw [List.getElem?_append_right (by omega), hlen, hd]; simp
  · rw [List.set_append_right _ _ (by omega), hlen, hd, List.take_add_one, h]; simp
theorem tgtJ_len (ls : List (List Int)) (fl : List Int) (j : Nat) : (tgtJ ls fl j).length = ls.length := by unfold tgtJ; simp; omega
theorem rsl_small {T : List Nd} (hw : Wd T) (hs : Sm T) : ∀ x, x < T.length → ∀ z ∈ rsl T x, 0 ≤ z ∧ z ≤ 30 := by
  obtain ⟨g1, g2, g3, g4, g5⟩ := hw.facts
  rw [g2]
  have hpos : ∀ x, x < 2 * nlv T - 1 → pos (ndAt T x) = true → ∀ z ∈ rsl T x, 0 ≤ z ∧ z ≤ 30 := fun x hx hp z hz => by
    rw [rsl_pos hp] at hz
    rcases List.mem_cons.1 hz with rfl | hz
    · omega
    · obtain ⟨u, hu, rfl⟩ := List.mem_map.1 hz
      have := (hs x (by omega)).2 u hu; omega
  refine node_ind g1 (fun x hx ho => ?_) (fun x hx ho i1 i2 => ?_)
  · cases hp : pos (ndAt T x)
    · rw [rsl_leaf hp ho]; simp
    · exact hpos x hx hp
  · cases hp : pos (ndAt T x)
    · rw [rsl_par g1 hx hp ho]; intro z hz; rcases List.mem_append.1 hz with h | h
      · exact i1 z h
      · exact i2 z h
    · exact hpos x hx hp
def tgtR (T : List Nd) (i : Int) (fl : List Int) : List (List Int) := if askE T i = 0 then tgt T i.toNat fl else []
set_option maxRecDepth 100000 in
set_option maxHeartbeats 4000000 in
theorem targets_any {w : World} {v fv : Value} {T : List Nd} {fl : List Int} (h : Trd w v T) (hfv : Nums w fv fl) (hT : Tab w) (li : Int) :
    Calls Tryz.prog 66 #[.agg #[v], .int .i64 li, fv] w fun e w' => ∃ r us, e = .returned (.tuple #[r, .int .i64 (askE T li)]) ∧ RR w.heap.size w' r (tgtR T li fl) us ∧ Below w.heap.size w w' := by
  obtain ⟨fa, fc, hfe⟩ := nums_slice hfv
  subst hfe
  obtain ⟨FL, hFL⟩ : ∃ FL, FL = fl.length := ⟨_, rfl⟩
  rw [← hFL] at hfv ⊢
  have HFL := hide hFL
  clear hFL
  obtain ⟨W0, hW0⟩ : ∃ W0, W0 = (bxw w (v)).alloc (.cells #[.slice fa FL fc] 27) := ⟨_, rfl⟩
  have hb0 : Below w.heap.size w W0 := by rw [hW0]; exact (bwA _ _).alloc (by simp) _
  have hs0 : W0.heap.size = w.heap.size + 2 := by rw [hW0]; simp
  have HB : Hid (∀ W, Below W0.heap.size W0 W → W.cell? ⟨w.heap.size, 0, none⟩ = some v ∧ W.cell? ⟨w.heap.size + 1, 0, none⟩ = some (.slice fa FL fc) ∧ Below w.heap.size w W) := fun W hW => by
    have e0 : W.heap[w.heap.size]? = some (.cells #[v] 44 (0, 0)) := by
      rw [hW.block _ (by omega), hW0, Below.heap_alloc _ _ _ (by simp)]; exact heap_alloc_new _ _
    have e2 : W.heap[w.heap.size + 1]? = some (.cells #[.slice fa FL fc] 27 (0, 0)) := by
      rw [hW.block _ (by omega), hW0]
      have := heap_alloc_new (bxw w v) (.cells #[.slice fa FL fc] 27)
      simpa using this
    exact ⟨cell_of_blk e0 rfl, cell_of_blk e2 rfl, bw_tr hb0 hW⟩
  have KM : Hid (∀ W, Below w.heap.size w W → Calls Tryz.prog 109 #[.agg #[v]] W fun e w' => e = .returned (.bool (mayB T)) ∧ Below W.heap.size W w') := fun W hW => mayBe_any (h.bw hW) (hT.bw hW)
  have KH : Hid (mayB T = true → ∀ W, Below w.heap.size w W → Calls Tryz.prog 110 #[.agg #[v], .int .i64 li] W fun e w' => e = .returned (.bool (hasL T li)) ∧ Below W.heap.size W w') := fun q W hW => hasLeaf_any (h.bw hW) (mayB_15 q).1 li
  have HLL : Hid (mayB T = true → hasL T li = true → (oth T li.toNat).length ≤ 3 ∧ ∀ l ∈ oth T li.toNat, l ≠ [] ∧ l.length ≤ 72 ∧ ∀ z ∈ l, 0 ≤ z ∧ z ≤ 30) := fun q q2 => by
    have h0 : 0 ≤ li := by
      apply Decidable.byContradiction; intro c; unfold hasL at q2; rw [decide_eq_false c] at q2; simp at q2
    obtain ⟨n, rfl⟩ : ∃ n : Nat, li = n := ⟨li.toNat, by omega⟩
    obtain ⟨h1, h2⟩ := hasL_pos q2
    have ok := mayB_okn q (nlv_pos (by omega))
    obtain ⟨g1, g2, g3, g4, g5⟩ := ok.wd.facts
    obtain ⟨d1, d2, d3, d4, d5, d6⟩ := up_of g1 h1
    rw [Int.toNat_natCast]
    refine ⟨by unfold oth; rw [List.length_map]; have := prs_len T n; have := up_len g1 h1; omega, fun l hl => ?_⟩
    unfold oth at hl
    obtain ⟨p, hp, rfl⟩ := List.mem_map.1 hl
    obtain ⟨_, hne, s, hs, e⟩ := prs_mem hp
    have hsl : s < T.length := by have := d6 s (List.of_mem_zip hs).2; omega
    refine ⟨hne, ?_, ?_⟩
    · rw [e]; exact rsl_72 ok.wd ok.sm hsl
    · rw [e]; exact rsl_small ok.wd ok.sm s hsl
  have KP : Hid (mayB T = true → hasL T li = true → ∀ W, Below w.heap.size w W → Calls Tryz.prog 111 #[.agg #[v], .int .i64 li] W fun e w' => ∃ nv ov us, e = .returned (.tuple #[nv, ov]) ∧ RR W.heap.size w' ov (oth T li.toNat) us ∧ Below W.heap.size W w') := fun q q2 W hW => by
    have h0 : 0 ≤ li := by
      apply Decidable.byContradiction; intro c; unfold hasL at q2; rw [decide_eq_false c] at q2; simp at q2
    obtain ⟨n, rfl⟩ : ∃ n : Nat, li = n := ⟨li.toNat, by omega⟩
    obtain ⟨h1, h2⟩ := hasL_pos q2
    have ok := mayB_okn q (nlv_pos (by omega))
    refine (path_any (h.bw hW) ok.wd ok.sm (hT.bw hW) h1).mono ?_
    rintro e w' ⟨nv, ov, us, rfl, hPI, hb⟩
    exact ⟨nv, ov, us, rfl, hPI.rr, hb⟩
  have HFV : Hid (∀ W, Below w.heap.size w W → Nums W (.slice fa FL fc) fl) := fun W hW => hfv.bw hW
  have HFB : Hid (∀ g o c, Value.slice fa FL fc = .slice (some ⟨g, o, none⟩) fl.length c → fl ≠ [] → g < w.heap.size) := fun g o c hv hne => by
    obtain ⟨g', o', c', hv', hc⟩ := hfv.open (List.length_pos_iff.2 hne)
    rw [hv] at hv'
    cases hv'
    obtain ⟨z, hz⟩ : ∃ z, fl[0]? = some z := ⟨_, List.getElem?_eq_getElem (List.length_pos_iff.2 hne)⟩
    exact lt_of_cell (a := ⟨g, o + 0, none⟩) (hc 0 z hz)
  obtain ⟨E, hEE⟩ : ∃ E, E = askE T li := ⟨_, rfl⟩
  have HTG : Hid (tgtR T li fl = if E = 0 then (oth T li.toNat).map (fun l => l.filter (keepF fl)) else []) := by unfold Hid tgtR tgt; rw [hEE]
  rw [← hEE]
  unfold askE at hEE
  have HE := hide hEE
  have HW : Hid (W0 = (w.alloc (.cells #[v] 44)).alloc (.cells #[.slice fa FL fc] 27)) := hW0
  have HS0 := hide hs0
  clear h hfv hT hW0 hs0 hEE
  generalize tgtR T li fl = TG at *
  generalize mayB T = p at *
  generalize hasL T li = q at *
  generalize oth T li.toNat = ls at *
  cases p
  · obtain rfl : E = 1 := by rw [unhide HE]; simp
    obtain rfl : TG = [] := by rw [unhide HTG]; simp
    clear KH KP HLL HE HTG
    go_enter Tryz.func66, Tryz.ntmps66
    go_wp2_with fail
    rw [← unhide HW]
    refine (unhide KM _ hb0).mono ?_
    rintro e W1 ⟨rfl, b1⟩
    have hb1 := (unhide HB _ b1).2.2
    go_wp2
    go_ret2
    exact ⟨_, [], rfl, rr_nil _ _, hb1⟩
  · have KH2 := hide (unhide KH rfl)
    have KP2 := hide (unhide KP rfl)
    have HLL2 := hide (unhide HLL rfl)
    clear KH KP HLL
    cases q
    · obtain rfl : E = 7 := by rw [unhide HE]; simp
      obtain rfl : TG = [] := by rw [unhide HTG]; simp
      clear KP2 HLL2 HE HTG
      go_enter Tryz.func66, Tryz.ntmps66
      go_wp2_with fail
      rw [← unhide HW]
      refine (unhide KM _ hb0).mono ?_
      rintro e W1 ⟨rfl, b1⟩
      obtain ⟨c0, c1, hb1⟩ := unhide HB _ b1
      go_wp2_with fail
      refine (unhide KH2 _ hb1).mono ?_
      rintro e W2 ⟨rfl, b2⟩
      have hb2 := bw_tr hb1 b2
      go_wp2
      go_ret2
      exact ⟨_, [], rfl, rr_nil _ _, hb2⟩
    · obtain rfl : E = 0 := by rw [unhide HE]; simp
      have HTG2 : Hid (TG = ls.map (fun l => l.filter (keepF fl))) := by unfold Hid; rw [unhide HTG]; simp
      have KP3 := hide (unhide KP2 rfl)
      obtain ⟨hl3, hlz⟩ := unhide HLL2 rfl
      have HLZ := hide hlz
      clear KP2 HLL2 HE HTG hlz
      obtain ⟨M, hM⟩ : ∃ M, M = ls.length := ⟨_, rfl⟩
      rw [← hM] at hl3
      have HM := hide hM
      clear hM
      go_enter Tryz.func66, Tryz.ntmps66
      go_wp2_with fail
      rw [← unhide HW]
      refine (unhide KM _ hb0).mono ?_
      rintro e W1 ⟨rfl, b1⟩
      obtain ⟨c0, c1, hb1⟩ := unhide HB _ b1
      go_wp2_with fail
      refine (unhide KH2 _ hb1).mono ?_
      rintro e W2 ⟨rfl, b2⟩
      have b3 := bw_tr b1 b2
      clear c0 c1 KM KH2 HW hb1
      obtain ⟨c0, c1, hb2⟩ := unhide HB _ b3
      go_wp2_with fail
      refine (unhide KP3 _ hb2).mono ?_
      rintro e W3 ⟨nv, ov, us, rfl, hRR, b4⟩
      obtain ⟨oa, oc, hoe⟩ := own_slice hRR.row
      rw [← unhide HM] at hoe
      subst hoe
      have b5 := bw_tr b3 b4
      have hRR0 := hRR.mono b3.size
      have HI : Hid (RR W0.heap.size W3 (.slice oa M oc) (tgtJ ls fl 0) us ∧ Below W0.heap.size W0 W3) := ⟨by unfold tgtJ; simpa using hRR0, b5⟩
      clear c0 c1 KP3 hb2 b4 b3 b2 hRR hRR0 b1 b5
      go_wp2_with fail
      go_loopw [27] (fun iv wr => ∃ (j : Nat) (us' : List Value), iv = .int .i64 (j : Int) ∧ j ≤ M ∧ Hid (RR W0.heap.size wr (.slice oa M oc) (tgtJ ls fl j) us' ∧ Below W0.heap.size W0 wr)) (fun iv _ => (M - (intOf iv)).toNat)
      case atStart => exact ⟨0, us, rfl, by omega, HI⟩
      case round =>
        clear HI
        obtain ⟨j, us', rfl, hj, hI⟩ := hrel
        obtain ⟨hR, hBl⟩ := unhide hI
        obtain ⟨c0, c1, hbw⟩ := unhide HB _ hBl
        by_cases hlt : j < M
        · obtain ⟨l, hl⟩ : ∃ l, ls[j]? = some l := ⟨_, List.getElem?_eq_getElem (by have := unhide HM; omega)⟩
          obtain ⟨s1, s2⟩ := tgtJ_step (fl := fl) hl
          obtain ⟨hz1, hz2, hz3⟩ := unhide HLZ l (List.mem_of_getElem? hl)
          obtain ⟨u, hu⟩ : ∃ u, us'[j]? = some u := ⟨_, List.getElem?_eq_getElem (by rw [hR.ul, tgtJ_len]; have := unhide HM; omega)⟩
          have hul := hR.un j l u s1 hu
          have hlM : (tgtJ ls fl j).length = M := by rw [tgtJ_len]; exact (unhide HM).symm
          have hrow := hR.row
          rw [hlM] at hrow
          obtain ⟨g, cap, hoe, hgl, _, hfz⟩ := own_open hrow (by omega)
          cases hoe
          have k1 : wr.cell? ⟨g, j, none⟩ = some u := own_cell hrow rfl hu
          have hs0 := unhide HS0
          have KD := hide (delete_fresh hul hz1 hz3 (unhide HFV _ hbw) (fun g o c hv hne => by have := unhide HFB g o c hv hne; omega) c1 (by omega) (by omega))
          obtain ⟨ua, uc, rfl⟩ := own_slice hul
          have HS := hide (And.intro s2 (And.intro hu hlM))
          have hRh := hide hR
          have q1 : (j : Int) < (M : Int) := by omega
          have q0 : (0 : Int) ≤ (j : Int) := by omega
          have hM3 : (M : Int) ≤ 3 := by omega
          generalize l.length = ll at *
          clear hR s1 s2 hl hz1 hz2 hz3 hu hrow hlM hs0 hI hul c0
          go_wp2_with fail
          refine (unhide KD).mono ?_
          rintro e w5 ⟨a5, m5, c5, rfl, h5, hp5, f5⟩
          have hgu : g ∉ (Value.slice ua ll uc).ownBlock.toList := fun c => by
            obtain ⟨lq, _, hq⟩ := (unhide hRh).pick (unhide HS).2.1
            exact own_apart hq (unhide hRh).row (show (3 : Nat) ≠ 27 by decide) (k := g) (by simpa using c) rfl
          have k2 : w5.cell? ⟨g, j, none⟩ = some (.slice ua ll uc) := cell_keep k1 (f5.block g hgl hgu)
          have k3 : w5.frozen? ⟨g, j, none⟩ = false := by
            have := own_frozen (unhide hRh).row (g := g) rfl j
            unfold World.frozen? at *; rw [f5.block g hgl hgu]; exact this
          have HN : Hid (RR W0.heap.size (w5.setCell ⟨g, j, none⟩ (.slice a5 m5 c5)) (.slice (some ⟨g, 0, none⟩) M oc) (tgtJ ls fl (j + 1)) (us'.set j (.slice a5 m5 c5)) ∧ Below W0.heap.size W0 (w5.setCell ⟨g, j, none⟩ (.slice a5 m5 c5))) := by
            have hR := unhide hRh
            rw [← (unhide HS).2.2] at hR
            have := hR.put (unhide HS).2.1 f5 h5 hp5
            rw [(unhide HS).1, (unhide HS).2.2] at this
            refine ⟨this, (Fr.toBase hBl f5 (fun k hk => ?_)).setCell (World.ownsRow.lt (unhide hRh).row g rfl).1 _⟩
            obtain ⟨lq, _, hq⟩ := (unhide hRh).pick (unhide HS).2.1
            exact (World.ownsRow.lt hq k (by simpa using hk)).1
          clear h5 hp5 f5 hRh KD hBl hbw
          go_wp2_with fail
          generalize w5.setCell ⟨g, j, none⟩ (.slice a5 m5 c5) = W6 at *
          go_roundw
          case rel => exact ⟨j + 1, _, by go_num, by omega, HN⟩
          case measure => simp [intOf]; omega
        · obtain rfl : j = M := by omega
          have e9 : tgtJ ls fl j = TG := by
            rw [unhide HTG2]; unfold tgtJ
            rw [List.take_of_length_le (by have := unhide HM; omega), List.drop_of_length_le (by have := unhide HM; omega)]; simp
          rw [e9] at hR
          have hs0 := hb0.size
          have hRh := hide (hR.mono hs0)
          clear hR hI e9 hBl
          go_wp2_with fail
          go_ret2
          exact ⟨_, _, rfl, unhide hRh, hbw⟩
end Go.Proofs.YtpcpcgagiapinaaGreatDoor

/- The contract of alive, the end of every law of layer 8. -/
namespace Go.Proofs.YtpcpcgagiapinaaGreatDoor
open Go.RowKit Go.Maps
end Go.Proofs.YtpcpcgagiapinaaGreatDoor
