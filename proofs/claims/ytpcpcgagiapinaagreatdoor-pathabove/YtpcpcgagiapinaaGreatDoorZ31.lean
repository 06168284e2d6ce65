/- Texts joined: PcM PcN PcO PcP PdC. -/
import Derived.Shelf.SlIterI.Nil
import Derived.Shelf.SortM.Plain
import Derived.Shelf.SortM.SortNone
import Derived.Test.YtpcpcgagiapinaaGreatDoorZ30
/- A map of numbers by any numbers; its numbers, rising. No walk is in this text. -/
namespace Go.Proofs.YtpcpcgagiapinaaGreatDoor.Tn.Pa
open Go.Shelf Go.RowKit Go.Maps Go.Sort
abbrev Mp := List (Int × Int)
def mgt (l : Mp) (k : Int) : Option Int := (l.find? fun p => decide (p.1 = k)).map (·.2)
def mput (l : Mp) (k v : Int) : Mp := l.filter (fun p => !decide (p.1 = k)) ++ [(k, v)]
def mgtV (l : Mp) (k : Int) : Int := match mgt l k with
  | some t => t
  | none => 0
theorem mgt_nil (k : Int) : mgt [] k = none := rfl
theorem mgt_cons (p : Int × Int) (l : Mp) (k : Int) : mgt (p :: l) k = if p.1 = k then some p.2 else mgt l k := by
  unfold mgt
  rw [List.find?_cons]
  by_cases h : p.1 = k <;> simp [h]
theorem mgt_app (l m : Mp) (k : Int) : mgt (l ++ m) k = (mgt l k).or (mgt m k) := by
  induction l with
  | nil => simp [mgt_nil]
  | cons p l ih =>
    rw [List.cons_append, mgt_cons, mgt_cons, ih]
    by_cases h : p.1 = k <;> simp [h]
theorem mgt_fil (l : Mp) (m k : Int) : mgt (l.filter fun p => !decide (p.1 = m)) k = if k = m then none else mgt l k := by
  induction l with
  | nil => simp [mgt]
  | cons p l ih =>
    rw [List.filter_cons]
    by_cases c : p.1 = m
    · simp only [c, decide_true, Bool.not_true, Bool.false_eq_true, if_false]
      rw [ih, mgt_cons]
      by_cases q : k = m
      · rw [if_pos q, if_pos q]
      · rw [if_neg q, if_neg q, if_neg (by omega)]
    · simp only [c, decide_false, Bool.not_false, if_true]
      rw [mgt_cons, ih, mgt_cons]
      by_cases q : k = m
      · subst q; rw [if_pos rfl, if_pos rfl, if_neg c]
      · rw [if_neg q, if_neg q]
theorem mgt_put (l : Mp) (m t k : Int) : mgt (mput l m t) k = if m = k then some t else mgt l k := by
  unfold mput
  rw [mgt_app, mgt_fil, mgt_cons, mgt_nil]
  by_cases c : m = k
  · subst c; simp
  · rw [if_neg (fun q => c q.symm), if_neg c, if_neg c]; simp
theorem mgt_mem {l : Mp} {k t : Int} (h : mgt l k = some t) : (k, t) ∈ l := by
  induction l with
  | nil => cases h
  | cons p l ih =>
    rw [mgt_cons] at h
    split at h
    · next q => cases h; subst q; simp
    · exact List.mem_cons_of_mem _ (ih h)
theorem mgt_some {l : Mp} {p : Int × Int} (h : p ∈ l) : (mgt l p.1).isSome = true := by
  induction l with
  | nil => cases h
  | cons q l ih =>
    rw [mgt_cons]
    rcases List.mem_cons.1 h with rfl | c
    · simp
    · split
      · rfl
      · exact ih c
def Kd (l : Mp) : Prop := (l.map (·.1)).Nodup
theorem Kd.nil : Kd [] := by simp [Kd]
theorem Kd.fil {l : Mp} (h : Kd l) (f : Int × Int → Bool) : Kd (l.filter f) := h.sublist (List.Sublist.map _ List.filter_sublist)
theorem Kd.put {l : Mp} (h : Kd l) (k v : Int) : Kd (mput l k v) := by
  unfold Kd mput
  rw [List.map_append, List.nodup_append]
  refine ⟨h.fil _, by simp, ?_⟩
  intro a ha b hb
  simp at hb ha
  exact fun c => ha.2 (c.trans hb)
theorem Kd.fil_len {l : Mp} (h : Kd l) (k : Int) : (l.filter fun p => !decide (p.1 = k)).length + (if (mgt l k).isSome then 1 else 0) = l.length := by
  induction l with
  | nil => rfl
  | cons p l ih =>
    have h1 := List.nodup_cons.1 (show (p.1 :: l.map (·.1)).Nodup from h)
    have ih := ih h1.2
    rw [List.filter_cons, mgt_cons]
    by_cases c : p.1 = k
    · have e : mgt l k = none := by
        cases hh : mgt l k with
        | none => rfl
        | some t => exact absurd (List.mem_map.2 ⟨_, mgt_mem hh, rfl⟩) (by rw [c] at h1; exact h1.1)
      rw [e] at ih
      simp [c] at ih ⊢
      exact ih
    · simp only [c, decide_false, Bool.not_false, if_true, if_false, List.length_cons]
      omega
theorem mput_len {l : Mp} (h : Kd l) (k v : Int) : (mput l k v).length = l.length + (if (mgt l k).isSome then 0 else 1) := by
  have := h.fil_len k
  unfold mput
  rw [List.length_append]
  simp only [List.length_singleton]
  split at this <;> simp_all <;> omega
theorem mput_le {l : Mp} (h : Kd l) (k v : Int) : (mput l k v).length ≤ l.length + 1 := by rw [mput_len h]; split <;> omega
def RI : Value → Option (DataW Unit × List MemPlace)
  | .int .i64 z => some (.lit (.int .i64 z), [])
  | _ => none
theorem RI_mk (z : Int) : RI (.int .i64 z) = some (.lit (.int .i64 z), []) := rfl
theorem RI_inv {v : Value} {z : DataW Unit × List MemPlace} (h : RI v = some z) : ∃ x, v = .int .i64 x ∧ z = (.lit (.int .i64 x), []) := by
  match v, h with
  | .int .i64 x, h => cases h; exact ⟨x, rfl, rfl⟩
theorem lawI : Keyed Tryz.prog 3 := int_keyed Tryz.underlying3
theorem keyI {k : Int} (h : i64b k) : keyOf Tryz.prog 3 (.int .i64 k) = some (.int .i64 k) := keyOf_int_mk Tryz.underlying3 (wf_i64 h.1 h.2)
structure ID (D : DataW Unit) (l : Mp) : Prop where
  cnt : size D = l.length
  key : ∀ kl, Maps.has D kl = true → ∃ k : Int, kl = .int .i64 k
  has : ∀ k : Int, Maps.has D (.int .i64 k) = (mgt l k).isSome
  at_ : ∀ (k t : Int), mgt l k = some t → ∀ z, D.atKey (.int .i64 k) z = .lit (.int .i64 t)
  kd : Kd l
def IMap (w : World) (b : Nat) (l : Mp) : Prop := ∃ D : DataW Unit, w.ownsMap Tryz.prog 3 RI b l.length D ∧ ID D l
theorem IMap.kd {w : World} {b : Nat} {l : Mp} (h : IMap w b l) : Kd l := by obtain ⟨D, _, h⟩ := h; exact h.kd
theorem IMap.made (w : World) : IMap (w.alloc (.map #[] 0)) w.heap.size [] := ⟨.map [], World.ownsMap_made w _ _ _, ⟨rfl, fun kl h => by simp [Maps.has] at h, fun k => by simp [Maps.has, mgt_nil], fun k t h => by simp [mgt_nil] at h, Kd.nil⟩⟩
theorem IMap.lt {w : World} {b : Nat} {l : Mp} (h : IMap w b l) : b < w.heap.size := by obtain ⟨D, h1, _⟩ := h; exact h1.lt
theorem IMap.keep {w w' : World} {b : Nat} {l : Mp} (h : IMap w b l) (hb : w'.heap[b]? = w.heap[b]?) : IMap w' b l := by
  obtain ⟨D, ⟨es, clock, h1, h2⟩, h3⟩ := h
  exact ⟨D, ⟨es, clock, by rw [hb]; exact h1, h2⟩, h3⟩
theorem lit_neI {a b : Int} (h : a ≠ b) : (Lit.int .i64 a) ≠ .int .i64 b := by intro c; simp only [Lit.int.injEq, true_and] at c; exact h c
theorem own_boundI {w : World} {b n m : Nat} {D : DataW Unit} (h : w.ownsMap Tryz.prog 3 RI b n D) (hs : size D ≤ m) : w.ownsMap Tryz.prog 3 RI b m D := by
  obtain ⟨es, clock, h1, h2, h3, rfl⟩ := h
  refine ⟨es, clock, h1, h2, ?_, rfl⟩
  simpa [size, length_sorted] using hs
set_option maxRecDepth 100000 in
theorem IMap.store {w : World} {b : Nat} {l : Mp} (B : IMap w b l) (hc : l.length ≤ 10000000) (m t : Int) (hr : i64b m) :
    ∃ w', (Instr.mapUpdate 177 (.map (some b)) (.int .i64 m) (.int .i64 t)).run Tryz.prog w = .ok () w' ∧ IMap w' b (mput l m t) ∧ w.grownBy w' (some b) := by
  obtain ⟨D, h1, h2⟩ := B
  obtain ⟨w', r, h3, h4⟩ := h1.update lawI Tryz.underlying177 (by unfold maxLen; omega) (keyI hr) (RI_mk t)
  have hT := h1.tidy lawI
  have hk : WideAt.IsKeyLit (.int .i64 m) := trivial
  have hd : ID (D.put (.int .i64 m) (.lit (.int .i64 t))) (mput l m t) := by
    refine ⟨?_, ?_, ?_, ?_, h2.kd.put _ _⟩
    · rw [size_put hT, h2.has, h2.cnt, mput_len h2.kd]
      cases (mgt l m).isSome <;> simp
    · intro kl hh
      by_cases c : kl = .int .i64 m
      · exact ⟨m, c⟩
      · rw [has_put_other c] at hh; exact h2.key kl hh
    · intro k
      rw [mgt_put l m t]
      by_cases c : m = k
      · subst c; rw [has_put_same hT.isMap hk]; simp
      · rw [has_put_other (lit_neI (fun q => c q.symm)), h2.has, if_neg c]
    · intro k t' ht z
      rw [mgt_put l m t] at ht
      by_cases c : m = k
      · subst c
        simp only [if_true, Option.some.injEq] at ht
        subst ht
        rw [atKey_put_same hT.isMap hk]
      · rw [if_neg c] at ht
        rw [atKey_put_other (lit_neI (fun q => c q.symm))]
        exact h2.at_ k t' ht z
  exact ⟨w', r, ⟨_, own_boundI h3 (by rw [hd.cnt]; exact Nat.le_refl _), hd⟩, h4⟩
set_option maxRecDepth 100000 in
theorem IMap.lookOk {w : World} {b : Nat} {l : Mp} (B : IMap w b l) {k : Int} (hr : i64b k) :
    (Instr.lookup 177 (.map (some b)) (.int .i64 k) true).run Tryz.prog w = .ok (.tuple #[.int .i64 (mgtV l k), .bool (mgt l k).isSome]) w := by
  obtain ⟨D, h1, h2⟩ := B
  obtain ⟨v, ps, r, hv⟩ := h1.look_ok lawI Tryz.underlying177 (zeroInt w) (RI_mk 0) (keyI hr)
  obtain ⟨x, rfl, hz⟩ := RI_inv hv
  rw [r, h2.has]
  simp only [Prod.mk.injEq] at hz
  unfold mgtV
  cases e : mgt l k with
  | none =>
    rw [atKey_of_not_has (by rw [h2.has, e]; rfl)] at hz
    simp only [DataW.lit.injEq, Lit.int.injEq, true_and] at hz
    rw [← hz.1]
  | some t =>
    rw [h2.at_ k t e] at hz
    simp only [DataW.lit.injEq, Lit.int.injEq, true_and] at hz
    rw [← hz.1]
set_option maxRecDepth 100000 in
theorem IMap.look {w : World} {b : Nat} {l : Mp} (B : IMap w b l) {k : Int} (hr : i64b k) :
    (Instr.lookup 177 (.map (some b)) (.int .i64 k) false).run Tryz.prog w = .ok (.int .i64 (mgtV l k)) w := by
  obtain ⟨D, h1, h2⟩ := B
  obtain ⟨v, ps, r, hv⟩ := h1.lookup lawI Tryz.underlying177 (zeroInt w) (RI_mk 0) (keyI hr)
  obtain ⟨x, rfl, hz⟩ := RI_inv hv
  rw [r]
  simp only [Prod.mk.injEq] at hz
  unfold mgtV
  cases e : mgt l k with
  | none =>
    rw [atKey_of_not_has (by rw [h2.has, e]; rfl)] at hz
    simp only [DataW.lit.injEq, Lit.int.injEq, true_and] at hz
    rw [← hz.1]
  | some t =>
    rw [h2.at_ k t e] at hz
    simp only [DataW.lit.injEq, Lit.int.injEq, true_and] at hz
    rw [← hz.1]
def resM (b : Nat) (l : Mp) : Res := ⟨[b], fun w => IMap w b l, fun w w' S h hf hd => h.keep (hf.block b h.lt (hd b (by simp))), fun w h x hx => by simp at hx; subst hx; exact h.lt⟩
theorem EF.put {F : List Nat} {w W W' : World} {b : Nat} {l : Mp} {rs : List Res} (h : EF F w W (resM b l :: rs)) {k v : Int} (h1 : IMap W' b (mput l k v)) (hg : W.grownBy W' (some b)) : EF F w W' (resM b (mput l k v) :: rs) :=
  h.step (r' := resM b (mput l k v)) ⟨Fr.ofGrown hg, fun _ hx => Or.inl hx⟩ h1
theorem EF.newM {F : List Nat} {w W : World} {rs : List Res} (h : EF F w W rs) : EF F w (W.alloc (.map #[] 0)) (resM W.heap.size [] :: rs) :=
  h.add (resM W.heap.size []) (bwA' _ _) (IMap.made W) (by intro x hx; simp [resM] at hx; omega)
def renKi : Go.Shelf.Ren := ⟨fun | 0 => 0 | 1 => 1 | 2 => 2 | 6 => 122 | 7 => 123 | 8 => 150 | 9 => 151 | 10 => 152 | 11 => 179 | 12 => 180 | 13 => 133 | 14 => 191 | 15 => 192 | 16 => 193 | 17 => 194 | 18 => 195 | 19 => 196 | 20 => 197 | 21 => 198 | 22 => 199 | 23 => 167 | 24 => 168 | 25 => 201 | 26 => 183 | 27 => 184 | 28 => 202 | 29 => 203 | 30 => 134 | 31 => 204 | 32 => 205 | 33 => 206 | 34 => 207 | 35 => 208 | 36 => 209 | 37 => 210 | 38 => 211 | 39 => 212 | 40 => 213 | 41 => 214 | 42 => 215 | 43 => 216 | 44 => 217 | 45 => 218 | 46 => 219 | 47 => 222 | n => n, fun | 0 => 0 | 1 => 1 | 2 => 2 | 3 => 3 | 4 => 4 | 5 => 5 | 6 => 6 | 7 => 7 | 8 => 8 | 9 => 9 | 10 => 10 | 11 => 11 | 12 => 12 | 13 => 13 | 14 => 14 | 15 => 15 | 16 => 16 | 17 => 17 | 18 => 18 | 19 => 19 | 20 => 20 | 21 => 21 | 22 => 177 | 23 => 177 | 24 => 27 | 25 => 178 | 26 => 3 | 27 => 109 | 28 => 110 | 29 => 179 | 32 => 155 | 33 => 80 | 34 => 204 | 35 => 205 | 36 => 185 | 37 => 186 | 38 => 213 | 39 => 194 | 40 => 195 | 41 => 214 | 42 => 215 | 43 => 39 | 44 => 216 | 45 => 128 | 46 => 217 | 47 => 200 | 48 => 201 | 49 => 202 | 50 => 203 | 51 => 206 | 52 => 207 | 53 => 208 | 54 => 220 | 55 => 210 | 56 => 221 | 57 => 218 | 58 => 105 | 59 => 222 | 60 => 223 | 61 => 224 | 62 => 225 | 63 => 226 | 64 => 227 | 65 => 228 | 66 => 99 | 67 => 229 | 68 => 230 | 69 => 231 | 70 => 232 | 71 => 233 | 72 => 234 | 73 => 235 | 74 => 236 | 75 => 237 | n => n, fun | n => n⟩
set_option maxRecDepth 100000 in
theorem laysKi : Go.Proofs.SlLaysZI.n7 Tryz.prog renKi := {
  mixed := by kernel_rfl
  f7 := ⟨Tryz.f123.name, by decide, Tryz.func123.trans (congrArg some (by kernel_rfl))⟩
  f10 := ⟨Tryz.f152.name, by decide, Tryz.func152.trans (congrArg some (by kernel_rfl))⟩
  t0 := Tryz.underlying0
  a0 := Tryz.isAgg0
  z0 := Tryz.sizeOf0
  v0 := Tryz.zeroValue0
  t4 := Tryz.underlying4
  a4 := Tryz.isAgg4
  z4 := Tryz.sizeOf4
  v4 := Tryz.zeroValue4
  t23 := Tryz.underlying177
  a23 := Tryz.isAgg177
  z23 := Tryz.sizeOf177
  v23 := Tryz.zeroValue177
  t26 := Tryz.underlying3
  a26 := Tryz.isAgg3
  z26 := Tryz.sizeOf3
  v26 := Tryz.zeroValue3
  t27 := Tryz.underlying109
  a27 := Tryz.isAgg109
  z27 := Tryz.sizeOf109
  v27 := Tryz.zeroValue109
  t28 := Tryz.underlying110
  a28 := Tryz.isAgg110
  z28 := Tryz.sizeOf110
  v28 := Tryz.zeroValue110
  t33 := Tryz.underlying80
  a33 := Tryz.isAgg80
  z33 := Tryz.sizeOf80
  v33 := Tryz.zeroValue80 }
def renSi : Go.Shelf.Ren := ⟨fun | 0 => 0 | 1 => 1 | 2 => 2 | 6 => 122 | 8 => 150 | 9 => 151 | 11 => 179 | 12 => 180 | 13 => 133 | 14 => 191 | 15 => 192 | 16 => 193 | 17 => 194 | 18 => 195 | 19 => 196 | 20 => 197 | 21 => 198 | 22 => 199 | 23 => 167 | 24 => 168 | 25 => 201 | 26 => 183 | 27 => 184 | 28 => 202 | 29 => 203 | 30 => 134 | 31 => 204 | 32 => 205 | 33 => 206 | 34 => 207 | 35 => 208 | 36 => 209 | 37 => 210 | 38 => 211 | 39 => 212 | 40 => 213 | 41 => 214 | 42 => 215 | 43 => 216 | 44 => 217 | 45 => 218 | 46 => 219 | 47 => 222 | n => n, fun | 0 => 0 | 1 => 1 | 2 => 2 | 3 => 3 | 4 => 4 | 5 => 5 | 6 => 6 | 7 => 7 | 8 => 8 | 9 => 9 | 10 => 10 | 11 => 11 | 12 => 12 | 13 => 13 | 14 => 14 | 15 => 15 | 16 => 16 | 17 => 17 | 18 => 18 | 19 => 19 | 20 => 20 | 21 => 21 | 22 => 177 | 24 => 27 | 25 => 178 | 26 => 3 | 27 => 109 | 28 => 110 | 32 => 155 | 33 => 80 | 34 => 204 | 35 => 205 | 36 => 185 | 37 => 186 | 38 => 213 | 39 => 194 | 40 => 195 | 41 => 214 | 42 => 215 | 43 => 39 | 44 => 216 | 45 => 128 | 46 => 217 | 47 => 200 | 48 => 201 | 49 => 202 | 50 => 203 | 51 => 206 | 52 => 207 | 53 => 208 | 54 => 220 | 55 => 210 | 56 => 221 | 57 => 218 | 58 => 105 | 59 => 222 | 60 => 223 | 61 => 224 | 62 => 225 | 63 => 226 | 64 => 227 | 65 => 228 | 66 => 99 | 67 => 229 | 68 => 230 | 69 => 231 | 70 => 232 | 71 => 233 | 72 => 234 | 73 => 235 | 74 => 236 | 75 => 237 | n => n, fun | n => n⟩
set_option maxRecDepth 100000 in
theorem laysSi : Go.Proofs.SlLaysZI.n6 Tryz.prog renSi := {
  mixed := by kernel_rfl
  f6 := ⟨Tryz.f122.name, by decide, Tryz.func122.trans (congrArg some (by kernel_rfl))⟩
  f8 := ⟨Tryz.f150.name, by decide, Tryz.func150.trans (congrArg some (by kernel_rfl))⟩
  f11 := ⟨Tryz.f179.name, by decide, Tryz.func179.trans (congrArg some (by kernel_rfl))⟩
  t0 := Tryz.underlying0
  a0 := Tryz.isAgg0
  z0 := Tryz.sizeOf0
  v0 := Tryz.zeroValue0
  t24 := Tryz.underlying27
  a24 := Tryz.isAgg27
  z24 := Tryz.sizeOf27
  v24 := Tryz.zeroValue27
  t26 := Tryz.underlying3
  a26 := Tryz.isAgg3
  z26 := Tryz.sizeOf3
  v26 := Tryz.zeroValue3
  t28 := Tryz.underlying110
  a28 := Tryz.isAgg110
  z28 := Tryz.sizeOf110
  v28 := Tryz.zeroValue110
  i26 := by kernel_rfl }
def renSt : Go.Shelf.Ren := ⟨fun | 0 => 0 | 1 => 1 | 2 => 2 | 5 => 151 | 7 => 180 | 8 => 133 | 10 => 191 | 11 => 192 | 12 => 193 | 13 => 194 | 14 => 195 | 15 => 196 | 16 => 197 | 17 => 198 | 18 => 199 | 19 => 167 | 20 => 168 | 30 => 201 | 31 => 183 | 32 => 184 | 33 => 202 | 34 => 203 | 35 => 134 | 40 => 204 | 42 => 205 | 43 => 206 | 44 => 207 | 45 => 208 | 46 => 209 | 47 => 210 | 48 => 211 | 49 => 212 | 50 => 213 | 51 => 214 | 52 => 215 | 53 => 216 | 54 => 217 | 55 => 218 | 56 => 219 | 57 => 222 | n => n, fun | 0 => 0 | 1 => 1 | 2 => 2 | 3 => 3 | 4 => 4 | 5 => 5 | 6 => 6 | 7 => 7 | 8 => 8 | 9 => 9 | 10 => 10 | 11 => 11 | 12 => 12 | 13 => 13 | 14 => 14 | 15 => 15 | 16 => 16 | 17 => 17 | 18 => 18 | 19 => 19 | 20 => 20 | 21 => 21 | 22 => 27 | 23 => 27 | 24 => 155 | 25 => 3 | 30 => 205 | 31 => 185 | 32 => 186 | 34 => 213 | 35 => 194 | 36 => 195 | 37 => 214 | 38 => 215 | 39 => 39 | 40 => 216 | 41 => 128 | 42 => 217 | 43 => 200 | 44 => 201 | 45 => 202 | 46 => 203 | 53 => 206 | 54 => 207 | 55 => 208 | 56 => 220 | 57 => 210 | 58 => 221 | 59 => 80 | 63 => 218 | 64 => 105 | 65 => 222 | 67 => 223 | 68 => 224 | 69 => 225 | 70 => 226 | 71 => 227 | 72 => 228 | 73 => 99 | 74 => 229 | 75 => 230 | 76 => 231 | 77 => 232 | 78 => 233 | 79 => 234 | 80 => 235 | 81 => 236 | 82 => 237 | n => n, fun | n => n⟩
set_option maxRecDepth 100000 in
theorem laysSt : Go.Proofs.SlLaysM.n5 Tryz.prog renSt := {
  mixed := by kernel_rfl
  f5 := ⟨Tryz.f151.name, by decide, Tryz.func151.trans (congrArg some (by kernel_rfl))⟩
  f7 := ⟨Tryz.f180.name, by decide, Tryz.func180.trans (congrArg some (by kernel_rfl))⟩
  f8 := Tryz.func133.trans (congrArg some (by kernel_rfl))
  f10 := ⟨Tryz.f191.name, by decide, Tryz.func191.trans (congrArg some (by kernel_rfl))⟩
  f11 := ⟨Tryz.f192.name, by decide, Tryz.func192.trans (congrArg some (by kernel_rfl))⟩
  f12 := ⟨Tryz.f193.name, by decide, Tryz.func193.trans (congrArg some (by kernel_rfl))⟩
  f13 := ⟨Tryz.f194.name, by decide, Tryz.func194.trans (congrArg some (by kernel_rfl))⟩
  f14 := ⟨Tryz.f195.name, by decide, Tryz.func195.trans (congrArg some (by kernel_rfl))⟩
  f15 := ⟨Tryz.f196.name, by decide, Tryz.func196.trans (congrArg some (by kernel_rfl))⟩
  f16 := ⟨Tryz.f197.name, by decide, Tryz.func197.trans (congrArg some (by kernel_rfl))⟩
  f17 := ⟨Tryz.f198.name, by decide, Tryz.func198.trans (congrArg some (by kernel_rfl))⟩
  f18 := ⟨Tryz.f199.name, by decide, Tryz.func199.trans (congrArg some (by kernel_rfl))⟩
  f19 := Tryz.func167.trans (congrArg some (by kernel_rfl))
  f20 := Tryz.func168.trans (congrArg some (by kernel_rfl))
  f30 := ⟨Tryz.f201.name, by decide, Tryz.func201.trans (congrArg some (by kernel_rfl))⟩
  f31 := Tryz.func183.trans (congrArg some (by kernel_rfl))
  f32 := Tryz.func184.trans (congrArg some (by kernel_rfl))
  f33 := ⟨Tryz.f202.name, by decide, Tryz.func202.trans (congrArg some (by kernel_rfl))⟩
  f34 := ⟨Tryz.f203.name, by decide, Tryz.func203.trans (congrArg some (by kernel_rfl))⟩
  f35 := ⟨Tryz.f134.name, by decide, Tryz.func134.trans (congrArg some (by kernel_rfl))⟩
  f40 := ⟨Tryz.f204.name, by decide, Tryz.func204.trans (congrArg some (by kernel_rfl))⟩
  t0 := Tryz.underlying0
  a0 := Tryz.isAgg0
  z0 := Tryz.sizeOf0
  v0 := Tryz.zeroValue0
  t3 := Tryz.underlying3
  a3 := Tryz.isAgg3
  z3 := Tryz.sizeOf3
  v3 := Tryz.zeroValue3
  t4 := Tryz.underlying4
  a4 := Tryz.isAgg4
  z4 := Tryz.sizeOf4
  v4 := Tryz.zeroValue4
  t5 := Tryz.underlying5
  a5 := Tryz.isAgg5
  z5 := Tryz.sizeOf5
  v5 := Tryz.zeroValue5
  t9 := Tryz.underlying9
  a9 := Tryz.isAgg9
  z9 := Tryz.sizeOf9
  v9 := Tryz.zeroValue9
  t22 := Tryz.underlying27
  a22 := Tryz.isAgg27
  z22 := Tryz.sizeOf27
  v22 := Tryz.zeroValue27
  t23 := Tryz.underlying27
  a23 := Tryz.isAgg27
  z23 := Tryz.sizeOf27
  v23 := Tryz.zeroValue27
  t25 := Tryz.underlying3
  a25 := Tryz.isAgg3
  z25 := Tryz.sizeOf3
  v25 := Tryz.zeroValue3
  t32 := Tryz.underlying186
  a32 := Tryz.isAgg186
  z32 := Tryz.sizeOf186
  v32 := Tryz.zeroValue186
  t35 := Tryz.underlying194
  a35 := Tryz.isAgg194
  z35 := Tryz.sizeOf194
  v35 := Tryz.zeroValue194
  t36 := Tryz.underlying195
  a36 := Tryz.isAgg195
  z36 := Tryz.sizeOf195
  v36 := Tryz.zeroValue195
  t41 := Tryz.underlying128
  a41 := Tryz.isAgg128
  z41 := Tryz.sizeOf128
  v41 := Tryz.zeroValue128
  t44 := Tryz.underlying201
  a44 := Tryz.isAgg201
  z44 := Tryz.sizeOf201
  v44 := Tryz.zeroValue201
  t46 := Tryz.underlying203
  a46 := Tryz.isAgg203
  z46 := Tryz.sizeOf203
  v46 := Tryz.zeroValue203
  t53 := Tryz.underlying206
  a53 := Tryz.isAgg206
  z53 := Tryz.sizeOf206
  v53 := Tryz.zeroValue206
  t57 := Tryz.underlying210
  a57 := Tryz.isAgg210
  z57 := Tryz.sizeOf210
  v57 := Tryz.zeroValue210
  t63 := Tryz.underlying218
  a63 := Tryz.isAgg218
  z63 := Tryz.sizeOf218
  v63 := Tryz.zeroValue218
  t64 := Tryz.underlying105
  a64 := Tryz.isAgg105
  z64 := Tryz.sizeOf105
  v64 := Tryz.zeroValue105 }
theorem sortsI (m : Nat) : AnyZI.SortsIn Tryz.prog renSi Fence.wide m :=
  ⟨fun blk off cap ss W hH hblk hsz => callsIn_wide.2 (AnyM.slices_Sort_int laysSt blk off cap ss W hH hblk hsz),
   fun p cap W => callsIn_wide.2 (AnyM.slices_Sort_int_none laysSt p cap W)⟩
theorem keysI (mb : Option Nat) (W : World) : Calls Tryz.prog 123 #[.map mb] W fun e w' => e = .returned (.func (.func 152) #[] #[.pointer (some ⟨W.heap.size, 0, none⟩)]) ∧ w' = W.alloc (.cells #[.map mb] 177) :=
  (callsIn_wide (n := 5)).1 (AnyZI.keys_in laysKi Fence.wide 5 trivial rfl mb W)
set_option maxRecDepth 100000 in
set_option maxHeartbeats 1000000 in
theorem sortedI {H : Type} (b nn : Nat) (D0 : DataW H) (R : Value → Option (DataW H × List MemPlace)) (w : World) (hown : w.ownsMap Tryz.prog 3 R b nn D0) (hmax : Maps.size D0 ≤ maxLen) (hbytes : Maps.size D0 * 8 ≤ 140737488355328) :
    CallsIn Fence.wide 5 Tryz.prog 122 #[.func (.func 152) #[] #[.pointer (some ⟨w.heap.size, 0, none⟩)]] (w.alloc (.cells #[.map (some b)] 177)) fun e w' => ∃ (v : Value) (ss : List Int), e = .returned v ∧ ss.Perm (intKeys D0) ∧
      w'.ownsRow (w.alloc (.cells #[.map (some b)] 177)).heap.size 3 1 v ss.length ((ss.mergeSort (fun x y => decide (x ≤ y))).map encZ) ∧ (v = .slice none 0 0 ↔ ss = []) ∧ Below (w.alloc (.cells #[.map (some b)] 177)).heap.size (w.alloc (.cells #[.map (some b)] 177)) w' := by
  have hbl := hown.lt
  have hseq : SeqGives Fence.wide 2 Tryz.prog 152 #[.pointer (some ⟨w.heap.size, 0, none⟩)] encZ (fun ss => ss.Perm (intKeys D0)) (Maps.size D0) (w.alloc (.cells #[.map (some b)] 177)) :=
    AnyZI.keys_gives (ρ := renKi) { laysKi with } Fence.wide _ trivial rfl (by omega) w.heap.size b nn D0 _ (by simp) (by simp) (by
      obtain ⟨es, clock, hb, Ft, hs, hD⟩ := hown
      exact ⟨es, clock, (Below.heap_alloc _ _ b hbl).trans hb, Ft, hs, hD⟩)
  exact AnyZI.sorted_in laysSi Fence.wide 5 trivial trivial trivial trivial rfl (by omega) (sortsI _) (enters_of Tryz.func151 (by kernel_rfl) rfl) 152 #[.pointer (some ⟨w.heap.size, 0, none⟩)] trivial (enters_of Tryz.func152 (by kernel_rfl) rfl) _ _ hmax hbytes _ hseq
theorem imap_keys {w : World} {b c : Nat} {l : Mp} {D : DataW Unit} (h : w.ownsMap Tryz.prog 3 RI b c D) (hd : ID D l) : (l.map fun p => p.1).Perm (intKeys D) := by
  obtain ⟨es, hD, hpw, _⟩ := h.entries lawI
  obtain ⟨es', hD', hko⟩ := h.keysOf
  obtain rfl : es = es' := by rw [hD] at hD'; simpa using hD'
  subst hD
  refine perm_intKeys hpw (fun p hp => by obtain ⟨v, hv⟩ := hko p hp; obtain ⟨x, _, hx, _⟩ := Maps.keyOf_i64 Tryz.underlying3 hv; exact ⟨x, hx⟩) hd.kd (fun x => ?_)
  rw [hd.has, List.mem_map]
  constructor
  · rintro ⟨p, hp, rfl⟩
    exact mgt_some hp
  · intro hs
    obtain ⟨t, ht⟩ := Option.isSome_iff_exists.1 hs
    exact ⟨_, mgt_mem ht, rfl⟩
def mkeys (l : Mp) : List Int := (l.map fun p => p.1).mergeSort (fun x y => decide (x ≤ y))
theorem mkeys_len (l : Mp) : (mkeys l).length = l.length := by unfold mkeys; rw [List.length_mergeSort, List.length_map]
theorem sorted_any {w : World} {b : Nat} {l : Mp} (h : IMap w b l) (hll : l.length ≤ 10000000) :
    Calls Tryz.prog 122 #[.func (.func 152) #[] #[.pointer (some ⟨w.heap.size, 0, none⟩)]] (w.alloc (.cells #[.map (some b)] 177)) fun e w' => ∃ v, e = .returned v ∧ w'.ownsRow 0 3 1 v l.length ((mkeys l).map encZ) ∧ Below w.heap.size w w' ∧ ∀ k, v.ownBlock = some k → w.heap.size ≤ k := by
  obtain ⟨D, h1, h2⟩ := h
  have hsz := h1.size_le
  refine ((callsIn_wide (n := 5)).1 (sortedI b l.length D RI w h1 (by unfold maxLen; omega) (by omega))).mono ?_
  rintro e w' ⟨v, ss, rfl, hp, hr, -, hb⟩
  have hpp := hp.trans (imap_keys h1 h2).symm
  have e1 : ss.mergeSort (fun x y => decide (x ≤ y)) = mkeys l := mergeSort_of_perm_i hpp
  have e2 : ss.length = l.length := by rw [hpp.length_eq, List.length_map]
  rw [e1, e2] at hr
  have hb1 : Below w.heap.size w w' := ((Below.refl _ w).alloc (Nat.le_refl _) _).trans (hb.mono (by simp))
  refine ⟨v, rfl, own_base hr (Nat.zero_le _), hb1, fun k hk => ?_⟩
  have := (World.ownsRow.lt hr k hk).1
  simp at this
  omega
end Go.Proofs.YtpcpcgagiapinaaGreatDoor.Tn.Pa

/- The contract of path.opened. -/
namespace Go.Proofs.YtpcpcgagiapinaaGreatDoor.Tn.Pa
open Go.RowKit Go.Maps
def Kfix (F : World → Prop) (v : Value) (l : List (Int × Int)) : Prop :=
  ∃ a c, v = .slice a l.length c ∧ (0 < l.length → ∃ g o, a = some ⟨g, o, none⟩ ∧ ∀ W, F W → ∀ i p, l[i]? = some p → W.cell? ⟨g, o + i * 2, none⟩ = some (.int .i64 p.1) ∧ W.cell? ⟨g, o + i * 2 + 1, none⟩ = some (.int .i64 p.2))
def Sfix (F : World → Prop) (v : Value) (l : List (Int × Int × Int)) : Prop :=
  ∃ a c, v = .slice a l.length c ∧ (0 < l.length → ∃ g o, a = some ⟨g, o, none⟩ ∧ ∀ W, F W → ∀ i p, l[i]? = some p → W.cell? ⟨g, o + i * 3, none⟩ = some (.int .i64 p.1) ∧ W.cell? ⟨g, o + i * 3 + 1, none⟩ = some (.int .i64 p.2.1) ∧ W.cell? ⟨g, o + i * 3 + 2, none⟩ = some (.int .i64 p.2.2))
theorem Kfix.mono {F G : World → Prop} {v : Value} {l : List (Int × Int)} (h : Kfix F v l) (hG : ∀ W, G W → F W) : Kfix G v l := by
  obtain ⟨a, c, h1, h2⟩ := h
  refine ⟨a, c, h1, fun q => ?_⟩
  obtain ⟨g, o, h3, h4⟩ := h2 q
  exact ⟨g, o, h3, fun W hW => h4 W (hG W hW)⟩
theorem Sfix.mono {F G : World → Prop} {v : Value} {l : List (Int × Int × Int)} (h : Sfix F v l) (hG : ∀ W, G W → F W) : Sfix G v l := by
  obtain ⟨a, c, h1, h2⟩ := h
  refine ⟨a, c, h1, fun q => ?_⟩
  obtain ⟨g, o, h3, h4⟩ := h2 q
  exact ⟨g, o, h3, fun W hW => h4 W (hG W hW)⟩
def fst1 (m : Mp) (p : Int × Int) : Mp := if (mgt m p.1).isSome = true then m else mput m p.1 p.2
def fstM (ks : List (Int × Int)) : Mp := ks.foldl fst1 []
theorem fstM_snoc (ks : List (Int × Int)) (p : Int × Int) : fstM (ks ++ [p]) = fst1 (fstM ks) p := by simp [fstM]
def kyb (ks : List (Int × Int)) : Prop := ∀ p ∈ ks, i64b p.1 ∧ i64b p.2
theorem mput_b {m : Mp} (hm : kyb m) {k v : Int} (h : i64b k ∧ i64b v) : kyb (mput m k v) := by
  intro q hq
  rcases List.mem_append.1 hq with c | c
  · exact hm q (List.mem_filter.1 c).1
  · simp at c; subst c; exact h
theorem fst_b0 (ks : List (Int × Int)) (h : kyb ks) : ∀ m, kyb m → Kd m → kyb (ks.foldl fst1 m) ∧ Kd (ks.foldl fst1 m) ∧ (ks.foldl fst1 m).length ≤ m.length + ks.length := by
  induction ks with
  | nil => intro m h1 h2; exact ⟨h1, h2, Nat.le_refl _⟩
  | cons p ks ih =>
    intro m h1 h2
    have hp := h p (by simp)
    rw [List.foldl_cons]
    have h3 : kyb (fst1 m p) ∧ Kd (fst1 m p) ∧ (fst1 m p).length ≤ m.length + 1 := by
      unfold fst1
      split
      · exact ⟨h1, h2, by omega⟩
      · exact ⟨mput_b h1 hp, h2.put _ _, mput_le h2 _ _⟩
    obtain ⟨h4, h5, h6⟩ := h3
    obtain ⟨h7, h8, h9⟩ := ih (fun q hq => h q (List.mem_cons_of_mem _ hq)) _ h4 h5
    exact ⟨h7, h8, by rw [List.length_cons]; omega⟩
theorem fst_b {ks : List (Int × Int)} (h : kyb ks) : kyb (fstM ks) ∧ Kd (fstM ks) ∧ (fstM ks).length ≤ ks.length := by
  have := fst_b0 ks h [] (by simp [kyb]) Kd.nil
  rw [List.length_nil, Nat.zero_add] at this
  exact this
theorem mgtV_b {m : Mp} (h : kyb m) (k : Int) : i64b (mgtV m k) := by
  unfold mgtV
  split
  · next t e => exact (h _ (mgt_mem e)).2
  · unfold i64b; omega
def opB (L : List Tm) (n : Int) (M : Mp) (q : Int × Int × Int) : Bool :=
  (mgt M q.2.1).isSome && decide (q.1 = n) && decide ((getT L q.2.2).kd = 6) && (decide ((getT L q.2.2).a = mgtV M q.2.1) || isP L (getT L q.2.2).a (mgtV M q.2.1))
def opR (L : List Tm) (n : Int) (M : Mp) (qs : List (Int × Int × Int)) : Option Int := (qs.find? (opB L n M)).map fun q => (getT L q.2.2).b
def opE : Option Int → Value
  | some x => .tuple #[.int .i64 x, .bool true]
  | none => .tuple #[.int .i64 0, .bool false]
theorem opR_at {L : List Tm} {n : Int} {M : Mp} {qs : List (Int × Int × Int)} {i : Nat} {q : Int × Int × Int} (hi : qs[i]? = some q) (h0 : opR L n M (qs.take i) = none) (hq : opB L n M q = true) : opR L n M qs = some (getT L q.2.2).b := by
  have e : qs = qs.take i ++ q :: qs.drop (i + 1) := by
    obtain ⟨hlt, he⟩ := List.getElem?_eq_some_iff.1 hi
    rw [← he, ← List.drop_eq_getElem_cons hlt, List.take_append_drop]
  unfold opR at h0 ⊢
  rw [e, List.find?_append]
  rw [Option.map_eq_none_iff] at h0
  rw [h0]
  simp [hq]
theorem opR_snoc {L : List Tm} {n : Int} {M : Mp} {qs : List (Int × Int × Int)} {i : Nat} {q : Int × Int × Int} (hi : qs[i]? = some q) (h0 : opR L n M (qs.take i) = none) (hq : opB L n M q = false) : opR L n M (qs.take (i + 1)) = none := by
  unfold opR at h0 ⊢
  rw [Option.map_eq_none_iff] at h0 ⊢
  rw [List.take_add_one, hi, List.find?_append, h0]
  simp [hq]
theorem EF.toB {w W : World} {rs : List Res} (h : EF [] w W rs) : Below w.heap.size w W := h.fr.toBelow
set_option maxRecDepth 100000 in
set_option maxHeartbeats 4000000 in
theorem opened_any {b : Nat} {sv : Value} {mb : Nat} {L : List Tm} {w : World} (h : St w b sv mb L) {kv qv : Value} {ks : List (Int × Int)} {qs : List (Int × Int × Int)} (hk : Kfix (fun W => Below w.heap.size w W) kv ks) (hq : Sfix (fun W => Below w.heap.size w W) qv qs) (hkb : kyb ks) (hqb : ∀ q ∈ qs, i64b q.2.1) (hkl : ks.length ≤ 1000000) (hql : qs.length ≤ 10000000) (n : Int) :
    Calls Tryz.prog 73 #[.pointer (some ⟨b, 0, none⟩), .int .i64 n, kv, qv] w fun e w' => e = .returned (opE (opR L n (fstM ks) qs)) ∧ Below w.heap.size w w' := by
  obtain ⟨ka, kc, rfl, hka⟩ := hk
  obtain ⟨qa, qc, rfl, hqa⟩ := hq
  obtain ⟨nk, hnk⟩ : ∃ nk, nk = ks.length := ⟨_, rfl⟩
  obtain ⟨nq, hnq⟩ : ∃ nq, nq = qs.length := ⟨_, rfl⟩
  rw [← hnk] at hka hkl ⊢
  rw [← hnq] at hqa hql ⊢
  obtain ⟨R, hR⟩ : ∃ R, R = opR L n (fstM ks) qs := ⟨_, rfl⟩
  rw [← hR]
  have HRR := hide hR
  clear hR
  have hmm := @run_makeMap Tryz.prog
  obtain ⟨mk, hmk⟩ : ∃ mk, mk = w.heap.size := ⟨_, rfl⟩
  have E0 : EF [] w (w.alloc (.map #[] 0)) [resM mk (fstM (ks.take 0))] := by rw [hmk]; exact (show EF [] w w [] from ⟨Fr.refl _ _, by simp, by simp, by simp⟩).newM
  have HE0 := hide E0
  have HKA := hide hka
  have HQA := hide hqa
  have HN := hide (And.intro hnk (And.intro hnq (And.intro hkb (And.intro hqb (And.intro hkl hql)))))
  have HS := hide h
  have q0 : (nk : Int) ≤ 1000000 := by omega
  have q1 : (nq : Int) ≤ 10000000 := by omega
  have HMK := hide hmk
  clear h hka hqa hnk hnq hkb hqb hkl hql E0 hmk
  go_enter Tryz.func73, Tryz.ntmps73
  go_wp2_with fail
  rw [← unhide HMK]
  clear hmm
  go_loopw [24] (fun iv wr => ∃ i : Nat, iv = .int .i64 (i : Int) ∧ i ≤ nk ∧ Hid (EF [] w wr [resM mk (fstM (ks.take i))])) (fun iv _ => (nk - intOf iv).toNat)
  case atStart => exact ⟨0, rfl, by omega, HE0⟩
  case round =>
    clear HE0
    obtain ⟨i, rfl, hile, HR⟩ := hrel
    by_cases hlt : i < nk
    · obtain ⟨p, hp⟩ : ∃ p, ks[i]? = some p := ⟨_, List.getElem?_eq_getElem (by have := (unhide HN).1; omega)⟩
      obtain ⟨g, o, hga, hgc⟩ := unhide HKA (by omega)
      subst hga
      obtain ⟨d1, d2⟩ := hgc wr (unhide HR).toB i p hp
      have hb := (unhide HN).2.2.1 p (List.mem_of_getElem? hp)
      have hf1 : fstM (ks.take (i + 1)) = fst1 (fstM (ks.take i)) p := by rw [List.take_add_one, hp, ← fstM_snoc]; rfl
      have hfl := (fst_b (ks := ks.take i) (fun q hq => (unhide HN).2.2.1 q (List.mem_of_mem_take hq))).2.2
      rw [List.length_take] at hfl
      obtain ⟨m, hm⟩ : ∃ m, m = fstM (ks.take i) := ⟨_, rfl⟩
      rw [← hm] at HR hf1 hfl
      obtain ⟨V, hV⟩ : ∃ V, V = wr.alloc (.cells #[.int .i64 p.1, .int .i64 p.2] 71) := ⟨_, rfl⟩
      have E1 := (unhide HR).newC #[.int .i64 p.1, .int .i64 p.2] 71
      rw [← hV] at E1
      obtain ⟨kb, hkb⟩ : ∃ kb, kb = wr.heap.size := ⟨_, rfl⟩
      rw [← hkb] at E1
      have y0 := blk_cell (i := 0) (show V.heap[kb]? = some (.cells #[.int .i64 p.1, .int .i64 p.2] 71 (0, 0)) from E1.hd) rfl
      have y1 := blk_cell (i := 1) (show V.heap[kb]? = some (.cells #[.int .i64 p.1, .int .i64 p.2] 71 (0, 0)) from E1.hd) rfl
      have E2 := (E1.up 1 rfl)
      have hM : IMap V mk m := E2.hd
      have lk := hM.lookOk hb.1
      obtain ⟨W4, r4, n4, g4⟩ := hM.store (by omega) p.1 p.2 hb.1
      have E4 := (E2.put n4 g4)
      have E5 : EF [] w V [resM mk m] := E2.sub (by simp)
      have E6 : EF [] w W4 [resM mk (mput m p.1 p.2)] := E4.sub (by simp)
      obtain ⟨p1, p2⟩ := p
      simp only at d1 d2 y0 y1 lk r4 E6 hf1 hV
      unfold fst1 at hf1
      simp only at hf1
      obtain ⟨bb, hbb⟩ : ∃ bb, bb = (mgt m p1).isSome := ⟨_, rfl⟩
      rw [← hbb] at lk hf1
      have z1 : (i : Int) < (nk : Int) := by omega
      have HW := hide (And.intro hV hkb)
      have HF := hide hf1
      have HE5 := hide E5
      have HE6 := hide E6
      clear hm hf1 hfl hbb hM E1 E2 E4 E5 E6 n4 g4 hgc HR hV hkb hb hp
      go_upto_region 5 with fail
      rw [← (unhide HW).1, ← (unhide HW).2]
      clear HW
      cases bb
      · have HE : Hid (EF [] w W4 [resM mk (fstM (ks.take (i + 1)))]) := by
          have e := unhide HF
          simp only [Bool.false_eq_true, if_false] at e
          unfold Hid
          rw [e]
          exact unhide HE6
        clear HF HE5 HE6
        go_wp2_with fail
        go_roundw
        case rel => exact ⟨i + 1, by go_num, by omega, HE⟩
        case measure => simp only [intOf]; omega
      · have HE : Hid (EF [] w V [resM mk (fstM (ks.take (i + 1)))]) := by
          have e := unhide HF
          simp only [if_true] at e
          unfold Hid
          rw [e]
          exact unhide HE5
        clear HF HE5 HE6 r4
        go_wp2_with fail
        go_roundw
        case rel => exact ⟨i + 1, by go_num, by omega, HE⟩
        case measure => simp only [intOf]; omega
    · obtain rfl : i = nk := by omega
      have HE : Hid (EF [] w wr [resM mk (fstM ks)]) := by
        have := unhide HR
        rw [(unhide HN).1, List.take_length] at this
        exact this
      have hMb := fst_b (unhide HN).2.2.1
      obtain ⟨M, hM⟩ : ∃ M, M = fstM ks := ⟨_, rfl⟩
      rw [← hM] at HE hMb HRR
      have HMb := hide hMb.1
      have z1 : decide ((i : Int) < (i : Int)) = false := by simp
      clear HR hM hMb hlt hile HKA
      go_wp2_with fail
      go_loopw [45] (fun iv wr => ∃ j : Nat, iv = .int .i64 (j : Int) ∧ j ≤ nq ∧ Hid (EF [] w wr [resM mk M]) ∧ Hid (opR L n M (qs.take j) = none)) (fun iv _ => (nq - intOf iv).toNat)
      case atStart => exact ⟨0, rfl, by omega, HE, rfl⟩
      case round =>
        clear HE
        obtain ⟨j, rfl, hjle, HR, HO⟩ := hrel
        by_cases hjlt : j < nq
        · obtain ⟨q, hq⟩ : ∃ q, qs[j]? = some q := ⟨_, List.getElem?_eq_getElem (by have := (unhide HN).2.1; omega)⟩
          obtain ⟨g, o, hga, hgc⟩ := unhide HQA (by omega)
          subst hga
          obtain ⟨d1, d2, d3⟩ := hgc wr (unhide HR).toB j q hq
          have hb := (unhide HN).2.2.2.1 q (List.mem_of_getElem? hq)
          have HQ1 : Hid (opB L n M q = true → R = some (getT L q.2.2).b) := fun c => by rw [unhide HRR]; exact opR_at hq (unhide HO) c
          have HQ0 : Hid (opB L n M q = false → opR L n M (qs.take (j + 1)) = none) := fun c => opR_snoc hq (unhide HO) c
          obtain ⟨V, hV⟩ : ∃ V, V = wr.alloc (.cells #[.int .i64 q.1, .int .i64 q.2.1, .int .i64 q.2.2] 76) := ⟨_, rfl⟩
          have E1 := (unhide HR).newC #[.int .i64 q.1, .int .i64 q.2.1, .int .i64 q.2.2] 76
          rw [← hV] at E1
          obtain ⟨kb, hkb⟩ : ∃ kb, kb = wr.heap.size := ⟨_, rfl⟩
          rw [← hkb] at E1
          have hblk : V.heap[kb]? = some (.cells #[.int .i64 q.1, .int .i64 q.2.1, .int .i64 q.2.2] 76 (0, 0)) := E1.hd
          have y0 := blk_cell (i := 0) hblk rfl
          have y1 := blk_cell (i := 1) hblk rfl
          have y2 := blk_cell (i := 2) hblk rfl
          have E5 : EF [] w V [resM mk M] := (E1.up 1 rfl).sub (by simp)
          have lk := (show IMap V mk M from E5.hd).lookOk hb
          have HOB : Hid (opB L n M q = ((mgt M q.2.1).isSome && decide (q.1 = n) && decide ((getT L q.2.2).kd = 6) && (decide ((getT L q.2.2).a = mgtV M q.2.1) || isP L (getT L q.2.2).a (mgtV M q.2.1)))) := rfl
          have HMV := hide (mgtV_b (unhide HMb) q.2.1)
          obtain ⟨ob, hob⟩ : ∃ ob, ob = opB L n M q := ⟨_, rfl⟩
          rw [← hob] at HQ1 HQ0 HOB
          have KG := hide (get_any b sv mb L q.2.2 V ((unhide HS).bw E5.toB))
          have HB5 := hide E5.toB
          have KP : Hid (∀ W, Below w.heap.size w W → Calls Tryz.prog 121 #[.pointer (some ⟨b, 0, none⟩), .int .i64 (getT L q.2.2).a, .int .i64 (mgtV M q.2.1)] W fun e w' => e = .returned (.bool (isP L (getT L q.2.2).a (mgtV M q.2.1))) ∧ Below W.heap.size W w') := fun W hW => isPub_any ((unhide HS).bw hW) _ _ (unhide HMV)
          obtain ⟨q1, q2, q3⟩ := q
          simp only at d1 d2 d3 y0 y1 y2 lk KG hV HOB HQ1 KP hblk
          have z1 : (j : Int) < (nq : Int) := by omega
          have HW := hide (And.intro hV hkb)
          have HE5 := hide E5
          clear E1 E5 hgc HR hV hkb hb hq hob HO HRR HMb HMV hblk
          generalize (mgt M q2).isSome = bb at *
          generalize isP L (getT L q3).a (mgtV M q2) = pb at *
          generalize mgtV M q2 = sec at *
          generalize thr L.length q3 = tb at *
          generalize (getT L q3).kd = t0 at *
          generalize (getT L q3).n = t1 at *
          generalize (getT L q3).a = t2 at *
          generalize (getT L q3).b = t3 at *
          go_upto_region 12 with fail
          rw [← (unhide HW).1, ← (unhide HW).2]
          clear HW d1 d2 d3
          have hne : ∀ (a b : Int), a ≠ b → (a == b) = false ∧ decide (a = b) = false ∧ (a != b) = true := fun a b q => ⟨by simpa using q, by simpa using q, by simpa using q⟩
          cases bb
          · have HX := unhide HQ0 (by rw [unhide HOB]; rfl)
            clear HOB HQ1 HQ0 KG KP hne HB5
            go_wp2_with fail
            go_roundw
            case rel => exact ⟨j + 1, by go_num, by omega, HE5, HX⟩
            case measure => simp only [intOf]; omega
          by_cases hn : q1 = n
          case neg =>
            obtain ⟨n1, n2, n3⟩ := hne _ _ hn
            have HX := unhide HQ0 (by rw [unhide HOB, n2]; rfl)
            clear HOB HQ1 HQ0 KG KP hne HB5
            go_wp2_with fail
            go_roundw
            case rel => exact ⟨j + 1, by go_num, by omega, HE5, HX⟩
            case measure => simp only [intOf]; omega
          subst hn
          go_wp2_with fail
          refine (unhide KG).mono ?_
          rintro e w1 ⟨rfl, b1⟩
          clear KG lk y0 y1 y2
          obtain ⟨X, hX⟩ : ∃ X, X = w1.alloc (.cells #[.int .u8 t0, .int .i64 t1, .int .i64 t2, .int .i64 t3] 64) := ⟨_, rfl⟩
          obtain ⟨A, hA⟩ : ∃ A, A = w1.heap.size := ⟨_, rfl⟩
          have b2 : Below V.heap.size V X := by rw [hX]; exact b1.alloc b1.size _
          have hb : X.heap[A]? = some (.cells #[.int .u8 t0, .int .i64 t1, .int .i64 t2, .int .i64 t3] 64 (0, 0)) := by rw [hX, hA]; exact heap_alloc_new _ _
          have c0 := blk_cell (i := 0) hb rfl
          have c2 := blk_cell (i := 2) hb rfl
          have c3 := blk_cell (i := 3) hb rfl
          have HB := hide hb
          have E6 := (unhide HE5).new b2
          have K2 := hide (unhide KP X E6.toB)
          have HE6 := hide E6
          have HX := hide (And.intro hX hA)
          clear b1 b2 hX hA hb HE5 HB5 KP E6
          go_upto_region 15 with fail
          rw [← (unhide HX).1, ← (unhide HX).2]
          clear HX
          by_cases hk : t0 = 6
          case neg =>
            have z1 : (t0 == 6) = false := by simpa using hk
            have z2 : decide (t0 = 6) = false := by simpa using hk
            have HX := unhide HQ0 (by rw [unhide HOB, z2]; simp)
            clear HOB HQ1 HQ0 hne K2 HB
            go_wp2_with fail
            go_roundw
            case rel => exact ⟨j + 1, by go_num, by omega, HE6, HX⟩
            case measure => simp only [intOf]; omega
          subst hk
          by_cases ha : t2 = sec
          · obtain rfl := unhide HQ1 (by rw [unhide HOB]; simp [ha])
            subst ha
            have B := (unhide HE6).toB
            clear HOB HQ1 HQ0 hne K2 HB HE6
            go_wp2_with fail
            go_ret2
            exact ⟨rfl, B⟩
          · obtain ⟨n1, n2, n3⟩ := hne _ _ ha
            have HOB2 : Hid (ob = pb) := by unfold Hid; rw [unhide HOB, n2]; simp
            clear HOB hne
            go_wp2_with fail
            refine (unhide K2).mono ?_
            rintro e w3 ⟨rfl, b3⟩
            have HE7 := hide ((unhide HE6).new b3)
            have hb3 := kept_blk (unhide HB) b3
            have f3 := blk_cell (i := 3) hb3 rfl
            clear K2 HE6 c0 c2 c3 HB b3 hb3
            cases pb
            · have HX := unhide HQ0 (unhide HOB2)
              clear HOB2 HQ1 HQ0
              go_wp2_with fail
              go_roundw
              case rel => exact ⟨j + 1, by go_num, by omega, HE7, HX⟩
              case measure => simp only [intOf]; omega
            · obtain rfl := unhide HQ1 (unhide HOB2)
              have B := (unhide HE7).toB
              clear HOB2 HQ1 HQ0 HE7
              go_wp2_with fail
              go_ret2
              exact ⟨rfl, B⟩
        · obtain rfl : j = nq := by omega
          have hR : R = none := by
            have := unhide HO
            rw [(unhide HN).2.1, List.take_length] at this
            rw [unhide HRR, this]
          subst hR
          have z2 : decide ((j : Int) < (j : Int)) = false := by simp
          have B := (unhide HR).toB
          clear HR HO HRR hjlt hjle
          go_wp2_with fail
          go_ret2
          exact ⟨rfl, B⟩
end Go.Proofs.YtpcpcgagiapinaaGreatDoor.Tn.Pa

/- The contract of path.together. -/
namespace Go.Proofs.YtpcpcgagiapinaaGreatDoor.Tn.Pa
open Go.RowKit Go.Maps
def tgB (L : List Tm) (T : List Nd) (p : Int × Int) : Bool := decide (0 ≤ p.1) && decide (p.1 < (T.length : Int)) && isP L (pubAt T p.1) p.2
def tog1 (L : List Tm) (T : List Nd) (m : Mp) (p : Int × Int) : Mp := if tgB L T p = true then mput m p.1 p.2 else m
def togB (L : List Tm) (T : List Nd) (ks : List (Int × Int)) : Mp := ks.foldl (tog1 L T) []
def togP (m : Mp) (nw : List (Int × Int)) : Mp := nw.foldl (fun m p => mput m p.1 p.2) m
def togR (m : Mp) : List (Int × Int) := (mkeys m).map fun x => (x, mgtV m x)
theorem togB_snoc (L : List Tm) (T : List Nd) (ks : List (Int × Int)) (p : Int × Int) : togB L T (ks ++ [p]) = tog1 L T (togB L T ks) p := by simp [togB]
theorem togP_snoc (m : Mp) (ks : List (Int × Int)) (p : Int × Int) : togP m (ks ++ [p]) = mput (togP m ks) p.1 p.2 := by simp [togP]
def mok (n : Nat) (m : Mp) : Prop := kyb m ∧ Kd m ∧ m.length ≤ n
theorem mok.put {n : Nat} {m : Mp} (h : mok n m) {k v : Int} (hk : i64b k ∧ i64b v) : mok (n + 1) (mput m k v) := ⟨mput_b h.1 hk, h.2.1.put _ _, by have := mput_le h.2.1 k v; have := h.2.2; omega⟩
theorem mok.mono {n n' : Nat} {m : Mp} (h : mok n m) (hn : n ≤ n') : mok n' m := ⟨h.1, h.2.1, Nat.le_trans h.2.2 hn⟩
theorem togB_ok0 (L : List Tm) (T : List Nd) (ks : List (Int × Int)) (h : kyb ks) : ∀ n m, mok n m → mok (n + ks.length) (ks.foldl (tog1 L T) m) := by
  induction ks with
  | nil => intro n m hm; exact hm
  | cons p ks ih =>
    intro n m hm
    rw [List.foldl_cons, List.length_cons]
    have h3 : mok (n + 1) (tog1 L T m p) := by
      unfold tog1
      split
      · exact hm.put (h p (by simp))
      · exact hm.mono (by omega)
    exact (ih (fun q hq => h q (List.mem_cons_of_mem _ hq)) _ _ h3).mono (by omega)
theorem togB_ok {L : List Tm} {T : List Nd} {ks : List (Int × Int)} (h : kyb ks) : mok ks.length (togB L T ks) := (togB_ok0 L T ks h 0 [] ⟨by simp [kyb], Kd.nil, Nat.le_refl _⟩).mono (by omega)
theorem togP_ok (ks : List (Int × Int)) (h : kyb ks) : ∀ n m, mok n m → mok (n + ks.length) (togP m ks) := by
  induction ks with
  | nil => intro n m hm; exact hm
  | cons p ks ih =>
    intro n m hm
    have := ih (fun q hq => h q (List.mem_cons_of_mem _ hq)) _ _ (hm.put (h p (by simp)))
    rw [List.length_cons]
    exact this.mono (by omega)
theorem mkeys_b {m : Mp} (h : kyb m) {x : Int} (hx : x ∈ mkeys m) : i64b x := by
  unfold mkeys at hx
  rw [(List.mergeSort_perm _ _).mem_iff, List.mem_map] at hx
  obtain ⟨p, hp, rfl⟩ := hx
  exact (h p hp).1
theorem kyb_take {ks : List (Int × Int)} (h : kyb ks) (i : Nat) : kyb (ks.take i) := fun q hq => h q (List.mem_of_mem_take hq)
theorem EF.nil (w : World) : EF [] w w [] := ⟨Fr.refl _ _, by simp, by simp, by simp⟩
theorem EF.drewN {F : List Nat} {w W : World} {rs : List Res} (h : EF F w W rs) (n : Nat) : EF F w (W.drewN n) rs := h.new (below_drewN (Below.refl _ _) n)
set_option maxRecDepth 100000 in
set_option maxHeartbeats 4000000 in
theorem together_any {b : Nat} {sv : Value} {mb : Nat} {L : List Tm} {w : World} (h : St w b sv mb L) {g o N c : Nat} {T : List Nd} (hN : N = T.length) (hc : ∀ V, Below w.heap.size w V → ∀ y, y < N → V.cell? ⟨g, o + y * 4, none⟩ = some (.int .i64 (ndAt T y).pub)) {kv nv : Value} {ks nw : List (Int × Int)} (hk : Kfix (fun W => Below w.heap.size w W) kv ks) (hn : Kfix (fun W => Below w.heap.size w W) nv nw) (hkb : kyb ks) (hnb : kyb nw) (hkl : ks.length ≤ 1000000) (hnl : nw.length ≤ 1000000) (h15 : N ≤ 15) :
    Calls Tryz.prog 74 #[.pointer (some ⟨b, 0, none⟩), .agg #[.slice (some ⟨g, o, none⟩) N c], kv, nv] w fun e w' => ∃ rv, e = .returned rv ∧ EF [] w w' [resW 71 2 rv (togP (togB L T ks) nw).length (kysC (togR (togP (togB L T ks) nw)))] := by
  obtain ⟨i0, hi, hz0, hz1, hz2⟩ := info_parts infoKey
  obtain ⟨ka, kc, rfl, hka⟩ := hk
  obtain ⟨na, nc, rfl, hna⟩ := hn
  obtain ⟨nk, hnk⟩ : ∃ nk, nk = ks.length := ⟨_, rfl⟩
  obtain ⟨nn, hnn⟩ : ∃ nn, nn = nw.length := ⟨_, rfl⟩
  rw [← hnk] at hka hkl ⊢
  rw [← hnn] at hna hnl ⊢
  obtain ⟨M, hM⟩ : ∃ M, M = togP (togB L T ks) nw := ⟨_, rfl⟩
  rw [← hM]
  have HM := hide hM
  have hmok : mok (nk + nn) M := by rw [hM, hnk, hnn]; exact togP_ok nw hnb _ _ (togB_ok hkb)
  have HMO := hide hmok
  have hmm := @run_makeMap Tryz.prog
  obtain ⟨tb, htb⟩ : ∃ tb, tb = w.heap.size := ⟨_, rfl⟩
  obtain ⟨w0, hw0⟩ : ∃ w0, w0 = w.alloc (.cells #[.slice (some ⟨g, o, none⟩) N c] 44) := ⟨_, rfl⟩
  obtain ⟨mk, hmk⟩ : ∃ mk, mk = w0.heap.size := ⟨_, rfl⟩
  have E0 : EF [] w (w0.alloc (.map #[] 0)) [resM mk (togB L T (ks.take 0)), resC tb #[.slice (some ⟨g, o, none⟩) N c] 44] := by
    rw [hmk, hw0, htb]; exact ((EF.nil w).newC #[.slice (some ⟨g, o, none⟩) N c] 44).newM
  have HE0 := hide E0
  have HKA := hide hka
  have HNA := hide hna
  have HN := hide (And.intro hnk (And.intro hnn (And.intro hkb (And.intro hnb (And.intro hkl hnl)))))
  have HS := hide h
  have HC : Hid (∀ V, EF [] w V [resM mk (togB L T (ks.take 0)), resC tb #[.slice (some ⟨g, o, none⟩) N c] 44] → True) := fun _ _ => trivial
  have HT := hide (And.intro hN hc)
  have q0 : (nk : Int) ≤ 1000000 := by omega
  have q1 : (nn : Int) ≤ 1000000 := by omega
  have q2 : (N : Int) ≤ 15 := by omega
  have HMK := hide (And.intro hw0 (And.intro hmk htb))
  clear h hka hna hnk hnn hkb hnb hkl hnl E0 hmk hw0 htb hM hmok hN hc HC h15
  go_enter Tryz.func74, Tryz.ntmps74
  go_upto_region 1 with fail
  rw [← (unhide HMK).1, ← (unhide HMK).2.2]
  go_wp2_with fail
  rw [← (unhide HMK).2.1]
  clear hmm
  go_loopw [20] (fun iv wr => ∃ i : Nat, iv = .int .i64 (i : Int) ∧ i ≤ nk ∧ Hid (EF [] w wr [resM mk (togB L T (ks.take i)), resC tb #[.slice (some ⟨g, o, none⟩) N c] 44])) (fun iv _ => (nk - intOf iv).toNat)
  case atStart => exact ⟨0, rfl, by omega, HE0⟩
  case round =>
    clear HE0 HMK
    obtain ⟨i, rfl, hile, HR⟩ := hrel
    by_cases hlt : i < nk
    · obtain ⟨p, hp⟩ : ∃ p, ks[i]? = some p := ⟨_, List.getElem?_eq_getElem (by have := (unhide HN).1; omega)⟩
      obtain ⟨kg, ko, hga, hgc⟩ := unhide HKA (by omega)
      subst hga
      obtain ⟨d1, d2⟩ := hgc wr (unhide HR).toB i p hp
      have hb := (unhide HN).2.2.1 p (List.mem_of_getElem? hp)
      have hf1 : togB L T (ks.take (i + 1)) = tog1 L T (togB L T (ks.take i)) p := by rw [List.take_add_one, hp, ← togB_snoc]; rfl
      have hfl := (togB_ok (L := L) (T := T) (ks := ks.take i) (kyb_take (unhide HN).2.2.1 i)).2.2
      rw [List.length_take] at hfl
      obtain ⟨m, hm⟩ : ∃ m, m = togB L T (ks.take i) := ⟨_, rfl⟩
      rw [← hm] at HR hf1 hfl
      obtain ⟨p1, p2⟩ := p
      obtain ⟨V, hV⟩ : ∃ V, V = wr.alloc (.cells #[.int .i64 p1, .int .i64 p2] 71) := ⟨_, rfl⟩
      have E1 := (unhide HR).newC #[.int .i64 p1, .int .i64 p2] 71
      rw [← hV] at E1
      obtain ⟨kb, hkb⟩ : ∃ kb, kb = wr.heap.size := ⟨_, rfl⟩
      rw [← hkb] at E1
      have HY : Hid (∀ X, EF [] w X [resC kb #[.int .i64 p1, .int .i64 p2] 71, resM mk m, resC tb #[.slice (some ⟨g, o, none⟩) N c] 44] → X.cell? ⟨kb, 0, none⟩ = some (.int .i64 p1) ∧ X.cell? ⟨kb, 1, none⟩ = some (.int .i64 p2) ∧ X.cell? ⟨tb, 0, none⟩ = some (.slice (some ⟨g, o, none⟩) N c)) := fun X hX => by
        have h1 : X.heap[kb]? = some (.cells #[.int .i64 p1, .int .i64 p2] 71 (0, 0)) := hX.hd
        have h2 : X.heap[tb]? = some (.cells #[.slice (some ⟨g, o, none⟩) N c] 44 (0, 0)) := hX.nth 2 rfl
        exact ⟨blk_cell (i := 0) h1 rfl, blk_cell (i := 1) h1 rfl, blk_cell (i := 0) h2 rfl⟩
      have HPut : Hid (∀ X, EF [] w X [resC kb #[.int .i64 p1, .int .i64 p2] 71, resM mk m, resC tb #[.slice (some ⟨g, o, none⟩) N c] 44] → ∃ W4, (Instr.mapUpdate 177 (.map (some mk)) (.int .i64 p1) (.int .i64 p2)).run Tryz.prog X = .ok () W4 ∧ EF [] w W4 [resM mk (mput m p1 p2), resC tb #[.slice (some ⟨g, o, none⟩) N c] 44]) := fun X hX => by
        have hM : IMap X mk m := hX.nth 1 rfl
        obtain ⟨W4, r4, n4, g4⟩ := hM.store (by omega) p1 p2 hb.1
        exact ⟨W4, r4, ((hX.up 1 rfl).put n4 g4).sub (by simp)⟩
      have HSk : Hid (∀ X, EF [] w X [resC kb #[.int .i64 p1, .int .i64 p2] 71, resM mk m, resC tb #[.slice (some ⟨g, o, none⟩) N c] 44] → EF [] w X [resM mk m, resC tb #[.slice (some ⟨g, o, none⟩) N c] 44]) := fun X hX => hX.drop
      have KP : Hid (∀ X, EF [] w X [resC kb #[.int .i64 p1, .int .i64 p2] 71, resM mk m, resC tb #[.slice (some ⟨g, o, none⟩) N c] 44] → Calls Tryz.prog 121 #[.pointer (some ⟨b, 0, none⟩), .int .i64 (pubAt T p1), .int .i64 p2] X fun e X' => e = .returned (.bool (isP L (pubAt T p1) p2)) ∧ Below X.heap.size X X') := fun X hX => isPub_any ((unhide HS).bw hX.toB) _ _ hb.2
      have HF : Hid (togB L T (ks.take (i + 1)) = if tgB L T (p1, p2) = true then mput m p1 p2 else m) := hf1
      have HTG : Hid (tgB L T (p1, p2) = (decide (0 ≤ p1) && decide (p1 < (N : Int)) && isP L (pubAt T p1) p2)) := by unfold Hid; rw [(unhide HT).1]; rfl
      have HPC : Hid (∀ X, Below w.heap.size w X → 0 ≤ p1 → p1 < (N : Int) → X.cell? ⟨g, o + p1.toNat * 4, none⟩ = some (.int .i64 (pubAt T p1))) := fun X hX h1 h2 => (unhide HT).2 X hX p1.toNat (by omega)
      have z1 : (i : Int) < (nk : Int) := by omega
      have HW := hide (And.intro hV hkb)
      have HE1 := hide E1
      obtain ⟨y0, y1, y2⟩ := unhide HY V E1
      simp only at d1 d2
      clear hm hf1 hfl E1 hgc HR hV hkb hb hp HM HMO HS HKA HNA HN HT
      generalize pubAt T p1 = P at *
      generalize isP L P p2 = pb at *
      generalize tgB L T (p1, p2) = tg at *
      go_upto_region 5 with fail
      rw [← (unhide HW).1, ← (unhide HW).2]
      clear HW d1 d2
      by_cases r0 : 0 ≤ p1
      case neg =>
        have g1 : decide ((0 : Int) ≤ p1) = false := decide_eq_false r0
        have g2 : decide (p1 ≥ 0) = false := decide_eq_false r0
        have HX : Hid (∀ n, EF [] w (V.drewN n) [resM mk (togB L T (ks.take (i + 1))), resC tb #[.slice (some ⟨g, o, none⟩) N c] 44]) := fun n => by
          have e := unhide HF
          rw [unhide HTG, g1] at e
          simp only [Bool.false_and, Bool.false_eq_true, if_false] at e
          rw [e]
          exact unhide HSk _ ((unhide HE1).drewN n)
        clear HF HTG HPC KP HSk HPut HY HE1
        go_quiet (fail)
        go_wp2_with fail
        go_roundw
        case rel => exact ⟨i + 1, by go_num, by omega, unhide HX _⟩
        case measure => simp only [intOf]; omega
      by_cases r1 : p1 < (N : Int)
      case neg =>
        have g1 : decide (p1 < (N : Int)) = false := decide_eq_false r1
        have HX : Hid (∀ n, EF [] w (V.drewN n) [resM mk (togB L T (ks.take (i + 1))), resC tb #[.slice (some ⟨g, o, none⟩) N c] 44]) := fun n => by
          have e := unhide HF
          rw [unhide HTG, g1] at e
          simp only [Bool.and_false, Bool.false_and, Bool.false_eq_true, if_false] at e
          rw [e]
          exact unhide HSk _ ((unhide HE1).drewN n)
        clear HF HTG HPC KP HSk HPut HY HE1
        go_quiet (fail)
        go_wp2_with fail
        go_roundw
        case rel => exact ⟨i + 1, by go_num, by omega, unhide HX _⟩
        case measure => simp only [intOf]; omega
      obtain ⟨x, rfl⟩ : ∃ x : Nat, p1 = (x : Int) := ⟨p1.toNat, by omega⟩
      have HPC2 : Hid (∀ X, EF [] w X [resC kb #[.int .i64 (x : Int), .int .i64 p2] 71, resM mk m, resC tb #[.slice (some ⟨g, o, none⟩) N c] 44] → X.cell? ⟨kb, 0, none⟩ = some (.int .i64 (x : Int)) ∧ X.cell? ⟨kb, 1, none⟩ = some (.int .i64 p2) ∧ X.cell? ⟨tb, 0, none⟩ = some (.slice (some ⟨g, o, none⟩) N c) ∧ X.cell? ⟨g, o + x * 4, none⟩ = some (.int .i64 P)) := fun X hX => by
        have := unhide HPC X hX.toB r0 r1
        simp only [Int.toNat_natCast] at this
        exact ⟨(unhide HY X hX).1, (unhide HY X hX).2.1, (unhide HY X hX).2.2, this⟩
      have HTG2 : Hid (tg = pb) := by unfold Hid; rw [unhide HTG, decide_eq_true r0, decide_eq_true r1]; rfl
      have HD := hide ((unhide HE1).new (bw_drewA V))
      have S0 := unhide HPC2 V (unhide HE1)
      have S1 := unhide HPC2 V.drew (unhide HD)
      clear HTG HPC HY y0 y1 y2
      go_region_held3 (fun w' : World => w'.cell? ⟨kb, 0, none⟩ = some (.int .i64 (x : Int)) ∧ w'.cell? ⟨kb, 1, none⟩ = some (.int .i64 p2) ∧ w'.cell? ⟨tb, 0, none⟩ = some (.slice (some ⟨g, o, none⟩) N c) ∧ w'.cell? ⟨g, o + x * 4, none⟩ = some (.int .i64 P)) (first | with_reducible exact S0 | with_reducible exact S1 | with_reducible exact S2 | go_keep) (first
        | (go_at_call 121; refine (unhide KP _ (unhide HD)).mono ?_; rintro e_ z1 ⟨rfl, b1⟩; have E1 := (unhide HD).new b1; have S2 := unhide HPC2 z1 E1)
        | fail)
      all_goals
        obtain ⟨y0, y1, -, -⟩ := unhide HPC2 z1 E1
        have HE2 := hide E1
        clear S0 S1 S2 b1 E1 HD KP HE1 HPC2
        cases pb
        · have HX : Hid (EF [] w z1 [resM mk (togB L T (ks.take (i + 1))), resC tb #[.slice (some ⟨g, o, none⟩) N c] 44]) := by
            have e := unhide HF
            rw [unhide HTG2] at e
            simp only [Bool.false_eq_true, if_false] at e
            unfold Hid
            rw [e]
            exact unhide HSk _ (unhide HE2)
          clear HF HTG2 HSk HPut HE2
          go_wp2_with fail
          go_roundw
          case rel => exact ⟨i + 1, by go_num, by omega, HX⟩
          case measure => simp only [intOf]; omega
        · obtain ⟨W4, r4, E4⟩ := unhide HPut z1 (unhide HE2)
          have HX : Hid (EF [] w W4 [resM mk (togB L T (ks.take (i + 1))), resC tb #[.slice (some ⟨g, o, none⟩) N c] 44]) := by
            have e := unhide HF
            rw [unhide HTG2] at e
            simp only [if_true] at e
            unfold Hid
            rw [e]
            exact E4
          clear HF HTG2 HSk HPut HE2 E4
          go_wp2_with fail
          go_roundw
          case rel => exact ⟨i + 1, by go_num, by omega, HX⟩
          case measure => simp only [intOf]; omega
    · obtain rfl : i = nk := by omega
      obtain ⟨m0, hm0⟩ : ∃ m0, m0 = togB L T ks := ⟨_, rfl⟩
      have HE : Hid (EF [] w wr [resM mk (togP m0 (nw.take 0))]) := by
        have := unhide HR
        rw [(unhide HN).1, List.take_length, ← hm0] at this
        exact this.sub (by simp [togP])
      have HM0 : Hid (mok i m0) := by unfold Hid; rw [hm0, (unhide HN).1]; exact togB_ok (unhide HN).2.2.1
      rw [← hm0] at HM
      have z1 : decide ((i : Int) < (i : Int)) = false := by simp
      clear HR hm0 hlt hile HKA HT HS
      go_wp2_with fail
      go_loopw [56] (fun iv wr => ∃ j : Nat, iv = .int .i64 (j : Int) ∧ j ≤ nn ∧ Hid (EF [] w wr [resM mk (togP m0 (nw.take j))])) (fun iv _ => (nn - intOf iv).toNat)
      case atStart => exact ⟨0, rfl, by omega, HE⟩
      case round =>
        clear HE
        obtain ⟨j, rfl, hjle, HR⟩ := hrel
        by_cases hjlt : j < nn
        · obtain ⟨p, hp⟩ : ∃ p, nw[j]? = some p := ⟨_, List.getElem?_eq_getElem (by have := (unhide HN).2.1; omega)⟩
          obtain ⟨kg, ko, hga, hgc⟩ := unhide HNA (by omega)
          subst hga
          obtain ⟨d1, d2⟩ := hgc wr (unhide HR).toB j p hp
          have hb := (unhide HN).2.2.2.1 p (List.mem_of_getElem? hp)
          have hf1 : togP m0 (nw.take (j + 1)) = mput (togP m0 (nw.take j)) p.1 p.2 := by rw [List.take_add_one, hp, ← togP_snoc]; rfl
          have hfl := (togP_ok (nw.take j) (kyb_take (unhide HN).2.2.2.1 j) _ _ (unhide HM0)).2.2
          rw [List.length_take] at hfl
          obtain ⟨m, hm⟩ : ∃ m, m = togP m0 (nw.take j) := ⟨_, rfl⟩
          rw [← hm] at HR hf1 hfl
          obtain ⟨p1, p2⟩ := p
          obtain ⟨V, hV⟩ : ∃ V, V = wr.alloc (.cells #[.int .i64 p1, .int .i64 p2] 71) := ⟨_, rfl⟩
          have E1 := (unhide HR).newC #[.int .i64 p1, .int .i64 p2] 71
          rw [← hV] at E1
          obtain ⟨kb, hkb⟩ : ∃ kb, kb = wr.heap.size := ⟨_, rfl⟩
          rw [← hkb] at E1
          have y0 := blk_cell (i := 0) (show V.heap[kb]? = some (.cells #[.int .i64 p1, .int .i64 p2] 71 (0, 0)) from E1.hd) rfl
          have y1 := blk_cell (i := 1) (show V.heap[kb]? = some (.cells #[.int .i64 p1, .int .i64 p2] 71 (0, 0)) from E1.hd) rfl
          obtain ⟨W4, r4, n4, g4⟩ := (show IMap V mk m from E1.nth 1 rfl).store (by omega) p1 p2 hb.1
          have HX : Hid (EF [] w W4 [resM mk (togP m0 (nw.take (j + 1)))]) := by
            unfold Hid
            rw [hf1]
            exact ((E1.up 1 rfl).put n4 g4).sub (by simp)
          have z1 : (j : Int) < (nn : Int) := by omega
          have HW := hide (And.intro hV hkb)
          simp only at d1 d2
          clear hm hf1 hfl E1 hgc HR hV hkb hb hp n4 g4
          go_upto_region 11 with fail
          rw [← (unhide HW).1, ← (unhide HW).2]
          clear HW d1 d2
          go_wp2_with fail
          go_roundw
          case rel => exact ⟨j + 1, by go_num, by omega, HX⟩
          case measure => simp only [intOf]; omega
        · obtain rfl : j = nn := by omega
          have HE : Hid (EF [] w wr [resM mk M]) := by
            have := unhide HR
            rw [(unhide HN).2.1, List.take_length, ← unhide HM] at this
            exact this
          have z2 : decide ((j : Int) < (j : Int)) = false := by simp
          have HL : Hid (M.length ≤ 2000000) := by have := (unhide HMO).2.2; have := (unhide HN).2.2.2.2; unfold Hid; omega
          have KS := hide (sorted_any (show IMap wr mk M from (unhide HE).hd) (by have := unhide HL; omega))
          have KK := hide (keysI (some mk) wr)
          clear HR hjlt hjle HN HNA HM HM0
          go_wp2_with fail
          refine (unhide KK).mono ?_
          rintro e w1 ⟨rfl, rfl⟩
          clear KK
          go_wp2_with fail
          refine (unhide KS).mono ?_
          rintro e w2 ⟨rv, rfl, hrow, hb2, hnew⟩
          clear KS
          obtain ⟨ra, rc, rfl⟩ := own_slice hrow
          obtain ⟨n, hn⟩ : ∃ n, n = M.length := ⟨_, rfl⟩
          rw [← hn] at hrow HL hnew ⊢
          have E2 := (unhide HE).add (resW 3 1 (.slice ra n rc) n ((mkeys M).map encZ)) hb2 hrow (by intro x hx; simp [resW] at hx; exact hnew x hx)
          have HE2 := hide (E2.nilW 71 2)
          clear HE hrow hb2 hnew E2
          have hkl : (mkeys M).length = n := by rw [mkeys_len, hn]
          have HKL := hide (And.intro hkl hn)
          have q5 : (n : Int) ≤ 2000000 := by have := unhide HL; omega
          clear hkl hn
          go_wp2_with fail
          go_loopw [14, 70] (fun lv iv wr => ∃ k : Nat, iv = .int .i64 (k : Int) ∧ k ≤ n ∧ Hid (EF [] w wr [resW 71 2 lv k (kysC (((mkeys M).take k).map fun x => (x, mgtV M x))), resW 3 1 (.slice ra n rc) n ((mkeys M).map encZ), resM mk M])) (fun _ iv _ => (n - intOf iv).toNat)
          case atStart => exact ⟨0, rfl, by omega, HE2⟩
          case round =>
            clear HE2
            obtain ⟨k, rfl, hkle, HR⟩ := hrel
            by_cases hklt : k < n
            · obtain ⟨x, hx⟩ : ∃ x, (mkeys M)[k]? = some x := ⟨_, List.getElem?_eq_getElem (by have := (unhide HKL).1; omega)⟩
              have hrw : wr.ownsRow 0 3 1 (.slice ra n rc) n ((mkeys M).map encZ) := (unhide HR).nth 1 rfl
              obtain ⟨rg, rc', hre, -, -, -⟩ := own_open hrw (by omega)
              simp only [Value.slice.injEq] at hre
              obtain ⟨rfl, -, rfl⟩ := hre
              have d1 : wr.cell? ⟨rg, k, none⟩ = some (.int .i64 x) := own_cell hrw rfl (by rw [List.getElem?_map, hx]; rfl)
              have lk := (show IMap wr mk M from (unhide HR).nth 2 rfl).look (mkeys_b (unhide HMO).1 (List.mem_of_getElem? hx))
              have hnx : kysC (((mkeys M).take (k + 1)).map fun x => (x, mgtV M x)) = kysC (((mkeys M).take k).map fun x => (x, mgtV M x)) ++ [.int .i64 x, .int .i64 (mgtV M x)] := by
                rw [List.take_add_one, hx, List.map_append]
                exact kysC_snoc _ (x, mgtV M x)
              have HNX := hide hnx
              obtain ⟨y, hy⟩ : ∃ y, y = mgtV M x := ⟨_, rfl⟩
              rw [← hy] at lk HNX
              obtain ⟨xs, hxs⟩ : ∃ xs, xs = kysC (((mkeys M).take k).map fun x => (x, mgtV M x)) := ⟨_, rfl⟩
              rw [← hxs] at HR HNX
              obtain ⟨xs1, hxs1⟩ : ∃ xs1, xs1 = kysC (((mkeys M).take (k + 1)).map fun x => (x, mgtV M x)) := ⟨_, rfl⟩
              rw [← hxs1] at HNX
              have hrow : wr.ownsRow 0 71 2 u14 k xs := (unhide HR).hd
              have HXS := hide hxs1
              have z1 : (k : Int) < (n : Int) := by omega
              have hm1 : k + 1 ≤ maxLen := by have := unhide HL; unfold maxLen; omega
              have hm2 : (k + 1) * 16 ≤ 140737488355328 := by have := unhide HL; omega
              have HMX := hide (And.intro hm1 hm2)
              clear hrw hx hnx hy hxs hxs1 hm1 hm2
              go_upto_region 17 with fail
              go_wp2_with (at_builtin; refine wpList_append_own_at _ rfl (.tmp 74) (.tmp 80) 47 rfl 0 71 i0 (.agg #[.int .i64 0, .int .i64 0]) 2 16 Tryz.underlying47 hi hz0 hz1 hz2 rfl (by decide) u14 k xs rfl (World.ownsRow.alloc hrow _) ⟨wr.heap.size, 0, none⟩ 1 1 [_, _] rfl rfl (cells_new2 _ _ _ _) (one2 _ _) (unhide HMX).1 (unhide HMX).2 (Nat.zero_le _) ?nx)
              case nx =>
                intro v' w5 hown' hgrow _ hat
                have E5 := (unhide HR).grow hown' hgrow (by simpa using hat)
                have HX : Hid (EF [] w w5 [resW 71 2 v' (k + 1) (kysC (((mkeys M).take (k + 1)).map fun x => (x, mgtV M x))), resW 3 1 (.slice (some ⟨rg, 0, none⟩) n rc) n ((mkeys M).map encZ), resM mk M]) := by
                  unfold Hid
                  rw [← unhide HXS, unhide HNX]
                  exact E5
                clear hown' hgrow hat E5 HR hrow HXS HNX HMX lk d1
                go_wp2_with fail
                go_roundw
                case rel => exact ⟨k + 1, by go_num, by omega, HX⟩
                case measure => simp only [intOf]; omega
            · obtain rfl : k = n := by omega
              have HF : Hid (EF [] w wr [resW 71 2 u14 M.length (kysC (togR M))]) := by
                have := unhide HR
                rw [← (unhide HKL).1, List.take_length] at this
                unfold Hid togR
                rw [← (unhide HKL).2, ← (unhide HKL).1]
                exact this.sub (by simp)
              have z2 : decide ((k : Int) < (k : Int)) = false := by simp
              clear HR hklt hkle HKL HMO HL
              go_wp2_with fail
              go_ret
              exact ⟨_, rfl, unhide HF⟩
end Go.Proofs.YtpcpcgagiapinaaGreatDoor.Tn.Pa

/- The contract of path.Open, where it opens. -/
namespace Go.Proofs.YtpcpcgagiapinaaGreatDoor.Tn.Pa
open Go.RowKit Go.Maps
theorem kfix_own {W : World} {v : Value} {n : Nat} {l : List (Int × Int)} (h : W.ownsRow 0 71 2 v n (kysC l)) (hn : n = l.length) : Kfix (fun V => Below W.heap.size W V) v l := by
  subst hn
  obtain ⟨a, c, rfl⟩ := own_slice h
  refine ⟨a, c, rfl, fun h0 => ?_⟩
  obtain ⟨g, cap, e, -, -, -⟩ := own_open h h0
  simp only [Value.slice.injEq] at e
  obtain ⟨rfl, -, rfl⟩ := e
  refine ⟨g, 0, rfl, fun V hV i p hp => ?_⟩
  have h1 := own_keep (w' := V) h (fun k hk => hV.block k (World.ownsRow.lt h k hk).2)
  obtain ⟨e1, e2⟩ := kysC_get hp
  rw [Nat.zero_add]
  exact ⟨own_cell h1 rfl e1, own_cell h1 rfl e2⟩
theorem sfix_own {W : World} {v : Value} {n : Nat} {l : List (Int × Int × Int)} (h : W.ownsRow 0 76 3 v n (slsC l)) (hn : n = l.length) : Sfix (fun V => ∀ k, v.ownBlock = some k → V.heap[k]? = W.heap[k]?) v l := by
  subst hn
  obtain ⟨a, c, rfl⟩ := own_slice h
  refine ⟨a, c, rfl, fun h0 => ?_⟩
  obtain ⟨g, cap, e, -, -, -⟩ := own_open h h0
  simp only [Value.slice.injEq] at e
  obtain ⟨rfl, -, rfl⟩ := e
  refine ⟨g, 0, rfl, fun V hV i p hp => ?_⟩
  have h1 := own_keep (w' := V) h hV
  obtain ⟨e1, e2, e3⟩ := slsC_get hp
  rw [Nat.zero_add]
  exact ⟨own_cell h1 rfl e1, own_cell h1 rfl e2, own_cell h1 rfl e3⟩
theorem srt_len (l : List (Int × Int)) : (srt l).length = l.length := (srt_perm l).length_eq
def opM (L : List Tm) (T : List Nd) (ks : List (Int × Int)) (st : AbSt) : Mp := togP (togB (mkL L ⟨4, 1, st.2, 0⟩) T ks) (srt st.1)
set_option maxRecDepth 100000 in
set_option maxHeartbeats 8000000 in
theorem open_ok {b : Nat} {sv : Value} {mb : Nat} {L : List Tm} {w : World} (h : St w b sv mb L) {v : Value} {T : List Nd} (hT : Tfix (fun W => Fr (foot b sv mb) w W) v T) (hTb : ∀ W, Fr (foot b sv mb) w W → Tab W) (hh : heldB L T = true) (i j : Nat) (hi : hasL T (i : Int) = true) (hj : hasL T (j : Int) = true) (hij : (i : Int) ≠ (j : Int)) (x : Nat) (hx : jntE T (j : Int) (i : Int) = (x : Int)) (hxl : x < T.length)
    {kv qv : Value} {ks : List (Int × Int)} {qs : List (Int × Int × Int)} (hk : Kfix (fun W => Fr (foot b sv mb) w W) kv ks) (hq : Sfix (fun W => Fr (foot b sv mb) w W) qv qs) (hkb : kyb ks) (hqb : ∀ q ∈ qs, i64b q.2.1) (hkl : ks.length ≤ 1000000) (hql : qs.length ≤ 10000000)
    (ins : Int) (hop : opR L (x : Int) (fstM ks) qs = some ins) (hin : thr L.length ins = true) (st : AbSt) (hab : abR L T (x : Int) ins = some st) (hsb : kyb (srt st.1)) (hsl : st.1.length ≤ 100) (hl : L.length + 10 ≤ 1048576) :
    Calls Tryz.prog 24 #[.pointer (some ⟨b, 0, none⟩), .agg #[v], .int .i64 (i : Int), .int .i64 (j : Int), kv, qv] w fun e w' => ∃ rv sv' rs, e = .returned (.tuple #[rv, .int .i64 (mkN L ⟨4, 1, st.2, 0⟩ : Nat), .int .i64 0]) ∧ EF (foot b sv mb) w w' (resS b sv' mb (mkL L ⟨4, 1, st.2, 0⟩) :: resW 71 2 rv (opM L T ks st).length (kysC (togR (opM L T ks st))) :: rs) := by
  have hm := held_may hh
  have ok := mayB_okn hm (by omega)
  have h15 := (mayB_15 hm).1
  have hun : ∀ n ∈ T, n.un.length ≤ 140737488355328 := fun n hn => by
    obtain ⟨j, hj⟩ := List.mem_iff_getElem?.1 hn
    have hlt := (List.getElem?_eq_some_iff.1 hj).1
    have e1 : ndAt T j = n := by have := ndAt_of hlt; rw [hj] at this; simpa using this.symm
    have := (ok.sm j hlt).1
    rw [e1] at this
    omega
  have HTD : Hid (∀ W, Fr (foot b sv mb) w W → Trd W v T ∧ Tab W) := fun W hW => ⟨trd_of_fix hT hW (by omega) hun, hTb W hW⟩
  have hT0 := hT
  obtain ⟨va, c, rfl⟩ := hT.slice
  obtain ⟨g, o, us, rfl, hcell⟩ : ∃ g o, ∃ us : Nat → Value, va = some ⟨g, o, none⟩ ∧ ∀ W, Fr (foot b sv mb) w W → ∀ i, i < T.length → NdC W g (o + i * 4) (ndAt T i) (us i) ∧ Nums W (us i) (ndAt T i).un := by
    rcases hT with ⟨rfl, _⟩ | ⟨g, o, c', us, e, hh⟩
    · simp at hxl
    · simp only [Value.slice.injEq] at e
      exact ⟨g, o, us, e.1, hh⟩
  obtain ⟨N, hN⟩ : ∃ N, N = T.length := ⟨_, rfl⟩
  obtain ⟨L', hL'⟩ : ∃ L', L' = mkL L ⟨4, 1, st.2, 0⟩ := ⟨_, rfl⟩
  obtain ⟨cm, hcm⟩ : ∃ cm, cm = mkN L ⟨4, 1, st.2, 0⟩ := ⟨_, rfl⟩
  obtain ⟨tb, htb⟩ : ∃ tb, tb = w.heap.size := ⟨_, rfl⟩
  obtain ⟨w0, hw0⟩ : ∃ w0, w0 = w.alloc (.cells #[.slice (some ⟨g, o, none⟩) N c] 44) := ⟨_, rfl⟩
  rw [← hN]
  rw [← hN] at HTD hT0
  have E0 : EF (foot b sv mb) w w0 [resS b sv mb L, resC tb #[.slice (some ⟨g, o, none⟩) N c] 44] := by
    rw [hw0, htb]
    exact ((EF.one w (resS b sv mb L) h).newC #[.slice (some ⟨g, o, none⟩) N c] 44).up 1 rfl
  have hfin : opM L T ks st = togP (togB L' T ks) (srt st.1) := by rw [hL']; rfl
  rw [hfin]
  have HC : Hid (∀ W, EF (foot b sv mb) w W [resS b sv mb L, resC tb #[.slice (some ⟨g, o, none⟩) N c] 44] → W.cell? ⟨tb, 0, none⟩ = some (.slice (some ⟨g, o, none⟩) N c)) := fun W hW => blk_cell (i := 0) (show W.heap[tb]? = some (.cells #[.slice (some ⟨g, o, none⟩) N c] 44 (0, 0)) from hW.nth 1 rfl) rfl
  have KM := hide (hmissing_any (show St w0 b sv mb L from E0.hd))
  have KT : Hid (∀ W, EF (foot b sv mb) w W [resS b sv mb L, resC tb #[.slice (some ⟨g, o, none⟩) N c] 44] → Calls Tryz.prog 47 #[.pointer (some ⟨b, 0, none⟩), .agg #[.slice (some ⟨g, o, none⟩) N c]] W fun e w' => e = .returned (.bool true) ∧ Below W.heap.size W w') := fun W hW => by
    obtain ⟨q1, q2⟩ := unhide HTD W hW.fr
    have := htree_any (show St W b sv mb L from hW.hd) _ T q1 q2
    rw [hh] at this
    exact this
  have KI : Hid (∀ W, EF (foot b sv mb) w W [resS b sv mb L, resC tb #[.slice (some ⟨g, o, none⟩) N c] 44] → Calls Tryz.prog 71 #[.agg #[.slice (some ⟨g, o, none⟩) N c], .int .i64 (i : Int)] W fun e w' => e = .returned (.bool true) ∧ Below W.heap.size W w') := fun W hW => by
    obtain ⟨q1, q2⟩ := unhide HTD W hW.fr
    have := hasLeafP_any q1 q2 hm (i : Int)
    rw [hi] at this
    exact this
  have KJ : Hid (∀ W, EF (foot b sv mb) w W [resS b sv mb L, resC tb #[.slice (some ⟨g, o, none⟩) N c] 44] → Calls Tryz.prog 71 #[.agg #[.slice (some ⟨g, o, none⟩) N c], .int .i64 (j : Int)] W fun e w' => e = .returned (.bool true) ∧ Below W.heap.size W w') := fun W hW => by
    obtain ⟨q1, q2⟩ := unhide HTD W hW.fr
    have := hasLeafP_any q1 q2 hm (j : Int)
    rw [hj] at this
    exact this
  have KX : Hid (∀ W, EF (foot b sv mb) w W [resS b sv mb L, resC tb #[.slice (some ⟨g, o, none⟩) N c] 44] → Calls Tryz.prog 72 #[.agg #[.slice (some ⟨g, o, none⟩) N c], .int .i64 (j : Int), .int .i64 (i : Int)] W fun e w' => e = .returned (.int .i64 (x : Int)) ∧ Below W.heap.size W w') := fun W hW => by
    obtain ⟨q1, q2⟩ := unhide HTD W hW.fr
    have := joint_any q1 q2 (j : Int) (i : Int)
    rw [hx] at this
    exact this
  have KO : Hid (∀ W, EF (foot b sv mb) w W [resS b sv mb L, resC tb #[.slice (some ⟨g, o, none⟩) N c] 44] → Calls Tryz.prog 73 #[.pointer (some ⟨b, 0, none⟩), .int .i64 (x : Int), kv, qv] W fun e w' => e = .returned (.tuple #[.int .i64 ins, .bool true]) ∧ Below W.heap.size W w') := fun W hW => by
    have := opened_any (show St W b sv mb L from hW.hd) (hk.mono fun V hV => (hW.new hV).fr) (hq.mono fun V hV => (hW.new hV).fr) hkb hqb hkl hql (x : Int)
    rw [hop] at this
    exact this
  have KA : Hid (∀ W, EF (foot b sv mb) w W [resS b sv mb L, resC tb #[.slice (some ⟨g, o, none⟩) N c] 44] → Calls Tryz.prog 18 #[.pointer (some ⟨b, 0, none⟩), .agg #[.slice (some ⟨g, o, none⟩) N c], .int .i64 (x : Int), .int .i64 ins] W fun e W' => ∃ lv, e = .returned (.tuple #[lv, .int .i64 (cm : Nat), .int .i64 0]) ∧ ∃ sv', EF (foot b sv mb) w W' [resS b sv' mb L', resW 71 2 lv st.1.length (kysC (srt st.1)), resC tb #[.slice (some ⟨g, o, none⟩) N c] 44]) := fun W hW => by
    have := above_ok (show St W b sv mb L from hW.hd) (hT0.mono fun V hV => hW.fr.tr hV) (fun V hV => hTb V (hW.fr.tr hV)) hh x hxl ins hin hl
    rw [hab] at this
    refine this.mono ?_
    rintro e W' ⟨lv, rfl, sv', k⟩
    rw [← hcm, ← hL'] at *
    exact ⟨lv, rfl, sv', hW.join k⟩
  have KG : Hid (∀ W lv sv', EF (foot b sv mb) w W [resS b sv' mb L', resW 71 2 lv st.1.length (kysC (srt st.1)), resC tb #[.slice (some ⟨g, o, none⟩) N c] 44] → Calls Tryz.prog 74 #[.pointer (some ⟨b, 0, none⟩), .agg #[.slice (some ⟨g, o, none⟩) N c], kv, lv] W fun e W' => ∃ rv, e = .returned rv ∧ ∃ rs, EF (foot b sv mb) w W' (resS b sv' mb L' :: resW 71 2 rv (togP (togB L' T ks) (srt st.1)).length (kysC (togR (togP (togB L' T ks) (srt st.1)))) :: rs)) := fun W lv sv' hW => by
    refine (together_any (show St W b sv' mb L' from hW.hd) hN (fun V hV y hy => (hcell V (hW.new hV).fr y (by omega)).1.c0) (hk.mono fun V hV => (hW.new hV).fr) (kfix_own (show W.ownsRow 0 71 2 lv st.1.length (kysC (srt st.1)) from hW.nth 1 rfl) (srt_len _).symm) hkb hsb hkl (by rw [srt_len]; omega) (by omega)).mono ?_
    rintro e W' ⟨rv, rfl, k⟩
    have := hW.add (resW 71 2 rv (togP (togB L' T ks) (srt st.1)).length (kysC (togR (togP (togB L' T ks) (srt st.1))))) k.toB k.hd (fun x hx => (k.low _ (by simp) x hx).resolve_left (by simp))
    exact ⟨rv, rfl, _, this.up 1 rfl⟩
  have HE0 := hide E0
  have HW := hide (And.intro hw0 htb)
  obtain ⟨n1, n2⟩ : ((i : Int) == (j : Int)) = false ∧ decide ((i : Int) = (j : Int)) = false := ⟨by simpa using hij, by simpa using hij⟩
  generalize (togP (togB L' T ks) (srt st.1)).length = rn at *
  generalize kysC (togR (togP (togB L' T ks) (srt st.1))) = rr at *
  rw [← hcm, ← hL']
  have q1 : (x : Int) < 15 := by omega
  clear h hT hT0 hTb hh hi hj hij hx hxl hk hq hkb hqb hkl hql hop hin hab hsb hl hm ok h15 hun HTD hcell hN hL' hcm hw0 htb E0 hfin
  generalize st.1.length = sl at *
  generalize kysC (srt st.1) = sr at *
  go_enter Tryz.func24, Tryz.ntmps24
  go_upto_region 1 with fail
  rw [← (unhide HW).1, ← (unhide HW).2]
  clear HW
  go_wp2_with fail
  refine (unhide KM).mono ?_
  rintro e w1 ⟨rfl, rfl⟩
  have c0 := unhide HC _ (unhide HE0)
  clear KM
  go_wp2_with fail
  refine (unhide KT _ (unhide HE0)).mono ?_
  rintro e w1 ⟨rfl, b1⟩
  have HE1 := hide ((unhide HE0).new b1)
  have c1 := unhide HC _ (unhide HE1)
  clear KT b1 HE0 c0
  go_wp2_with fail
  refine (unhide KI _ (unhide HE1)).mono ?_
  rintro e w2 ⟨rfl, b1⟩
  have HE2 := hide ((unhide HE1).new b1)
  have c2 := unhide HC _ (unhide HE2)
  clear KI b1 HE1 c1
  go_wp2_with fail
  refine (unhide KJ _ (unhide HE2)).mono ?_
  rintro e w3 ⟨rfl, b1⟩
  have HE3 := hide ((unhide HE2).new b1)
  have c3 := unhide HC _ (unhide HE3)
  clear KJ b1 HE2 c2
  go_wp2_with fail
  refine (unhide KX _ (unhide HE3)).mono ?_
  rintro e w4 ⟨rfl, b1⟩
  have HE4 := hide ((unhide HE3).new b1)
  have c4 := unhide HC _ (unhide HE4)
  clear KX b1 HE3 c3
  go_wp2_with fail
  refine (unhide KO _ (unhide HE4)).mono ?_
  rintro e w5 ⟨rfl, b1⟩
  have HE5 := hide ((unhide HE4).new b1)
  have c5 := unhide HC _ (unhide HE5)
  clear KO b1 HE4 c4
  go_wp2_with fail
  refine (unhide KA _ (unhide HE5)).mono ?_
  rintro e w6 ⟨lv, rfl, sv', E6⟩
  have c6 : w6.cell? ⟨tb, 0, none⟩ = some (.slice (some ⟨g, o, none⟩) N c) := blk_cell (i := 0) (show w6.heap[tb]? = some (.cells #[.slice (some ⟨g, o, none⟩) N c] 44 (0, 0)) from E6.nth 2 rfl) rfl
  have K6 := hide (unhide KG _ _ _ E6)
  clear KA HE5 c5 E6 KG
  go_wp2_with fail
  refine (unhide K6).mono ?_
  rintro e w7 ⟨rv, rfl, rs, E7⟩
  have HE7 := hide E7
  clear K6 c6 E7
  go_wp2_with fail
  go_ret3
  exact ⟨rv, sv', rs, rfl, unhide HE7⟩
end Go.Proofs.YtpcpcgagiapinaaGreatDoor.Tn.Pa

/- The contract of Map.Keys, at equal rows. -/
namespace Go.Proofs.YtpcpcgagiapinaaGreatDoor.Tn.Pa
open Go.RowKit Go.Maps
set_option maxRecDepth 100000 in
set_option maxHeartbeats 4000000 in
theorem mpKeys_same {W : World} {mp : Nat} {v1 v2 : Value} {l : List (Int × Int)} (h1 : Kfix (fun V => Below W.heap.size W V) v1 l) (h2 : Kfix (fun V => Below W.heap.size W V) v2 l) (hl : l.length ≤ 1000)
    (hS : ∀ W', Below W.heap.size W W' → ∀ p ∈ l, Calls Tryz.prog 14 #[.pointer (some ⟨mp, 0, none⟩), .int .i64 p.2, .int .i64 p.2] W' fun e w' => e = .returned (.bool true) ∧ w' = W') :
    Calls Tryz.prog 20 #[.pointer (some ⟨mp, 0, none⟩), v1, v2] W fun e w' => e = .returned (.bool true) ∧ Below W.heap.size W w' := by
  obtain ⟨a1, c1, rfl, hc1⟩ := h1
  obtain ⟨a2, c2, rfl, hc2⟩ := h2
  obtain ⟨n, hn⟩ : ∃ n, n = l.length := ⟨_, rfl⟩
  rw [← hn] at hc1 hc2 hl ⊢
  have HJ : Hid (∀ (j : Nat), j < n → ∃ g1 o1 g2 o2 p, a1 = some ⟨g1, o1, none⟩ ∧ a2 = some ⟨g2, o2, none⟩ ∧ p ∈ l ∧ ∀ W', Below W.heap.size W W' → W'.cell? ⟨g1, o1 + j * 2, none⟩ = some (.int .i64 (Prod.fst p)) ∧ W'.cell? ⟨g1, o1 + j * 2 + 1, none⟩ = some (.int .i64 (Prod.snd p)) ∧ W'.cell? ⟨g2, o2 + j * 2, none⟩ = some (.int .i64 p.1) ∧ W'.cell? ⟨g2, o2 + j * 2 + 1, none⟩ = some (.int .i64 p.2)) := fun j hj => by
    obtain ⟨p, hp⟩ : ∃ p, l[j]? = some p := ⟨_, List.getElem?_eq_getElem (by omega)⟩
    obtain ⟨g1, o1, e1, q1⟩ := hc1 (by omega)
    obtain ⟨g2, o2, e2, q2⟩ := hc2 (by omega)
    exact ⟨g1, o1, g2, o2, p, e1, e2, List.mem_of_getElem? hp, fun W' hW => ⟨(q1 W' hW j p hp).1, (q1 W' hW j p hp).2, (q2 W' hW j p hp).1, (q2 W' hW j p hp).2⟩⟩
  have HS := hide hS
  have hnI : (n : Int) ≤ 1000 := by omega
  clear hc1 hc2 hn hl hS
  go_enter Tryz.func20, Tryz.ntmps20
  go_wp2_with fail
  go_loopw [7] (fun iv wr => ∃ j : Nat, iv = .int .i64 (j : Int) ∧ j ≤ n ∧ Hid (Below W.heap.size W wr)) (fun iv _ => (n - intOf iv).toNat)
  case atStart => exact ⟨0, rfl, by omega, Below.refl _ _⟩
  case round =>
    obtain ⟨j, rfl, hj, HB⟩ := hrel
    by_cases hlt : j < n
    · obtain ⟨g1, o1, g2, o2, p, rfl, rfl, hp, hc⟩ := unhide HJ j hlt
      have b1 : Below W.heap.size W wr.drew := (unhide HB).drew
      have S0 := hc _ (unhide HB)
      have S1 := hc _ b1
      have K := hide (unhide HS _ b1 p hp)
      obtain ⟨p1, p2⟩ := p
      simp only at S0 S1 K
      have HB1 := hide b1
      have qj : (j : Int) < (n : Int) := by omega
      clear hc hp HB b1
      go_upto_region 6 with fail
      go_region_held3 (fun w' : World => w'.cell? ⟨g1, o1 + j * 2, none⟩ = some (.int .i64 p1) ∧ w'.cell? ⟨g1, o1 + j * 2 + 1, none⟩ = some (.int .i64 p2) ∧ w'.cell? ⟨g2, o2 + j * 2, none⟩ = some (.int .i64 p1) ∧ w'.cell? ⟨g2, o2 + j * 2 + 1, none⟩ = some (.int .i64 p2)) (first | with_reducible exact S0 | with_reducible exact S1 | go_keep) (first
        | (go_at_call 14; refine (unhide K).mono ?_; rintro e_ zz ⟨rfl, rfl⟩)
        | fail)
      all_goals
        clear S0 S1 K
        go_wp2_with fail
        go_roundw
        case rel => exact ⟨j + 1, by go_num, by omega, HB1⟩
        case measure => simp only [intOf]; omega
    · obtain rfl : j = n := by omega
      clear HJ HS hlt hj
      go_wp2
      go_ret
      exact ⟨rfl, unhide HB⟩
end Go.Proofs.YtpcpcgagiapinaaGreatDoor.Tn.Pa
