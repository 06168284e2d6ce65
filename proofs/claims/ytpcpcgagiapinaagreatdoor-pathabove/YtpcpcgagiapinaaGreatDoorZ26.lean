/- Texts joined: PbG PbH. -/
import Derived.Test.YtpcpcgagiapinaaGreatDoorZ21
import Derived.Shelf.SlSortCmp.WholeK
import Derived.Shelf.SlicesG.Cmp
/- slices.SortFunc at keys and cmp.Compare at numbers, laid off the shelf. -/
namespace Go.Proofs.YtpcpcgagiapinaaGreatDoor.Tn.Pa
open Go.Shelf Go.RowKit Go.Maps Go.Sort
def renK : Go.Shelf.Ren := ⟨fun | 0 => 0 | 1 => 1 | 2 => 2 | 6 => 94 | 11 => 96 | 14 => 132 | 15 => 133 | 18 => 134 | 20 => 159 | 21 => 160 | 22 => 161 | 23 => 162 | 24 => 163 | 25 => 164 | 26 => 165 | 27 => 166 | 28 => 167 | 29 => 168 | 46 => 182 | 47 => 183 | 48 => 184 | 49 => 185 | 50 => 186 | 57 => 200 | 60 => 205 | 61 => 206 | 62 => 207 | 63 => 208 | 64 => 209 | 65 => 210 | 66 => 211 | 67 => 212 | 68 => 213 | 69 => 214 | 70 => 215 | 71 => 216 | 72 => 217 | 73 => 218 | 74 => 219 | 75 => 222 | n => n, fun | 0 => 0 | 1 => 1 | 2 => 2 | 3 => 3 | 4 => 4 | 5 => 5 | 6 => 6 | 7 => 7 | 8 => 8 | 9 => 9 | 10 => 10 | 11 => 11 | 12 => 12 | 13 => 13 | 14 => 14 | 15 => 15 | 16 => 16 | 17 => 17 | 18 => 18 | 19 => 19 | 20 => 20 | 21 => 21 | 22 => 47 | 23 => 161 | 24 => 71 | 25 => 163 | 27 => 27 | 29 => 162 | 30 => 155 | 37 => 184 | 38 => 185 | 39 => 186 | 42 => 80 | 44 => 193 | 45 => 194 | 46 => 195 | 47 => 196 | 48 => 197 | 49 => 198 | 50 => 128 | 51 => 199 | 52 => 200 | 53 => 201 | 54 => 202 | 55 => 203 | 66 => 206 | 67 => 207 | 68 => 208 | 69 => 209 | 70 => 210 | 71 => 211 | 76 => 218 | 77 => 105 | 78 => 219 | 81 => 223 | 82 => 224 | 83 => 225 | 84 => 226 | 85 => 227 | 86 => 228 | 87 => 99 | 88 => 229 | 89 => 230 | 90 => 231 | 91 => 232 | 92 => 233 | 93 => 234 | 94 => 235 | 95 => 236 | 96 => 237 | n => n, fun | n => n⟩
set_option maxRecDepth 100000 in
theorem sortK : Go.Proofs.SlLaysF0.n6 Tryz.prog renK := {
  mixed := by kernel_rfl
  f6 := ⟨Tryz.f94.name, by decide, Tryz.func94.trans (congrArg some (by kernel_rfl))⟩
  f14 := ⟨Tryz.f132.name, by decide, Tryz.func132.trans (congrArg some (by kernel_rfl))⟩
  f15 := Tryz.func133.trans (congrArg some (by kernel_rfl))
  f20 := ⟨Tryz.f159.name, by decide, Tryz.func159.trans (congrArg some (by kernel_rfl))⟩
  f21 := ⟨Tryz.f160.name, by decide, Tryz.func160.trans (congrArg some (by kernel_rfl))⟩
  f22 := ⟨Tryz.f161.name, by decide, Tryz.func161.trans (congrArg some (by kernel_rfl))⟩
  f23 := ⟨Tryz.f162.name, by decide, Tryz.func162.trans (congrArg some (by kernel_rfl))⟩
  f24 := ⟨Tryz.f163.name, by decide, Tryz.func163.trans (congrArg some (by kernel_rfl))⟩
  f25 := ⟨Tryz.f164.name, by decide, Tryz.func164.trans (congrArg some (by kernel_rfl))⟩
  f26 := ⟨Tryz.f165.name, by decide, Tryz.func165.trans (congrArg some (by kernel_rfl))⟩
  f27 := ⟨Tryz.f166.name, by decide, Tryz.func166.trans (congrArg some (by kernel_rfl))⟩
  f28 := Tryz.func167.trans (congrArg some (by kernel_rfl))
  f29 := Tryz.func168.trans (congrArg some (by kernel_rfl))
  f46 := ⟨Tryz.f182.name, by decide, Tryz.func182.trans (congrArg some (by kernel_rfl))⟩
  f47 := Tryz.func183.trans (congrArg some (by kernel_rfl))
  f48 := Tryz.func184.trans (congrArg some (by kernel_rfl))
  f49 := ⟨Tryz.f185.name, by decide, Tryz.func185.trans (congrArg some (by kernel_rfl))⟩
  f50 := ⟨Tryz.f186.name, by decide, Tryz.func186.trans (congrArg some (by kernel_rfl))⟩
  f57 := ⟨Tryz.f200.name, by decide, Tryz.func200.trans (congrArg some (by kernel_rfl))⟩
  t0 := Tryz.underlying0
  a0 := Tryz.isAgg0
  z0 := Tryz.sizeOf0
  v0 := Tryz.zeroValue0
  t3 := Tryz.underlying3
  a3 := Tryz.isAgg3
  z3 := Tryz.sizeOf3
  v3 := Tryz.zeroValue3
  t4 := Tryz.underlying4
  a4 := Tryz.isAgg4
  z4 := Tryz.sizeOf4
  v4 := Tryz.zeroValue4
  t5 := Tryz.underlying5
  a5 := Tryz.isAgg5
  z5 := Tryz.sizeOf5
  v5 := Tryz.zeroValue5
  t9 := Tryz.underlying9
  a9 := Tryz.isAgg9
  z9 := Tryz.sizeOf9
  v9 := Tryz.zeroValue9
  t22 := Tryz.underlying47
  a22 := Tryz.isAgg47
  z22 := Tryz.sizeOf47
  v22 := Tryz.zeroValue47
  t25 := Tryz.underlying163
  a25 := Tryz.isAgg163
  z25 := Tryz.sizeOf163
  v25 := Tryz.zeroValue163
  t39 := Tryz.underlying186
  a39 := Tryz.isAgg186
  z39 := Tryz.sizeOf186
  v39 := Tryz.zeroValue186
  t45 := Tryz.underlying194
  a45 := Tryz.isAgg194
  z45 := Tryz.sizeOf194
  v45 := Tryz.zeroValue194
  t46 := Tryz.underlying195
  a46 := Tryz.isAgg195
  z46 := Tryz.sizeOf195
  v46 := Tryz.zeroValue195
  t50 := Tryz.underlying128
  a50 := Tryz.isAgg128
  z50 := Tryz.sizeOf128
  v50 := Tryz.zeroValue128
  t53 := Tryz.underlying201
  a53 := Tryz.isAgg201
  z53 := Tryz.sizeOf201
  v53 := Tryz.zeroValue201
  t55 := Tryz.underlying203
  a55 := Tryz.isAgg203
  z55 := Tryz.sizeOf203
  v55 := Tryz.zeroValue203
  t66 := Tryz.underlying206
  a66 := Tryz.isAgg206
  z66 := Tryz.sizeOf206
  v66 := Tryz.zeroValue206
  t70 := Tryz.underlying210
  a70 := Tryz.isAgg210
  z70 := Tryz.sizeOf210
  v70 := Tryz.zeroValue210
  t76 := Tryz.underlying218
  a76 := Tryz.isAgg218
  z76 := Tryz.sizeOf218
  v76 := Tryz.zeroValue218
  t77 := Tryz.underlying105
  a77 := Tryz.isAgg105
  z77 := Tryz.sizeOf105
  v77 := Tryz.zeroValue105 }
def renC : Go.Shelf.Ren := ⟨fun | 0 => 0 | 1 => 1 | 2 => 2 | 5 => 96 | 6 => 197 | 7 => 134 | 8 => 205 | 9 => 206 | 10 => 207 | 11 => 208 | 12 => 209 | 13 => 210 | 14 => 211 | 15 => 212 | 16 => 213 | 17 => 214 | 18 => 215 | 19 => 216 | 20 => 217 | 21 => 218 | 22 => 219 | 23 => 222 | n => n, fun | 0 => 0 | 1 => 1 | 2 => 2 | 3 => 3 | 4 => 4 | 5 => 5 | 6 => 6 | 7 => 7 | 8 => 8 | 9 => 9 | 10 => 10 | 11 => 11 | 12 => 12 | 13 => 13 | 14 => 14 | 15 => 15 | 16 => 16 | 17 => 17 | 18 => 18 | 19 => 19 | 20 => 20 | 21 => 21 | 22 => 3 | 23 => 162 | 24 => 39 | 25 => 80 | 26 => 223 | 27 => 224 | 28 => 225 | 29 => 226 | 30 => 227 | 31 => 228 | 32 => 99 | 33 => 201 | 34 => 229 | 35 => 230 | 36 => 231 | 37 => 232 | 38 => 233 | 39 => 234 | 40 => 235 | 41 => 236 | 42 => 237 | n => n, fun | n => n⟩
set_option maxRecDepth 100000 in
theorem cmpL : Go.Proofs.SlLaysC2.n5 Tryz.prog renC := {
  mixed := by kernel_rfl
  f5 := ⟨Tryz.f96.name, by decide, Tryz.func96.trans (congrArg some (by kernel_rfl))⟩
  f7 := ⟨Tryz.f134.name, by decide, Tryz.func134.trans (congrArg some (by kernel_rfl))⟩
  t3 := Tryz.underlying3
  a3 := Tryz.isAgg3
  z3 := Tryz.sizeOf3
  v3 := Tryz.zeroValue3
  t4 := Tryz.underlying4
  a4 := Tryz.isAgg4
  z4 := Tryz.sizeOf4
  v4 := Tryz.zeroValue4
  t22 := Tryz.underlying3
  a22 := Tryz.isAgg3
  z22 := Tryz.sizeOf3
  v22 := Tryz.zeroValue3 }
end Go.Proofs.YtpcpcgagiapinaaGreatDoor.Tn.Pa

/- The contract of path.rising: keys sorted by their nodes. -/
namespace Go.Proofs.YtpcpcgagiapinaaGreatDoor.Tn.Pa
open Go.Shelf Go.RowKit Go.Maps Go.Sort
def insK (k : Int × Int) : List (Int × Int) → List (Int × Int)
  | [] => [k]
  | a :: r => if a.1 < k.1 then a :: insK k r else k :: a :: r
def srt (l : List (Int × Int)) : List (Int × Int) := l.foldr insK []
theorem insK_perm (k : Int × Int) : ∀ l, (insK k l).Perm (k :: l)
  | [] => List.Perm.refl _
  | a :: r => by
    unfold insK
    split
    · exact ((insK_perm k r).cons a).trans (List.Perm.swap k a r)
    · exact List.Perm.refl _
theorem srt_perm : ∀ l, (srt l).Perm l
  | [] => List.Perm.refl _
  | a :: r => (insK_perm a (srt r)).trans ((srt_perm r).cons a)
theorem insK_sorted {k : Int × Int} {l : List (Int × Int)} (h : l.Pairwise (fun a b => a.1 < b.1)) (hk : ∀ a ∈ l, a.1 ≠ k.1) : (insK k l).Pairwise (fun a b => a.1 < b.1) := by
  induction l with
  | nil => simp [insK]
  | cons a r ih =>
    have hp := List.pairwise_cons.1 h
    unfold insK
    split
    · rename_i hlt
      refine List.pairwise_cons.2 ⟨fun b hb => ?_, ih hp.2 (fun x hx => hk x (by simp [hx]))⟩
      rcases List.mem_cons.1 ((insK_perm k r).mem_iff.1 hb) with rfl | hb
      · exact hlt
      · exact hp.1 b hb
    · rename_i hlt
      have hne := hk a (by simp)
      refine List.pairwise_cons.2 ⟨fun b hb => ?_, h⟩
      rcases List.mem_cons.1 hb with rfl | hb
      · omega
      · have := hp.1 b hb; omega
theorem srt_sorted {l : List (Int × Int)} (h : (l.map (·.1)).Nodup) : (srt l).Pairwise (fun a b => a.1 < b.1) := by
  induction l with
  | nil => simp [srt]
  | cons a r ih =>
    simp only [List.map_cons, List.nodup_cons] at h
    refine insK_sorted (ih h.2) (fun x hx c => h.1 ?_)
    have := (srt_perm r).mem_iff.1 hx
    exact List.mem_map.2 ⟨x, this, c⟩
theorem sorted_eq : ∀ {l m : List (Int × Int)}, l.Pairwise (fun a b => a.1 < b.1) → m.Pairwise (fun a b => a.1 < b.1) → l.Perm m → l = m
  | [], m, _, _, hp => (List.nil_perm.1 hp).symm
  | a :: l, [], _, _, hp => absurd hp.length_eq (by simp)
  | a :: l, b :: m, hl, hm, hp => by
    have h1 := List.pairwise_cons.1 hl
    have h2 := List.pairwise_cons.1 hm
    have e : a = b := by
      rcases List.mem_cons.1 (hp.mem_iff.1 (List.mem_cons_self (a := a) (l := l))) with e | e
      · exact e
      · rcases List.mem_cons.1 (hp.mem_iff.2 (List.mem_cons_self (a := b) (l := m))) with e' | e'
        · exact e'.symm
        · have := h1.1 b e'; have := h2.1 a e; omega
    subst e
    rw [sorted_eq h1.2 h2.2 (List.Perm.cons_inv hp)]
theorem kys_flat (d : Array (Int × Int)) : flatK kyC 2 d = (kysC d.toList).toArray := by
  refine ext_get! (by simp [kysC_len]) fun t ht => ?_
  have ht' : t < d.size * 2 := by simpa using ht
  rw [get_flatK _ _ _ _ ht']
  have hi : t / 2 < d.size := by omega
  have hd : d.toList[t / 2]? = some d[t / 2]! := by simp [hi]
  have hg := kysC_get hd
  have hm : t % 2 = 0 ∨ t % 2 = 1 := by omega
  rcases hm with hm | hm
  · have e : t = t / 2 * 2 := by omega
    rw [hm]
    conv => rhs; rw [e]
    simp [hg.1, kyC]
  · have e : t = t / 2 * 2 + 1 := by omega
    rw [hm]
    conv => rhs; rw [e]
    simp [hg.2, kyC]
set_option maxHeartbeats 1000000 in
theorem rising1_any (x y : Int × Int) (W : World) : Calls Tryz.prog 95 #[.agg #[.int .i64 x.1, .int .i64 x.2], .agg #[.int .i64 y.1, .int .i64 y.2]] W fun e w' => e = .returned (.int .i64 (Lib.compareInt x.1 y.1)) ∧ ∃ q os', w' = grow (W.drewN q) os' := by
  have hcon := fun W' => AnyG.cmp_Compare_int cmpL x.1 y.1 W'
  change ∀ W', Calls Tryz.prog 96 _ _ _ at hcon
  generalize Lib.compareInt x.1 y.1 = r at hcon ⊢
  go_enter Tryz.func95, Tryz.ntmps95
  go_wp2_with (go_at_call 96; refine (hcon _).mono ?_; rintro e w' ⟨rfl, rfl⟩)
  go_ret
  exact ⟨rfl, 0, _, by rw [alloc_eq_grow, alloc_eq_grow, grow_grow]; rfl⟩
theorem ltNode (x y : Int × Int) : ltOf (fun x y : Int × Int => Lib.compareInt x.1 y.1) x y = decide (x.1 < y.1) := by
  unfold ltOf Lib.compareInt
  by_cases h1 : x.1 < y.1
  · simp [h1]
  · by_cases h2 : y.1 < x.1 <;> simp [h1, h2]
theorem swoNode : SWO (ltOf fun x y : Int × Int => Lib.compareInt x.1 y.1) where
  irrefl x := by rw [ltNode]; simp
  trans x y z h1 h2 := by rw [ltNode] at *; simp at *; omega
  ntrans x y z h1 h2 := by rw [ltNode] at *; simp at *; omega
theorem fr_sortK (w : World) (blk off q : Nat) (d : Array (Int × Int)) (os : Array Obj) : Fr [blk] w (sortWorldK kyC 2 w blk off q d os) := by
  unfold sortWorldK
  refine ⟨rfl, rfl, rfl, ?_, fun k hk hn => ?_⟩
  · rw [size_grow]
    simp [putRowK, putRow, mapBlock, Sort.ahead]
  · rw [heap_grow_old _ _ (by simpa [putRowK, putRow, mapBlock, Sort.ahead] using hk)]
    simp only [putRowK, putRow, mapBlock, Sort.ahead, Array.getElem?_modify]
    have : blk ≠ k := fun c => hn (by simp [c])
    simp [this]
set_option maxHeartbeats 4000000 in
theorem rising_any {w : World} {v : Value} {ks : List (Int × Int)} (h : w.ownsRow 0 71 2 v ks.length (kysC ks)) (hne : ks ≠ []) (hl : ks.length ≤ 100) (hd : (ks.map (·.1)).Nodup) :
    Calls Tryz.prog 53 #[v] w fun e w' => e = .returned v ∧ w'.ownsRow 0 71 2 v ks.length (kysC (srt ks)) ∧ Fr v.ownBlock.toList w w' := by
  have hpos : 0 < ks.length := List.length_pos_iff.2 hne
  obtain ⟨g, cap, rfl, hg, hcap, hfz⟩ := own_open h hpos
  have hH : HoldsK kyC 2 w g 0 ks.toArray := by
    intro j hj
    rw [kys_flat] at hj ⊢
    simp only [List.size_toArray] at hj ⊢
    have hj2 : (kysC ks)[j]? = some (kysC ks)[j]! := by simp [hj]
    refine ⟨?_, by rw [Nat.zero_add]; exact own_frozen h (g := g) rfl j⟩
    rw [Nat.zero_add]
    have := own_cell h (g := g) rfl hj2
    simpa using this
  have eg : ∀ args w, (callFunc 95 args).run Tryz.prog w = .ok (.enter 95 args) w := enters_of Tryz.func95 (by kernel_rfl) rfl
  have hcon := AnyQ.slices_SortFunc sortK 2 Tryz.isAgg71 Tryz.sizeOf71 kyC (fun _ => rfl) (fun x v hv => by simp [kyC] at hv; rcases hv with rfl | rfl <;> rfl) (fun x y => Lib.compareInt x.1 y.1) swoNode 95 #[] g 0 cap ks.toArray w eg (fun _ _ _ _ x y => rising1_any x y _) hH hg (by simp; omega)
  change Calls Tryz.prog 94 _ _ _ at hcon
  have hsz : ks.toArray.size = ks.length := by simp
  rw [hsz] at hcon
  have fin : Hid (∀ d' n os, PermIn 0 ks.length ks.toArray d' → SortedIn (ltOf fun x y : Int × Int => Lib.compareInt x.1 y.1) 0 ks.length d' → (sortWorldK kyC 2 w g 0 n d' os).ownsRow 0 71 2 (.slice (some ⟨g, 0, none⟩) ks.length cap) ks.length (kysC (srt ks)) ∧ Fr (Value.slice (some ⟨g, 0, none⟩) ks.length cap).ownBlock.toList w (sortWorldK kyC 2 w g 0 n d' os)) := by
    intro d' n os hp hs
    refine ⟨?_, fr_sortK w g 0 n d' os⟩
    have hds : d'.size = ks.length := by rw [hp.1]; simp
    have hperm : d'.toList.Perm ks := by
      have := hp.2.2
      have e1 : d'.toList.take ks.length = d'.toList := List.take_of_length_le (by simp [hds])
      have e2 : (d'.extract 0 ks.length).toList = d'.toList := by simp [e1]
      rw [e2] at this
      simpa using this
    have hsrt : d'.toList = srt ks := by
      refine sorted_eq ?_ (srt_sorted hd) (hperm.trans (srt_perm ks).symm)
      have hnd : (d'.toList.map (·.1)).Nodup := (hperm.map (·.1)).nodup_iff.2 hd
      rw [List.pairwise_iff_getElem]
      intro i j hi hj hij
      have hi' : i < d'.size := by simpa using hi
      have hj' : j < d'.size := by simpa using hj
      have h1 := hs i j (Nat.zero_le _) hij (by omega)
      rw [ltNode] at h1
      have h2 : ¬ (d'[j]!.1 < d'[i]!.1) := by simpa using h1
      simp only [getElem!_pos d' i hi', getElem!_pos d' j hj'] at h2
      have h3 : d'[i].1 ≠ d'[j].1 := by
        intro c
        have := (List.nodup_iff_pairwise_ne.1 hnd)
        rw [List.pairwise_iff_getElem] at this
        have := this i j (by simpa using hi) (by simpa using hj) hij
        simp at this
        exact this c
      simp only [Array.getElem_toList]
      omega
    have hH' : HoldsK kyC 2 (sortWorldK kyC 2 w g 0 n d' os) g 0 d' := by
      unfold sortWorldK
      exact holdsK_grow _ _ _ _ _ _ _ (by simpa [putRowK, putRow, mapBlock, Sort.ahead] using hg) (holdsK_putRowK _ _ _ _ _ _ _ (holdsK_ahead _ _ _ _ _ _ _ hH) (by simpa using hp.1))
    rcases h.2 with ⟨c, _⟩ | ⟨g', cap', cur, e, h0, hb, q1, q2, q3, q4⟩
    · cases c
    · simp only [Value.slice.injEq, Option.some.injEq, Addr.mk.injEq, and_true, true_and] at e
      obtain ⟨rfl, rfl⟩ := e
      have hblk : (sortWorldK kyC 2 w g 0 n d' os).heap[g]? = some (.cells (putCells id 0 (flatK kyC 2 d') cur) 71 (0, 0)) := by
        unfold sortWorldK
        rw [heap_grow_old _ _ (by simpa [putRowK, putRow, mapBlock, Sort.ahead] using hg)]
        simp only [putRowK, putRow, mapBlock, Sort.ahead, Array.getElem?_modify, if_true, hb]; rfl
      have hcs : (putCells id 0 (flatK kyC 2 d') cur).size = cur.size := by simp [putCells]
      refine ⟨by rw [kysC_len, (srt_perm ks).length_eq], Or.inr ⟨g, cap, _, rfl, h0, hblk, q1, q2, by rw [hcs]; exact q3, ?_⟩⟩
      refine List.ext_getElem? fun j => ?_
      rcases Nat.lt_or_ge j (ks.length * 2) with hj | hj
      · have := (hH' j (by rw [size_flatK, hds]; exact hj)).1
        rw [kys_flat, hsrt] at this
        rw [Nat.zero_add] at this
        simp [World.cell?, hblk] at this
        have hlen : (kysC (srt ks)).length = ks.length * 2 := by rw [kysC_len, (srt_perm ks).length_eq]
        rw [List.getElem?_take_of_lt hj, Array.getElem?_toList, this]
        simp [hlen, hj]
      · rw [List.getElem?_eq_none (by rw [List.length_take]; omega), List.getElem?_eq_none (by rw [kysC_len, (srt_perm ks).length_eq]; exact hj)]
  have HC := hide hcon
  clear hH h hcon hsz hd hl
  generalize ks.length = KN at *
  go_enter Tryz.func53, Tryz.ntmps53
  go_wp2_with fail
  refine (unhide HC).mono ?_
  rintro e w' ⟨rfl, d', n, os, hp, hs, rfl⟩
  obtain ⟨f1, f2⟩ := unhide fin d' n os hp hs
  have F1 := hide f1
  have F2 := hide f2
  clear f1 f2 fin hp hs HC
  go_wp2
  go_ret
  exact ⟨rfl, unhide F1, unhide F2⟩
end Go.Proofs.YtpcpcgagiapinaaGreatDoor.Tn.Pa
