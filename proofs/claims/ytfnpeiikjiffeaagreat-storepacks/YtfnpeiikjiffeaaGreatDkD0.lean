/- What the contracts of package disk share. No walk is in this text. -/
import Derived.Test.YtfnpeiikjiffeaaGreatBaD
import Derived.Laws.CopyRow
namespace Go.Proofs.YtfnpeiikjiffeaaGreat
open Go.RowKit Go.Maps

def lit64 : Array Value := #[.int .u8 0, .int .u8 0, .int .u8 0, .int .u8 0, .int .u8 0, .int .u8 0, .int .u8 0, .int .u8 0, .int .u8 0, .int .u8 0, .int .u8 0, .int .u8 0, .int .u8 0, .int .u8 0, .int .u8 0, .int .u8 0, .int .u8 0, .int .u8 0, .int .u8 0, .int .u8 0, .int .u8 0, .int .u8 0, .int .u8 0, .int .u8 0, .int .u8 0, .int .u8 0, .int .u8 0, .int .u8 0, .int .u8 0, .int .u8 0, .int .u8 0, .int .u8 0, .int .u8 0, .int .u8 0, .int .u8 0, .int .u8 0, .int .u8 0, .int .u8 0, .int .u8 0, .int .u8 0, .int .u8 0, .int .u8 0, .int .u8 0, .int .u8 0, .int .u8 0, .int .u8 0, .int .u8 0, .int .u8 0, .int .u8 0, .int .u8 0, .int .u8 0, .int .u8 0, .int .u8 0, .int .u8 0, .int .u8 0, .int .u8 0, .int .u8 0, .int .u8 0, .int .u8 0, .int .u8 0, .int .u8 0, .int .u8 0, .int .u8 0, .int .u8 0]
theorem grown_keep {X Y : World} {b k : Nat} {o : Obj} (hg : X.grownBy Y (some b)) (hk : X.heap[k]? = some o) (hne : k ≠ b) : Y.heap[k]? = some o := by
  rw [hg.block k (lt_of_blk hk) (by simpa using hne)]; exact hk
theorem alloc_keep {X : World} {k : Nat} {o : Obj} (hk : X.heap[k]? = some o) (o' : Obj) : (X.alloc o').heap[k]? = some o := by
  rw [Below.heap_alloc _ _ _ (lt_of_blk hk)]; exact hk
theorem dcell {X : World} {d : Nat} {C : Array Value} {t : TypeId} (h : X.heap[d]? = some (.cells C t (0, 0))) (j : Nat) {v : Value} (hj : C[j]? = some v) : X.cell? ⟨d, j, none⟩ = some v := by
  rw [cell_of_row X d j C t (0, 0) h]; exact hj
theorem wrap_i64 {a : Int} (h1 : -9223372036854775808 ≤ a) (h2 : a ≤ 9223372036854775807) : IntKind.i64.wrap a = a := by
  simp only [IntKind.wrap, IntKind.bits, IntKind.signed]; simp; omega
theorem dfroz {X : World} {d : Nat} {C : Array Value} {t : TypeId} (h : X.heap[d]? = some (.cells C t (0, 0))) (j : Nat) : X.frozen? ⟨d, j, none⟩ = false := by simp [World.frozen?, h]
theorem dset {X : World} {d : Nat} {C : Array Value} {t : TypeId} (h : X.heap[d]? = some (.cells C t (0, 0))) (j : Nat) (u : Value) : (X.setCell ⟨d, j, none⟩ u).heap[d]? = some (.cells (C.setIfInBounds j u) t (0, 0)) := by
  simp [World.setCell, Array.getElem?_modify, h]
theorem lcf (X : World) (b o n : Nat) (cs : List Value) (hn : cs.length = n) (h : X.rangeAt b o cs) : (loadCellsFrom ⟨b, o, none⟩ 0 n #[]).run Tryz.prog X = .ok cs.toArray X := by
  subst hn
  have := run_loadCells_list (P := Tryz.prog) X ⟨b, o, none⟩ cs (fun j v hv => by rw [Addr.add_mid]; exact h j v hv)
  simpa [loadCells] using this
theorem range_bytes {X : World} {b k : Nat} {s : ByteArray} (h : X.heap[b]? = some (.cells (wrC (k, s)).toArray 125 (0, 0))) : X.rangeAt b 1 (blkC s) := fun j v hv => by
  rw [cell_of_row X b _ _ _ _ h]
  have e : 1 + j = j + 1 := by omega
  simp only [wrC, e, List.getElem?_toArray, List.getElem?_cons_succ]
  exact hv
theorem range_all {X : World} {b : Nat} {C : Array Value} (h : X.heap[b]? = some (.cells C 125 (0, 0))) : X.rangeAt b 0 C.toList := fun j v hv => by
  rw [cell_of_row X b _ _ _ _ h, Nat.zero_add]
  simpa using hv
theorem step_load_mid {P : Program} {ops : Array Oper} {o : Oper} {a : Act} {w : World} {K : Act → World → Prop} {Q : Exit → Act → World → Prop} {E : Prop} (hg : o.guard = none) (ty : TypeId) (x : Operand) (hop : o.op = .load ty x)
    (b off : Nat) (hx : a.eval x = .pointer (some ⟨b, off, none⟩)) (cs : List Value) (d : TypeDesc) (hc : w.rangeAt b off cs) (hu : P.underlying ty = some d) (hd : d.isRow = true) (hi : (P.info? ty).map (·.size) = some cs.length)
    (hK : K (a.put o.dst (.agg cs.toArray)) w) : if Region.wanted o (yielded ops a.tmps) = true then Oper.wp P o a w K Q else E := by
  have hw : Region.wanted o (yielded ops a.tmps) = true := by simp [Region.wanted, hg]
  rw [if_pos hw]
  exact wp_load_mid ty x hop b off hx cs d hc hu hd hi hK
theorem fold_set (cs : List Value) : ∀ (o : Nat) (A : Array Value), o + cs.length ≤ A.size → (cs.zipIdx o).foldl (fun A (x : Value × Nat) => A.setIfInBounds x.2 x.1) A = (A.toList.take o ++ cs ++ A.toList.drop (o + cs.length)).toArray := by
  induction cs with
  | nil => intro o A _; simp
  | cons c cs ih =>
    intro o A h
    simp only [List.length_cons] at h
    rw [List.zipIdx_cons, List.foldl_cons, ih (o + 1) _ (by simp; omega)]
    have e := list_seg_step A.toList o c cs (by simp; omega)
    simp only [Array.toList_setIfInBounds, List.length_cons]
    rw [show o + 1 + cs.length = o + 1 + cs.length from rfl, e]
theorem fold_all (cs : List Value) (A : Array Value) (h : A.size = cs.length) : List.foldl (fun (A : Array Value) (x : Value × Nat) => A.setIfInBounds x.2 x.1) A cs.zipIdx = cs.toArray := by
  have := fold_set cs 0 A (by omega)
  simp only [Nat.zero_add, List.take_zero, List.nil_append] at this
  rw [List.drop_eq_nil_of_le (by simp; omega), List.append_nil] at this
  exact this
theorem step_buildSlice {P : Program} {ops : Array Oper} {o : Oper} {a : Act} {w : World} {K : Act → World → Prop} {Q : Exit → Act → World → Prop} {E : Prop} (hg : o.guard = none) (t : TypeId) (x : Operand) (hop : o.op = .buildSlice t 1 #[(0, x)])
    (cs : List Value) (hx : a.eval x = .agg cs.toArray) (e : TypeId) (hu : P.underlying t = some (.slice e)) (i : TypeInfo) (z : Value) (hi : P.info? e = some i) (hz : i.zero = some z) (hs : i.size = cs.length) (hz2 : z.cells.size = cs.length) (h0 : 0 < cs.length) (h24 : cs.length ≤ 16777216)
    (hK : K (a.put o.dst (.slice (some ⟨w.heap.size, 0, none⟩) 1 1)) (w.alloc (.cells cs.toArray e))) : if Region.wanted o (yielded ops a.tmps) = true then Oper.wp P o a w K Q else E := by
  have hw : Region.wanted o (yielded ops a.tmps) = true := by simp [Region.wanted, hg]
  rw [if_pos hw]
  have hrun : (Instr.buildSlice t 1 #[(0, .agg cs.toArray)]).run P w = .ok (.slice (some ⟨w.heap.size, 0, none⟩) 1 1) (w.alloc (.cells cs.toArray e)) := by
    have n0 : ¬ (cs.length = 0) := by omega
    have n1 : ¬ (cs.length > 16777216) := by omega
    simp [Instr.buildSlice, run_underlying hu, sizeOf, typeInfo, hi, hs, n0, zeroValue, hz, Instr.fill, Value.cells, Result.andThen, newRow, newObj]
    rw [if_neg (by omega), fold_all cs _ (by simp)]
    rfl
  unfold Oper.wp
  simp [execOp, hop, hx, hrun, Result.andThen]
  exact hK
theorem wrC_one (p : Nat × ByteArray) : ∀ u ∈ wrC p, u.oneCell' = true := by
  intro u hu
  rcases List.mem_cons.1 hu with rfl | hu
  · rfl
  · exact blkC_one _ u hu
theorem wr_flat (l : List (Nat × ByteArray)) (p : Nat × ByteArray) : (l ++ [p]).flatMap wrC = l.flatMap wrC ++ wrC p := by simp
set_option maxRecDepth 100000 in
theorem infoW : ∃ i z, Tryz.prog.info? 125 = some i ∧ i.zero = some z ∧ i.size = 65 ∧ i.bytes = 72 ∧ z.cells.size = 65 := by
  have h : (Tryz.prog.info? 125).map (fun i => (i.zero.map (fun z => z.cells.size), i.size, i.bytes)) = some (some 65, 65, 72) := by kernel_rfl
  cases hi : Tryz.prog.info? 125 with
  | none => rw [hi] at h; cases h
  | some i =>
    rw [hi] at h
    simp only [Option.map_some, Option.some.injEq, Prod.mk.injEq] at h
    obtain ⟨h1, h2, h3⟩ := h
    cases hz : i.zero with
    | none => rw [hz] at h1; cases h1
    | some z => rw [hz] at h1; simp at h1; exact ⟨i, z, rfl, hz, h2, h3, h1⟩
theorem any_snoc (l : List (Nat × ByteArray)) (k : Nat) (s : ByteArray) (j : Nat) : ((l ++ [(k, s)]).any fun p => p.1 == j) = setB (fun j => l.any fun p => p.1 == j) k j := by
  simp only [List.any_append, List.any_cons, List.any_nil, Bool.or_false, setB]
  rw [Bool.or_comm, Bool.beq_comm]
/-- What put has changed when it is done: the disk is one with the write behind the others. -/
theorem Dk.putted {w X : World} {d nb sb cb : Nat} {fv fv' cv : Value} {S : DS} {k : Nat} {s : ByteArray} (h : Dk w d nb sb cb fv cv S) (hk : k < S.N) (hs : s.size = 64)
    (hX : X.heap[d]? = some (.cells #[.int .i64 (S.N : Int), .bool S.up, .int .i64 (S.cnt : Int), .int .i64 ((S.since.length + 1 : Nat) : Int), .map (some nb), .map (some sb), fv', cv] 77 (0, 0)))
    (hnow : NMap X nb S.N (upd S.now k s)) (hsy : BMap X sb S.N (setB (fun j => S.since.any fun p => p.1 == j) k) S.base) (hrow : FRow X fv' ((S.since ++ [(k, s)]).take 31))
    (hfr : Fr (dfoot d nb sb cb fv S) w X) (hcb : S.up = true → S.cut ≠ none → X.heap[cb]? = w.heap[cb]?) (hpl : ∀ x, fv'.ownBlock = some x → fv.ownBlock = some x ∨ w.heap.size ≤ x) :
    ∃ Z', DkS X d (S.put k s) Z' ∧ Mv w X (dfoot d nb sb cb fv S) Z' := by
  refine ⟨_, ⟨nb, sb, cb, fv', cv, rfl, ?_, ?_, ?_, hrow, h.come.keep rfl rfl hcb, h.ok.put hk hs, h.ne⟩, hfr, ?_⟩
  · rw [hX]; simp [DS.put]
  · refine hnow.congr (fun j _ => ?_)
    show upd S.now k s j = cur S.base (S.since ++ [(k, s)]) j
    rw [cur_snoc]; rfl
  · exact hsy.congr (fun j _ => (any_snoc _ _ _ _).symm) (fun _ _ _ => rfl)
  · intro x hx
    rcases mem_dfoot.1 hx with rfl | rfl | rfl | hx | ⟨rfl, q1, q2⟩
    · exact Or.inl (mem_dfoot.2 (Or.inl rfl))
    · exact Or.inl (mem_dfoot.2 (Or.inr (Or.inl rfl)))
    · exact Or.inl (mem_dfoot.2 (Or.inr (Or.inr (Or.inl rfl))))
    · rcases hpl x hx with c | c
      · exact Or.inl (mem_dfoot.2 (Or.inr (Or.inr (Or.inr (Or.inl c)))))
      · exact Or.inr c
    · exact Or.inl (mem_dfoot.2 (Or.inr (Or.inr (Or.inr (Or.inr ⟨rfl, q1, q2⟩)))))
theorem row_new (w : World) (cs : List Value) (t : TypeId) : ∀ j u, cs[j]? = some u → (w.alloc (.cells cs.toArray t)).cell? ((⟨w.heap.size, 0, none⟩ : Addr).add j) = some u := by
  intro j u hj
  rw [Addr.add_mid, cell_of_row _ _ _ _ _ _ (heap_alloc_new w _), Nat.zero_add]
  simpa using hj
theorem room31 {n : Nat} (h : n < 31) : n + 1 ≤ maxLen ∧ (n + 1) * 72 ≤ 140737488355328 := by unfold maxLen; omega
/-- Behind the append of a write, and the store of the new slice. -/
theorem put_end {w X w6 : World} {d nb sb cb : Nat} {fa : Option Addr} {fc : Nat} {v' cv : Value} {S : DS} {k : Nat} {s : ByteArray} {ob : Obj} (h : Dk w d nb sb cb (.slice fa S.since.length fc) cv S)
    (ha : d ≠ nb ∧ d ≠ sb ∧ (Value.slice fa S.since.length fc).ownBlock ≠ some d ∧ (Value.slice fa S.since.length fc).ownBlock ≠ some nb ∧ (Value.slice fa S.since.length fc).ownBlock ≠ some sb)
    (hk : k < S.N) (hs : s.size = 64) (hl : S.since.length < 31) (hX : Fr [d, nb, sb] w X) (hn : NMap X nb S.N (upd S.now k s)) (hy : BMap X sb S.N (setB (fun j => S.since.any fun p => p.1 == j) k) S.base)
    (he : (((S.since.length : Nat) : Int) + 1) = ((S.since.length + 1 : Nat) : Int)) (hd : X.heap[d]? = some (.cells (#[.int .i64 (S.N : Int), .bool S.up, .int .i64 (S.cnt : Int), .int .i64 (S.since.length : Int), .map (some nb), .map (some sb), .slice fa S.since.length fc, cv].setIfInBounds 3 (.int .i64 (((S.since.length : Nat) : Int) + 1))) 77 (0, 0)))
    (hown : w6.ownsRow 0 125 65 v' (S.since.length + 1) ((S.since.take 31).flatMap wrC ++ wrC (k, s))) (hg : (X.drew.alloc ob).grownBy w6 (Value.slice fa S.since.length fc).ownBlock) (hat : v'.ownBlock = (Value.slice fa S.since.length fc).ownBlock ∨ v'.ownBlock = some (X.drew.alloc ob).heap.size) :
    w6.cell? ⟨d, 6, none⟩ = some (.slice fa S.since.length fc) ∧ w6.frozen? ⟨d, 6, none⟩ = false ∧ (∃ Z', DkS (w6.setCell ⟨d, 6, none⟩ v') d (S.put k s) Z' ∧ Mv w (w6.setCell ⟨d, 6, none⟩ v') (dfoot d nb sb cb (.slice fa S.since.length fc) S) Z') ∧ ∃ g' cp, v' = .slice (some ⟨g', 0, none⟩) (S.since.length + 1) cp := by
  obtain ⟨a1, a2, a3, a4, a5⟩ := ha
  have szX : (X.drew.alloc ob).heap.size = X.heap.size + 1 := by simp
  have d6 : w6.heap[d]? = _ := (hg.block d (by rw [szX]; have := lt_of_blk hd; omega) (fun c => a3 c.symm)).trans (alloc_keep (X := X.drew) hd ob)
  have kp : ∀ x, x < X.heap.size → (Value.slice fa S.since.length fc).ownBlock ≠ some x → w6.heap[x]? = X.heap[x]? := fun x hx hne => (hg.block x (by omega) (fun c => hne c.symm)).trans (Below.heap_alloc _ _ _ hx)
  have vd : v'.ownBlock ≠ some d := by
    rcases hat with c | c
    · rw [c]; exact a3
    · rw [c, szX]; intro e; have := lt_of_blk hd; simp at e; omega
  have sc : ∀ x, x ≠ d → (w6.setCell ⟨d, 6, none⟩ v').heap[x]? = w6.heap[x]? := fun x hx => Below.heap_setCell _ _ _ _ hx
  have FX : Fr (dfoot d nb sb cb (.slice fa S.since.length fc) S) w (w6.setCell ⟨d, 6, none⟩ v') := by
    refine Fr.setCell ((hX.mono (T := dfoot d nb sb cb (.slice fa S.since.length fc) S) (fun x _ c => ?_)).tr ((((Fr.refl [] X).drew.alloc ob).mono (fun _ _ c => by cases c)).tr ((Fr.ofGrown hg).mono (fun x _ c => mem_dfoot.2 (Or.inr (Or.inr (Or.inr (Or.inl (by simpa using c))))))))) (Or.inr (mem_dfoot.2 (Or.inl rfl))) _
    simp at c
    rcases c with rfl | rfl | rfl
    · exact mem_dfoot.2 (Or.inl rfl)
    · exact mem_dfoot.2 (Or.inr (Or.inl rfl))
    · exact mem_dfoot.2 (Or.inr (Or.inr (Or.inl rfl)))
  refine ⟨dcell d6 6 rfl, dfroz d6 6, Dk.putted (fv' := v') h hk hs ?_ (hn.keep ((sc nb (Ne.symm a1)).trans (kp nb hn.lt a4))) (hy.keep ((sc sb (Ne.symm a2)).trans (kp sb hy.lt a5))) ?_ FX (fun q1 q2 => ?_) (fun x hx => ?_), ?_⟩
  · rw [dset d6 6 v', ← he]; rfl
  · have e : (S.since ++ [(k, s)]).take 31 = S.since.take 31 ++ [(k, s)] := by
      rw [List.take_of_length_le (by simp; omega), List.take_of_length_le (by omega)]
    have e2 : (S.since.take 31 ++ [(k, s)]).length = S.since.length + 1 := by simp; omega
    unfold FRow
    rw [e, wr_flat, e2]
    exact own_keep hown (fun x hx => sc x (fun c => vd (by rw [← c]; exact hx)))
  · obtain ⟨b1', b2', b3', b4'⟩ := h.apartC q1 q2
    obtain ⟨_, _, _, _, _, hb⟩ := h.come.cut q1 q2
    have l1 := lt_of_blk hb
    rw [sc cb b1', kp cb (Nat.lt_of_lt_of_le l1 hX.size) b4']
    exact hX.block cb l1 (by simp [b1', b2', b3'])
  · rcases hat with c | c
    · left; rw [← c]; exact hx
    · right; rw [c, szX] at hx; simp at hx; have := hX.size; omega
  · rcases hown.2 with ⟨_, q⟩ | ⟨g, cap, _, q, _⟩
    · omega
    · exact ⟨g, cap, q⟩

end Go.Proofs.YtfnpeiikjiffeaaGreat
