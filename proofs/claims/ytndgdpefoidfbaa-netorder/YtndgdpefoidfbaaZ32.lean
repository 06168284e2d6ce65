/- Texts joined: NeD NeE. -/
import Derived.Shelf.SlicesE.Delete
import Derived.Test.YtndgdpefoidfbaaZ22
import Derived.Test.YtndgdpefoidfbaaZ27
/- slices.Delete at a row of pointers to packets; takeAway. -/
namespace Go.Proofs.Ytndgdpefoidfbaa
open Go.Shelf Go.RowKit Go.Maps Go.Sort Go.Lib
def renDP : Go.Shelf.Ren := ⟨fun | 0 => 0 | 1 => 1 | 2 => 2 | 45 => 35 | 98 => 57 | 99 => 58 | 100 => 59 | 101 => 60 | 102 => 61 | 103 => 62 | 104 => 63 | 105 => 64 | 106 => 65 | 107 => 66 | 108 => 67 | 109 => 68 | 110 => 69 | 111 => 70 | 112 => 71 | 113 => 73 | n => n, fun | 0 => 0 | 1 => 1 | 2 => 2 | 3 => 3 | 4 => 4 | 5 => 5 | 6 => 6 | 7 => 7 | 8 => 8 | 9 => 9 | 10 => 10 | 11 => 11 | 12 => 12 | 13 => 13 | 14 => 14 | 15 => 15 | 16 => 16 | 17 => 17 | 18 => 18 | 19 => 19 | 20 => 20 | 21 => 21 | 22 => 59 | 23 => 72 | 38 => 78 | 67 => 114 | 87 => 108 | 88 => 109 | 89 => 110 | 90 => 111 | 91 => 112 | 92 => 113 | 93 => 54 | 94 => 115 | 95 => 116 | 96 => 117 | 97 => 118 | 98 => 119 | 99 => 120 | 100 => 121 | 101 => 122 | 102 => 123 | n => n, fun | n => n⟩
set_option maxRecDepth 100000 in
theorem laysDP : Go.Proofs.SlLaysE.n45 Try.prog renDP := {
  mixed := by kernel_rfl
  f45 := ⟨Try.f35.name, by decide, Try.func35.trans (congrArg some (by kernel_rfl))⟩
  t0 := Try.underlying0
  a0 := Try.isAgg0
  z0 := Try.sizeOf0
  v0 := Try.zeroValue0
  t3 := Try.underlying3
  a3 := Try.isAgg3
  z3 := Try.sizeOf3
  v3 := Try.zeroValue3
  t4 := Try.underlying4
  a4 := Try.isAgg4
  z4 := Try.sizeOf4
  v4 := Try.zeroValue4
  t22 := Try.underlying59
  a22 := Try.isAgg59
  z22 := Try.sizeOf59
  v22 := Try.zeroValue59
  a23 := Try.isAgg72
  z23 := Try.sizeOf72 }
def enP : Option Nat → Value
  | none => .pointer none
  | some b => .pointer (some ⟨b, 0, none⟩)
theorem enP_one : OneCell enP := fun x => by cases x <;> rfl
theorem infoPP : (Try.prog.info? 72).map (fun i => (i.zero, i.size, i.bytes)) = some (some (.pointer none), 1, 8) := by kernel_rfl
theorem fr_putRowP {α : Type} [Inhabited α] (enc : α → Value) (w : World) (blk off q : Nat) (d : Array α) : Fr [blk] w (putRow enc (Sort.ahead w q) blk off d) := by
  refine ⟨rfl, rfl, rfl, by simp, fun k hk hn => ?_⟩
  simp only [putRow, mapBlock, Sort.ahead, Array.getElem?_modify]
  have : blk ≠ k := fun c => hn (by simp [c])
  simp [this]
theorem putRow_blkP {α : Type} [Inhabited α] (enc : α → Value) (w : World) (blk off q : Nat) (d : Array α) {cur : Array Value} {t : TypeId} {z : Nat × Nat} (h : w.heap[blk]? = some (.cells cur t z)) : ∃ cur', (putRow enc (Sort.ahead w q) blk off d).heap[blk]? = some (.cells cur' t z) ∧ cur'.size = cur.size := by
  refine ⟨putCells enc off d cur, ?_, by simp [putCells]⟩
  simp only [putRow, mapBlock, Sort.ahead, Array.getElem?_modify, if_true, h]; rfl
theorem cell_blkP {w : World} {g i : Nat} {cur : Array Value} {t : TypeId} {f : Nat × Nat} {u : Value} (h : w.heap[g]? = some (.cells cur t f)) (hc : w.cell? ⟨g, i, none⟩ = some u) : cur[i]? = some u := by
  simpa [World.cell?, h] using hc
theorem delP_any {B g N cap i : Nat} {w : World} {l : List (Option Nat)} (h : w.ownsRow B 72 1 (.slice (some ⟨g, 0, none⟩) N cap) l.length (l.map enP)) (hN : N = l.length) (hi : i < N) :
    Calls Try.prog 35 #[.slice (some ⟨g, 0, none⟩) N cap, .int .i64 (i : Int), .int .i64 ((i + 1 : Nat) : Int)] w fun e w' => e = .returned (.slice (some ⟨g, 0, none⟩) (N - 1) cap) ∧ w'.ownsRow B 72 1 (.slice (some ⟨g, 0, none⟩) (N - 1) cap) (N - 1) ((l.eraseIdx i).map enP) ∧ Fr [g] w w' := by
  subst hN
  obtain ⟨i0, hi0, hz0, hz1, _⟩ := info_parts infoPP
  have hrow := h
  rcases h.2 with ⟨q, _⟩ | ⟨g', cp, cur, q, h0, hg, q1, q2, q3, q4⟩
  · cases q
  simp only [Value.slice.injEq, Option.some.injEq, Addr.mk.injEq, and_true, true_and] at q
  obtain ⟨rfl, rfl⟩ := q
  have hcm : cap ≤ 9223372036854775807 := by unfold maxLen at q2; omega
  have hH : Holds enP w g 0 l.toArray := fun j hj => by
    have hj' : j < l.length := by simpa using hj
    have hc := own_cell hrow rfl (show (l.map enP)[j]? = some (enP l[j]) by rw [List.getElem?_map, List.getElem?_eq_getElem hj']; rfl)
    rw [getElem!_pos _ j (by simpa using hj'), Nat.zero_add]
    refine ⟨by simpa using hc, froz_b' hg⟩
  have K := AnyE.slices_Delete laysDP enP enP_one none (fun w => by have := Try.zeroValue72 w; exact this) i0 hi0 hz1 g 0 cap i (i + 1) l.toArray w hH (by simpa using q1) hcm (by omega) (by rw [List.size_toArray]; omega)
  have e0 : l.toArray.size = l.length := by simp
  rw [e0] at K
  refine K.mono ?_
  rintro e w' ⟨rfl, q, rfl⟩
  have e1 : i + 1 - i = 1 := by omega
  rw [e1]
  have he : l.take i ++ l.drop (i + 1) = l.eraseIdx i := (List.eraseIdx_eq_take_drop_succ l i).symm
  have hel : (l.eraseIdx i).length = l.length - 1 := by rw [List.length_eraseIdx_of_lt hi]
  obtain ⟨D, hD⟩ : ∃ D, D = (l.toArray.toList.take i ++ l.toArray.toList.drop (i + 1) ++ List.replicate 1 (none : Option Nat)) := ⟨_, rfl⟩
  rw [← hD]
  have hD2 : D = l.eraseIdx i ++ [none] := by rw [hD]; simp [he]
  have hDl : D.length = l.length := by rw [hD2, List.length_append, hel]; simp; omega
  obtain ⟨cur2, hg2, hs2⟩ := putRow_blkP enP w g 0 q D.toArray hg
  have hH2 : Holds enP (putRow enP (Sort.ahead w q) g 0 D.toArray) g 0 D.toArray := holds_putRow _ _ _ _ _ _ (holds_ahead _ _ _ _ _ _ hH) (by simpa using hDl)
  refine ⟨rfl, ⟨by rw [List.length_map, hel, Nat.mul_one], Or.inr ⟨g, cap, cur2, rfl, h0, hg2, by omega, q2, by rw [hs2]; exact q3, ?_⟩⟩, fr_putRowP enP w g 0 q _⟩
  apply List.ext_getElem?
  intro j
  rw [Nat.mul_one]
  by_cases hj : j < l.length - 1
  · rw [List.getElem?_take_of_lt hj, Array.getElem?_toList]
    have hc := (hH2 j (by simp; omega)).1
    rw [getElem!_pos _ j (by simp; omega), Nat.zero_add] at hc
    have e2 := cell_blkP hg2 hc
    rw [e2, List.getElem?_map, List.getElem?_eq_getElem (by rw [hel]; exact hj)]
    simp only [Option.map_some, List.getElem_toArray, hD2]
    rw [List.getElem_append_left (by rw [hel]; exact hj)]
  · rw [List.getElem?_eq_none (by rw [List.length_take]; omega), List.getElem?_eq_none (by rw [List.length_map, hel]; omega)]
theorem net_poke {w : World} {nb : Nat} {gv gv' : Value} (h : w.heap[nb]? = some (.cells #[.bool true, gv] 61 (0, 0))) : (w.setCell ⟨nb, 1, none⟩ gv').heap[nb]? = some (.cells #[.bool true, gv'] 61 (0, 0)) := poke_b h gv'
set_option maxRecDepth 100000 in
set_option maxHeartbeats 1000000 in
theorem neTake_any {B nb i : Nat} {w : World} {gv : Value} {P : List Py} (h : NetS B w nb gv P) (hi : i < P.length) (hl : P.length ≤ 1048576) :
    Calls Try.prog 29 #[.pointer (some ⟨nb, 0, none⟩), .int .i64 (i : Int)] w fun e w' => ∃ gv', e = .returned (.tuple #[]) ∧ NetS B w' nb gv' (P.eraseIdx i) ∧ gv'.ownBlock = gv.ownBlock ∧ Fr (nsZ nb gv) w w' := by
  obtain ⟨g, c, hv, _, _, _⟩ := own_open h.row (by omega)
  subst hv
  have hm : (P.map pyV) = ((P.map (fun q => some q.b)).map enP) := by rw [List.map_map]; rfl
  have hnl : (P.map (fun q => some q.b)).length = P.length := by simp
  have hrow : w.ownsRow B 72 1 (.slice (some ⟨g, 0, none⟩) P.length c) (P.map (fun q => some q.b)).length ((P.map (fun q => some q.b)).map enP) := by rw [hnl, ← hm]; exact h.row
  have hne : nb ≠ g := fun q => h.ne (by rw [q]; rfl)
  have KD := hide (delP_any (i := i) hrow hnl.symm hi)
  have hc : w.cell? ⟨nb, 1, none⟩ = some (.slice (some ⟨g, 0, none⟩) P.length c) := blk_c h.box rfl
  have e1 : (P.map (fun q => some q.b)).eraseIdx i = (P.eraseIdx i).map (fun q => some q.b) := by rw [List.eraseIdx_eq_take_drop_succ, List.eraseIdx_eq_take_drop_succ, List.map_append, List.map_take, List.map_drop]
  have hel : (P.eraseIdx i).length = P.length - 1 := by rw [List.length_eraseIdx_of_lt hi]
  have HH := hide (And.intro h (And.intro e1 hel))
  have hbox := h.box
  obtain ⟨N, hN⟩ : ∃ N, N = P.length := ⟨_, rfl⟩
  rw [← hN] at KD hc hl hi hbox
  have HN := hide hN
  have HBX := hide hbox
  have hwr : IntKind.i64.wrap ((i : Int) + 1) = ((i + 1 : Nat) : Int) := by rw [IntKind.wrap_i64]; omega
  have hne2 : ¬ nb = g := hne
  clear h hm hnl hrow e1 hel hN hi hl hbox hne
  go_enter Try.func29, Try.ntmps29
  go_wp2_with fail
  refine (unhide KD).mono ?_
  rintro e w1 ⟨rfl, hrow, hfr⟩
  have hn := lt_of_blk (unhide HBX)
  have hbx : w1.heap[nb]? = some (.cells #[.bool true, .slice (some ⟨g, 0, none⟩) N c] 61 (0, 0)) := by
    rw [hfr.block nb hn (by simpa using hne2)]; exact unhide HBX
  have d1 : w1.cell? ⟨nb, 1, none⟩ = some (.slice (some ⟨g, 0, none⟩) N c) := blk_c hbx rfl
  have d2 := fun j => froz_b' (i := j) hbx
  have HF : Hid (NetS B (w1.setCell ⟨nb, 1, none⟩ (.slice (some ⟨g, 0, none⟩) (N - 1) c)) nb (.slice (some ⟨g, 0, none⟩) (N - 1) c) (P.eraseIdx i) ∧ Fr (nsZ nb (.slice (some ⟨g, 0, none⟩) N c)) w (w1.setCell ⟨nb, 1, none⟩ (.slice (some ⟨g, 0, none⟩) (N - 1) c))) := by
    obtain ⟨h, e1, hel⟩ := unhide HH
    rw [e1, List.map_map] at hrow
    have hF := (hfr.mono (T := nsZ nb (.slice (some ⟨g, 0, none⟩) N c)) (fun x _ hx => by simp at hx; subst hx; simp [nsZ, Value.ownBlock])).setCell (a := ⟨nb, 1, none⟩) (Or.inr (by simp [nsZ])) (.slice (some ⟨g, 0, none⟩) (N - 1) c)
    refine ⟨h.turn (net_poke hbx) ?_ (Or.inl rfl) (fun k hk h1 h2 => hF.block k hk (nsZ_not h1 h2)) (fun q hq => Or.inl (List.mem_of_mem_eraseIdx hq)), hF⟩
    rw [hel, ← unhide HN]
    exact ne_blocks hrow (fun k hk => other_c (by intro c; rw [c] at hk; cases hk; exact hne2 rfl))
  clear KD hrow hfr hbx HH HN HBX
  go_wp2_with fail
  go_end0
  exact ⟨_, rfl, (unhide HF).1, rfl, (unhide HF).2⟩
end Go.Proofs.Ytndgdpefoidfbaa

/- Send. -/
namespace Go.Proofs.Ytndgdpefoidfbaa
open Go.RowKit Go.Maps
def SendR (B nb : Nat) (w w' : World) (gv : Value) (P : List Py) (p : Pt) (e : Ending) : Prop := ∃ er gv' P', e = .returned (.int .i64 er) ∧ Hid (NetS B w' nb gv' P' ∧ Fr (nsZ nb gv) w w' ∧ (gv'.ownBlock = gv.ownBlock ∨ ∀ k, gv'.ownBlock = some k → w.heap.size ≤ k)) ∧
  ((¬ TakenP p ∧ er = 1 ∧ P' = P) ∨ (TakenP p ∧ P.length = 4096 ∧ er = 3 ∧ P' = P) ∨ (TakenP p ∧ P.length ≠ 4096 ∧ er = 0 ∧ ∃ q : Py, q.p = p ∧ P' = P ++ [q] ∧ ∀ k ∈ pyZ q, w.heap.size ≤ k))
theorem NetS.more {B nb : Nat} {V W : World} {o : Obj} {gv v' : Value} {P : List Py} {q : Py} (h : NetS B V nb gv P) (hq : PyA B V q) (hap : ∀ k ∈ pyZ q, k ≠ nb ∧ gv.ownBlock ≠ some k)
    (hown : W.ownsRow B 72 1 v' (P.length + 1) (P.map pyV ++ [pyV q])) (hgrow : (V.alloc o).grownBy W gv.ownBlock) (hpl : v'.ownBlock = gv.ownBlock ∨ v'.ownBlock = some (V.heap.size + 1)) :
    NetS B (W.setCell ⟨nb, 1, none⟩ v') nb v' (P ++ [q]) ∧ Fr (nsZ nb gv) V (W.setCell ⟨nb, 1, none⟩ v') ∧ (v'.ownBlock = gv.ownBlock ∨ ∀ k, v'.ownBlock = some k → V.heap.size ≤ k) ∧ W.heap[nb]? = some (.cells #[.bool true, gv] 61 (0, 0)) := by
  have hsz : (V.alloc o).heap.size = V.heap.size + 1 := by simp
  have kept : ∀ k, k < V.heap.size → gv.ownBlock ≠ some k → W.heap[k]? = V.heap[k]? := fun k hk hn => by
    rw [hgrow.block k (by rw [hsz]; omega) (fun c => hn c.symm), (bwA V o).block k hk]
  have hn := lt_of_blk h.box
  have hbx : W.heap[nb]? = some (.cells #[.bool true, gv] 61 (0, 0)) := by rw [kept nb hn h.ne]; exact h.box
  have hpl' : v'.ownBlock = gv.ownBlock ∨ ∀ k, v'.ownBlock = some k → V.heap.size ≤ k := by
    rcases hpl with e | e
    · exact Or.inl e
    · refine Or.inr (fun k hk => ?_)
      rw [e] at hk
      simp only [Option.some.injEq] at hk; omega
  have hvn : v'.ownBlock ≠ some nb := by
    rcases hpl' with e | e
    · rw [e]; exact h.ne
    · intro c; have := e nb c; omega
  have hfr : Fr (nsZ nb gv) V (W.setCell ⟨nb, 1, none⟩ v') := by
    have f0 := (Fr.refl (nsZ nb gv) V).below (bwA V o)
    have f1 : Fr (nsZ nb gv) (V.alloc o) W := ⟨hgrow.os, hgrow.tape, hgrow.output, hgrow.size, fun k hk hm => hgrow.block k hk (fun c => hm (by unfold nsZ; rw [← c]; simp))⟩
    exact (f0.tr f1).setCell (a := ⟨nb, 1, none⟩) (Or.inr (by simp [nsZ])) v'
  refine ⟨h.turn (net_poke hbx) ?_ hpl' (fun k hk h1 h2 => hfr.block k hk (nsZ_not h1 h2)) (fun q' hq' => ?_), hfr, hpl', hbx⟩
  · rw [List.length_append, List.map_append]
    exact ne_blocks hown (fun k hk => other_c (by intro c; rw [c] at hk; exact hvn hk))
  · rcases List.mem_append.1 hq' with c | c
    · exact Or.inl c
    · obtain rfl : q' = q := by simpa using c
      refine Or.inr ⟨hq.keep (fun k hk => hfr.block k (hq.lt k hk).2 (nsZ_not (hap k hk).1 (hap k hk).2)), fun k hk => ⟨(hap k hk).1, ?_⟩⟩
      rcases hpl' with e | e
      · rw [e]; exact (hap k hk).2
      · intro c; have := e k c; have := (hq.lt k hk).2; omega
theorem infoPkZ : (Try.prog.info? 44).map (fun i => (i.zero, i.size, i.bytes)) = some (some (.agg pt0), 57, 632) := by kernel_rfl
set_option maxRecDepth 100000 in
set_option maxHeartbeats 2000000 in
theorem neSend_any {B nb : Nat} {w : World} {gv : Value} {P : List Py} {p : Pt} {y : Fx} (h : NetS B w nb gv P) (hf : FdR w p.fd y) (hs : SmF p.fd) (hl : P.length ≤ 1048576) :
    Calls Try.prog 12 #[.pointer (some ⟨nb, 0, none⟩), .agg (ptC p y).toArray] w fun e w' => SendR B nb w w' gv P p e := by
  obtain ⟨CS, hCS⟩ : ∃ z, z = ptC p y := ⟨_, rfl⟩
  rw [← hCS]
  obtain ⟨w0, hw0⟩ : ∃ w0, w0 = w.alloc (.cells CS.toArray 44) := ⟨_, rfl⟩
  have bl : Below w.heap.size w w0 := by rw [hw0]; exact bwA _ _
  have kk : w0.heap[w.heap.size]? = some (.cells CS.toArray 44 (0, 0)) := by rw [hw0]; exact heap_alloc_new _ _
  have KM : Hid (Calls Try.prog 24 #[.pointer (some ⟨nb, 0, none⟩)] w0 fun e w' => e = .returned (.bool false) ∧ w' = w0) := neMissing_is (h.bw bl)
  obtain ⟨tk, htk⟩ := ex_bool (TakenP p)
  have K2 : Hid (∀ W, Calls Try.prog 25 #[.agg CS.toArray] W fun e w' => e = .returned (.bool tk) ∧ Below W.heap.size W w') := fun W => by rw [hCS]; exact taken_any p y htk
  have K3 : Hid (∀ W, Below w0.heap.size w0 W → Calls Try.prog 26 #[.pointer (some ⟨nb, 0, none⟩)] W fun e w' => e = .returned (.bool (decide (P.length = 4096))) ∧ w' = W) := fun W hW => neFull_any ((h.bw bl).bw hW)
  have K4 : Hid (∀ W, Below w0.heap.size w0 W → Calls Try.prog 27 #[.agg CS.toArray] W fun e w' => ∃ (y' : Fx) (cs' : List Value), e = .returned (.agg cs'.toArray) ∧ Hid (OF W.heap.size w' p.fd y' ∧ ptC p y' = cs' ∧ cs'.length = 57 ∧ (∀ u ∈ cs', u.oneCell' = true)) ∧ Below W.heap.size W w') := fun W hW => by
    rw [hCS]
    refine Calls.mono (frPacket_any (hf.bw (bw_tr bl hW)) hs) ?_
    rintro e w' ⟨y', rfl, h1, h2⟩
    exact ⟨y', _, rfl, ⟨h1, rfl, rfl, pt_one (h1.rd hs)⟩, h2⟩
  have HC : Hid (∀ W, Below w0.heap.size w0 W → W.heap[w.heap.size]? = some (.cells CS.toArray 44 (0, 0))) := fun W hW => kept_b kk (lt_of_blk kk) hW
  have HI : Hid ((Try.prog.info? 44).map (·.size) = some CS.toArray.size) := by rw [hCS, List.size_toArray]; exact infoPkS2
  have HH := hide (And.intro h (And.intro bl (And.intro hs htk)))
  have HW := hide hw0
  obtain ⟨N, hN⟩ : ∃ N, N = P.length := ⟨_, rfl⟩
  rw [← hN] at K3 hl
  have HN := hide hN
  clear h hf hs hCS hw0 bl kk htk hN
  go_enter Try.func12, Try.ntmps12
  go_upto_region 1 with fail
  rw [← unhide HW]
  go_wp2_with fail
  refine (unhide KM).mono ?_
  rintro e w1 ⟨rfl, rfl⟩
  have B0 := Below.refl w1.heap.size w1
  have HC1 := hide (unhide HC w1 B0)
  have K21 := hide (unhide K2 w1)
  clear KM K2
  go_wp2_with (refine wpList_load_row rfl 44 (.tmp 3) rfl w.heap.size rfl 44 CS.toArray (0, 0) _ (unhide HC1) Try.underlying44 rfl (unhide HI) ?_)
  refine (unhide K21).mono ?_
  rintro e w2 ⟨rfl, b2⟩
  have KF := hide (unhide K3 w2 b2)
  have KP := unhide K4
  have HB2 := hide b2
  clear K21 HC1 K3 K4 b2 B0
  cases tk with
  | false =>
    have HR : Hid (SendR B nb w w2 gv P p (.returned (.int .i64 1))) := by
      obtain ⟨h, bl, hs, htk⟩ := unhide HH
      have b := bw_tr bl (unhide HB2)
      exact ⟨1, gv, P, rfl, ⟨h.bw b, (Fr.refl _ w).below b, Or.inl rfl⟩, Or.inl ⟨fun c => (by have := htk.2 c; cases this), rfl, rfl⟩⟩
    clear KF KP HH HB2
    go_wp2_with fail
    go_ret
    exact unhide HR
  | true =>
    go_wp2_with fail
    refine (unhide KF).mono ?_
    rintro e w3 ⟨rfl, rfl⟩
    by_cases hN : N = 4096
    · have HR : Hid (SendR B nb w w3 gv P p (.returned (.int .i64 3))) := by
        obtain ⟨h, bl, hs, htk⟩ := unhide HH
        have b := bw_tr bl (unhide HB2)
        exact ⟨3, gv, P, rfl, ⟨h.bw b, (Fr.refl _ w).below b, Or.inl rfl⟩, Or.inr (Or.inl ⟨htk.1 trivial, by rw [← unhide HN]; exact hN, rfl, rfl⟩)⟩
      rw [decide_eq_true hN]
      clear KF KP HH HB2 hN
      go_wp2_with fail
      go_ret
      exact unhide HR
    · rw [decide_eq_false hN]
      have HC2 := hide (unhide HC w3 (unhide HB2))
      have KP2 := hide (KP w3 (unhide HB2))
      clear KF KP
      go_wp2_with (refine wpList_load_row rfl 44 (.tmp 3) rfl w.heap.size rfl 44 CS.toArray (0, 0) _ (unhide HC2) Try.underlying44 rfl (unhide HI) ?_)
      refine (unhide KP2).mono ?_
      rintro e w4 ⟨y', cs', rfl, hO, b4⟩
      have HB4 := hide (bw_tr (unhide HB2) b4)
      have HB34 := hide b4
      have HST : Hid ((Try.prog.info? 44).map (·.size) = some cs'.toArray.size ∧ pt0.size = cs'.toArray.size ∧ cs'.toArray.all (·.oneCell') = true) := by
        obtain ⟨_, _, o3, o4⟩ := unhide hO
        refine ⟨by rw [List.size_toArray, o3]; exact infoPkS2, (by have q : cs'.toArray.size = 57 := (by rw [List.size_toArray, o3]); rw [q]; rfl), all_oneCell_toArray o4⟩
      clear KP2 HC2 b4
      go_upto_region 8 with (refine wpList_store_row rfl 44 (.tmp 5) (.tmp 14) rfl w4.heap.size cs'.toArray rfl rfl 44 pt0 (heap_alloc_new _ _) (unhide HST).1 (unhide HST).2.1 (unhide HST).2.2 ?_)
      generalize hV : World.setRow _ _ _ = V
      obtain ⟨q, hq⟩ : ∃ q : Py, q = ⟨w4.heap.size, p, y'⟩ := ⟨_, rfl⟩
      have HV : Hid (NetS B V nb gv P ∧ PyA B V q ∧ (∀ k ∈ pyZ q, k ≠ nb ∧ gv.ownBlock ≠ some k) ∧ Fr (nsZ nb gv) w V ∧ ∀ k ∈ pyZ q, w.heap.size ≤ k) := by
        obtain ⟨h, bl, hs, htk⟩ := unhide HH
        obtain ⟨o1, o2, o3, o4⟩ := unhide hO
        have b4w := bw_tr bl (unhide HB4)
        have k4 := heap_alloc_new w4 (.cells pt0 44)
        have kV : V.heap[w4.heap.size]? = some (.cells (ptC p y').toArray 44 (0, 0)) := by rw [o2, ← hV]; exact setRow_heap _ _ _ _ _ _ k4
        have b5 : Below w4.heap.size w4 V := by rw [← hV]; exact below_setRow' (bwA _ _) (Nat.le_refl _) _
        have bV := bw_tr b4w b5
        have hnlt := lt_of_blk h.box
        have hs3 : w.heap.size ≤ w3.heap.size := Nat.le_trans bl.size (unhide HB2).size
        have hs4 : w3.heap.size ≤ w4.heap.size := by
          rcases Nat.lt_or_ge w4.heap.size w3.heap.size with c | c
          · have := (unhide HB34).size; omega
          · exact c
        have hB : B ≤ w4.heap.size := by have := h.hb; omega
        have hlt : ∀ k ∈ pyZ q, w.heap.size ≤ k := fun k hk => by
          rw [hq] at hk
          rcases List.mem_cons.1 hk with c | c
          · subst c; show w.heap.size ≤ w4.heap.size; omega
          · have := (OF.lt o1 k c).1; omega
        refine ⟨h.bw bV, ?_, fun k hk => ?_, (Fr.refl _ w).below bV, hlt⟩
        · rw [hq]
          exact ⟨hB, kV, OF.keep (OF.mono o1 (by have := h.hb; omega)) (fun k hk => b5.block k (OF.lt o1 k hk).2), hs⟩
        · have := hlt k hk
          refine ⟨by omega, fun c => ?_⟩
          have := (World.ownsRow.lt h.row k c).2
          omega
      have HQ := hide hq
      obtain ⟨a, cap, hgv⟩ := (unhide HV).1.len
      have c1 : V.cell? ⟨nb, 1, none⟩ = some (.slice a N cap) := by rw [unhide HN, ← hgv]; exact blk_c (unhide HV).1.box rfl
      have hrow : V.ownsRow B 72 1 (.slice a N cap) N (P.map pyV) := by rw [unhide HN, ← hgv]; exact (unhide HV).1.row
      have hpq : Hid (pyV q = .pointer (some ⟨w4.heap.size, 0, none⟩)) := by rw [hq]; rfl
      have hBV : B ≤ V.heap.size := by have := (unhide HV).1.hb; have := lt_of_blk (unhide HV).1.box; omega
      obtain ⟨i0, hi0, hz0, hz1, hz2⟩ := info_parts infoPP
      have HGV := hide hgv
      clear hV hq hgv hO HST HB2 HB4 HI HC HW
      go_wp2_with (at_builtin; refine wpList_append_own_at _ rfl (.tmp 19) (.tmp 20) 59 rfl B 72 i0 (.pointer none) 1 8 Try.underlying59 hi0 hz0 hz1 hz2 rfl (by decide) _ N _ rfl (World.ownsRow.alloc hrow _) ⟨V.heap.size, 0, none⟩ 1 1 [_] rfl rfl (cell_one_new _ _ _) ?c2 ?c3 ?c4 ?c5 ?nx)
      case c2 => intro u hu; simp at hu; subst hu; rfl
      case c3 => unfold maxLen; omega
      case c4 => omega
      case c5 => simp; omega
      case nx =>
        intro v' W hown hgrow _ hpl
        have HF : Hid (SendR B nb w (W.setCell ⟨nb, 1, none⟩ v') gv P p (.returned (.int .i64 0)) ∧ W.heap[nb]? = some (.cells #[.bool true, gv] 61 (0, 0))) := by
          obtain ⟨h, h1, h2, h3, h4⟩ := unhide HV
          rw [← unhide hpq, unhide HN] at hown
          have hgv := unhide HGV
          rw [unhide HN, ← hgv] at hgrow hpl
          obtain ⟨m1, m2, m3, m4⟩ := h.more h1 h2 hown hgrow hpl
          refine ⟨⟨0, v', P ++ [q], rfl, ⟨m1, h3.tr m2, ?_⟩, Or.inr (Or.inr ⟨(unhide HH).2.2.2.1 trivial, by rw [← unhide HN]; exact hN, rfl, q, by rw [unhide HQ], rfl, h4⟩)⟩, m4⟩
          rcases m3 with e | e
          · exact Or.inl e
          · exact Or.inr (fun k hk => Nat.le_trans h3.size (e k hk))
        have d1 : W.cell? ⟨nb, 1, none⟩ = some gv := blk_c (unhide HF).2 rfl
        have d2 := fun j => froz_b' (i := j) (unhide HF).2
        obtain ⟨av, nv, cv, rfl⟩ : ∃ av nv cv, v' = .slice av nv cv := by obtain ⟨x1, x2, x3⟩ := own_slice hown; exact ⟨_, _, _, x3⟩
        rw [unhide HGV] at d1
        clear hown hgrow hpl hrow HV HH HN hpq HQ c1
        go_wp2_with fail
        go_ret
        exact (unhide HF).1
end Go.Proofs.Ytndgdpefoidfbaa
