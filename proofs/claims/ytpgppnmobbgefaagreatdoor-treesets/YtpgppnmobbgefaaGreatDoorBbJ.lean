/- Texts joined: BoKNumber BoKNode BoT. -/
import Derived.Test.YtpgppnmobbgefaaGreatDoorBbF
import Derived.Test.YtpgppnmobbgefaaGreatDoorBbI
/- The contract of keepNumber of a Book. -/
namespace Go.Proofs.YtpgppnmobbgefaaGreatDoor
open Go.RowKit Go.Maps

theorem Tryz.infoheldNumber : (Tryz.prog.info? 128).map (fun i => (i.zero, i.size, i.bytes)) = some (some (.agg #[.slice none 0 0, .int .i64 0]), 2, 32) := by kernel_rfl
set_option maxRecDepth 100000 in
set_option maxHeartbeats 4000000 in
theorem keepNumber_b (B b n : Nat) (F : Nat → Value) (es : List Ent) (X : Nat → List Value) (p : Option Addr) (m cap : Nat) (w : World) (hb : w.heap[b]? = some (.cells (bookF (n : Int) F) 70 (0, 0))) (h : Ke kdNumber B w (F 2) es X) (hBb : B ≤ b) (hB : B ≤ w.heap.size) (hN : es.length ≤ 1048576) (hn : n ≤ 1048576) :
    Calls Tryz.prog 54 #[.pointer (some ⟨b, 0, none⟩), .slice p m cap] w fun e w' => e = .returned (.tuple #[]) ∧ ∃ lv', w'.heap[b]? = some (.cells (bookF ((n + 1 : Nat) : Int) (updF F 2 lv')) 70 (0, 0)) ∧ w'.ownsRow B 128 2 lv' (es ++ [Ent.mk (.slice p m cap) n m]).length (helE (es ++ [Ent.mk (.slice p m cap) n m])) ∧ Tf [70, 128] B w w' := by
  obtain ⟨i0, hi, hz0, hz1, hz2⟩ := info_parts Tryz.infoheldNumber
  have c0 : w.cell? ⟨b, 0, none⟩ = some (.int .i64 (n : Int)) := cell_of_blk hb (bookF_zero _ _)
  have c2 := book_cell hb (k := 2) (by decide) (by decide)
  have hbw := lt_of_blk hb
  have hmx : es.length + 1 ≤ maxLen := by unfold maxLen; omega
  have hby : (es.length + 1) * 32 ≤ 140737488355328 := by omega
  have hone : ∀ u ∈ [Value.slice p m cap, .int .i64 (n : Int)], u.oneCell' = true := by
    intro u hu
    simp only [List.mem_cons, List.not_mem_nil, or_false] at hu
    rcases hu with rfl | rfl <;> rfl
  have h0 : Fr [] w (w.drew.alloc (.cells #[.slice p m cap, .int .i64 (n : Int)] 128)) := ((Fr.refl [] w).drew).alloc _
  have HM : Hid (es.length + 1 ≤ maxLen ∧ (es.length + 1) * 32 ≤ 140737488355328 ∧ (∀ u ∈ [Value.slice p m cap, .int .i64 (n : Int)], u.oneCell' = true) ∧ w.drew.ownsRow B 128 2 (F 2) es.length (helE es)) := ⟨hmx, hby, hone, h.own.drew⟩
  have HT : Hid (∀ (lv' : Value) (w1 : World), w1.ownsRow B 128 2 lv' (es.length + 1) (helE es ++ [.slice p m cap, .int .i64 (n : Int)]) → (w.drew.alloc (.cells #[.slice p m cap, .int .i64 (n : Int)] 128)).grownBy w1 (F 2).ownBlock → (lv'.ownBlock = (F 2).ownBlock ∨ lv'.ownBlock = some (w.drew.alloc (.cells #[.slice p m cap, .int .i64 (n : Int)] 128)).heap.size) → _) := fun lv' w1 ho hg hat => h.kept (k := 2) hb (by decide) hBb hB (by decide) (by decide) h0 ho hg hat
  have c2a : (w.alloc (.cells #[.slice p m cap, .int .i64 (n : Int)] 128)).cell? ⟨b, 2, none⟩ = some (F 2) := by
    rw [World.cell?_of_block (w := w) (Below.heap_alloc _ _ _ hbw)]; exact c2
  have hnI : (n : Int) ≤ 1048576 := by omega
  have HBw := hide hB
  clear hmx hby hone h0 h hbw hb hN hn hBb hB
  generalize hlv : F 2 = lv at *
  clear hlv
  go_enter Tryz.func54, Tryz.ntmps54
  go_wp2_with fail
  go_region_law (refine step_app rfl (.tmp 8) (.tmp 15) 36 rfl B 128 i0 (.agg #[.slice none 0 0, .int .i64 0]) 2 32 Tryz.underlying36 hi hz0 hz1 hz2 rfl (by decide) lv es.length (helE es) (by simp [Act.eval]) ((unhide HM).2.2.2.alloc _) ⟨w.heap.size, 0, none⟩ 1 1 [.slice p m cap, .int .i64 (n : Int)] (by simp [Act.eval]) rfl (cells_newB2 w.drew _ _ _) (unhide HM).2.2.1 (unhide HM).1 (unhide HM).2.1 (by have := unhide HBw; simp; omega) ?_; intro v' w1 hown' hgrow hat; obtain ⟨k1, k2, k3, k4, k5, k6, k7⟩ := unhide HT v' w1 hown' hgrow hat; obtain ⟨g, cp, rfl⟩ := row_formB hown')
  all_goals
    have HZ := hide (And.intro k1 (And.intro (k2 m) k3))
    clear k1 k2 k3
    go_wp2_with fail
  all_goals
    go_end0
    exact ⟨rfl, _, (unhide HZ).1, (unhide HZ).2.1, (unhide HZ).2.2⟩
end Go.Proofs.YtpgppnmobbgefaaGreatDoor

/- The contract of keepNode of a Book. -/
namespace Go.Proofs.YtpgppnmobbgefaaGreatDoor
open Go.RowKit Go.Maps

theorem Tryz.infoheldNode : (Tryz.prog.info? 240).map (fun i => (i.zero, i.size, i.bytes)) = some (some (.agg #[.slice none 0 0, .int .i64 0]), 2, 32) := by kernel_rfl
set_option maxRecDepth 100000 in
set_option maxHeartbeats 4000000 in
theorem keepNode_b (B b n : Nat) (F : Nat → Value) (es : List Ent) (X : Nat → List Value) (p : Option Addr) (m cap : Nat) (w : World) (hb : w.heap[b]? = some (.cells (bookF (n : Int) F) 70 (0, 0))) (h : Ke kdNode B w (F 19) es X) (hBb : B ≤ b) (hB : B ≤ w.heap.size) (hN : es.length ≤ 1048576) (hn : n ≤ 1048576) :
    Calls Tryz.prog 261 #[.pointer (some ⟨b, 0, none⟩), .slice p m cap] w fun e w' => e = .returned (.tuple #[]) ∧ ∃ lv', w'.heap[b]? = some (.cells (bookF ((n + 1 : Nat) : Int) (updF F 19 lv')) 70 (0, 0)) ∧ w'.ownsRow B 240 2 lv' (es ++ [Ent.mk (.slice p m cap) n m]).length (helE (es ++ [Ent.mk (.slice p m cap) n m])) ∧ Tf [70, 240] B w w' := by
  obtain ⟨i0, hi, hz0, hz1, hz2⟩ := info_parts Tryz.infoheldNode
  have c0 : w.cell? ⟨b, 0, none⟩ = some (.int .i64 (n : Int)) := cell_of_blk hb (bookF_zero _ _)
  have c2 := book_cell hb (k := 19) (by decide) (by decide)
  have hbw := lt_of_blk hb
  have hmx : es.length + 1 ≤ maxLen := by unfold maxLen; omega
  have hby : (es.length + 1) * 32 ≤ 140737488355328 := by omega
  have hone : ∀ u ∈ [Value.slice p m cap, .int .i64 (n : Int)], u.oneCell' = true := by
    intro u hu
    simp only [List.mem_cons, List.not_mem_nil, or_false] at hu
    rcases hu with rfl | rfl <;> rfl
  have h0 : Fr [] w (w.drew.alloc (.cells #[.slice p m cap, .int .i64 (n : Int)] 240)) := ((Fr.refl [] w).drew).alloc _
  have HM : Hid (es.length + 1 ≤ maxLen ∧ (es.length + 1) * 32 ≤ 140737488355328 ∧ (∀ u ∈ [Value.slice p m cap, .int .i64 (n : Int)], u.oneCell' = true) ∧ w.drew.ownsRow B 240 2 (F 19) es.length (helE es)) := ⟨hmx, hby, hone, h.own.drew⟩
  have HT : Hid (∀ (lv' : Value) (w1 : World), w1.ownsRow B 240 2 lv' (es.length + 1) (helE es ++ [.slice p m cap, .int .i64 (n : Int)]) → (w.drew.alloc (.cells #[.slice p m cap, .int .i64 (n : Int)] 240)).grownBy w1 (F 19).ownBlock → (lv'.ownBlock = (F 19).ownBlock ∨ lv'.ownBlock = some (w.drew.alloc (.cells #[.slice p m cap, .int .i64 (n : Int)] 240)).heap.size) → _) := fun lv' w1 ho hg hat => h.kept (k := 19) hb (by decide) hBb hB (by decide) (by decide) h0 ho hg hat
  have c2a : (w.alloc (.cells #[.slice p m cap, .int .i64 (n : Int)] 240)).cell? ⟨b, 19, none⟩ = some (F 19) := by
    rw [World.cell?_of_block (w := w) (Below.heap_alloc _ _ _ hbw)]; exact c2
  have hnI : (n : Int) ≤ 1048576 := by omega
  have HBw := hide hB
  clear hmx hby hone h0 h hbw hb hN hn hBb hB
  generalize hlv : F 19 = lv at *
  clear hlv
  go_enter Tryz.func261, Tryz.ntmps261
  go_wp2_with fail
  go_region_law (refine step_app rfl (.tmp 8) (.tmp 15) 53 rfl B 240 i0 (.agg #[.slice none 0 0, .int .i64 0]) 2 32 Tryz.underlying53 hi hz0 hz1 hz2 rfl (by decide) lv es.length (helE es) (by simp [Act.eval]) ((unhide HM).2.2.2.alloc _) ⟨w.heap.size, 0, none⟩ 1 1 [.slice p m cap, .int .i64 (n : Int)] (by simp [Act.eval]) rfl (cells_newB2 w.drew _ _ _) (unhide HM).2.2.1 (unhide HM).1 (unhide HM).2.1 (by have := unhide HBw; simp; omega) ?_; intro v' w1 hown' hgrow hat; obtain ⟨k1, k2, k3, k4, k5, k6, k7⟩ := unhide HT v' w1 hown' hgrow hat; obtain ⟨g, cp, rfl⟩ := row_formB hown')
  all_goals
    have HZ := hide (And.intro k1 (And.intro (k2 m) k3))
    clear k1 k2 k3
    go_wp2_with fail
  all_goals
    go_end0
    exact ⟨rfl, _, (unhide HZ).1, (unhide HZ).2.1, (unhide HZ).2.2⟩
end Go.Proofs.YtpgppnmobbgefaaGreatDoor

/- A Book that keeps lists of numbers and of nodes: Numbers, Node, Nodes, Tree. -/
namespace Go.Proofs.YtpgppnmobbgefaaGreatDoor
open Go.RowKit Go.Maps

/-- A Book at the block b, with so many lists, all of which lie below H. -/
structure Bo (B : Nat) (w : World) (b n H : Nat) (F : Nat → Value) (eN eD : List Ent) (XN XD : Nat → List Value) : Prop where
  blk : w.heap[b]? = some (.cells (bookF (n : Int) F) 70 (0, 0))
  low : B ≤ b
  N : Ke kdNumber B w (F 2) eN XN
  D : Ke kdNode B w (F 19) eD XD
  nil : ∀ k, 0 < k → k < 35 → k ≠ 2 → k ≠ 19 → F k = .slice none 0 0
  lN : eN.length ≤ n
  lD : eD.length ≤ n
  cN : ∀ x ∈ eN, x.n ≤ n ∧ x.m ≤ 1048576 ∧ ∀ k, x.v.ownBlock = some k → k < H
  cD : ∀ x ∈ eD, x.n ≤ n ∧ x.m ≤ 1048576 ∧ ∀ k, x.v.ownBlock = some k → k < H
theorem Bo.bw {B : Nat} {w w' : World} {b n H : Nat} {F : Nat → Value} {eN eD : List Ent} {XN XD : Nat → List Value} (h : Bo B w b n H F eN eD XN XD) (hb : Below w.heap.size w w') : Bo B w' b n H F eN eD XN XD :=
  ⟨by rw [hb.block b (lt_of_blk h.blk)]; exact h.blk, h.low, h.N.bw hb, h.D.bw hb, h.nil, h.lN, h.lD, h.cN, h.cD⟩
theorem Bo.up {B : Nat} {w : World} {b n H H' : Nat} {F : Nat → Value} {eN eD : List Ent} {XN XD : Nat → List Value} (h : Bo B w b n H F eN eD XN XD) (hH : H ≤ H') : Bo B w b n H' F eN eD XN XD :=
  ⟨h.blk, h.low, h.N, h.D, h.nil, h.lN, h.lD, fun x hx => ⟨(h.cN x hx).1, (h.cN x hx).2.1, fun k hk => Nat.lt_of_lt_of_le ((h.cN x hx).2.2 k hk) hH⟩, fun x hx => ⟨(h.cD x hx).1, (h.cD x hx).2.1, fun k hk => Nat.lt_of_lt_of_le ((h.cD x hx).2.2 k hk) hH⟩⟩
theorem Bo.start {B : Nat} {w : World} {b : Nat} (hb : w.heap[b]? = some (.cells (bookF 0 (fun _ => .slice none 0 0)) 70 (0, 0))) (hB : B ≤ b) (H : Nat) : Bo B w b 0 H (fun _ => .slice none 0 0) [] [] (fun _ => []) (fun _ => []) :=
  ⟨hb, hB, Ke.nil _ _ _, Ke.nil _ _ _, fun _ _ _ _ _ => rfl, by simp, by simp, by simp, by simp⟩
theorem OTr.tf {ts : List TypeId} {B B' : Nat} {w w' : World} {v : Value} {T : List Nd} {us : List Value} (h : OTr B w v T us) (ht : Tf ts B' w w') (h1 : 95 ∉ ts) (h2 : 3 ∉ ts) : OTr B w' v T us :=
  ⟨h.ul, ht.own h.row h1, fun i n u hn hu => ht.own (h.un i n u hn hu) h2, h.apart⟩
set_option maxHeartbeats 1000000 in
theorem numbers_b (B b n H : Nat) (F : Nat → Value) (eN eD : List Ent) (XN XD : Nat → List Value) (p : Option Addr) (l : List Int) (cap : Nat) (w : World) (h : Bo B w b n H F eN eD XN XD) (hB : B ≤ w.heap.size) (hn : n ≤ 1048575) (hl : l.length ≤ 1048576)
    (hv : Ints B w (.slice p l.length cap) l) (hH : ∀ k, (Value.slice p l.length cap).ownBlock = some k → k < H) (hap : ∀ (i : Nat) (y : Ent) (k : Nat), eN[i]? = some y → y.v.ownBlock = some k → (Value.slice p l.length cap).ownBlock ≠ some k) :
    Calls Tryz.prog 20 #[.pointer (some ⟨b, 0, none⟩), .slice p l.length cap] w fun e w' => e = .returned (.tuple #[]) ∧ (∃ F' XN', Bo B w' b (n + 1) H F' (eN ++ [Ent.mk (.slice p l.length cap) n l.length]) eD XN' XD) ∧ Tf [70, 128] B w w' := by
  have K := hide (keepNumber_b B b n F eN XN p l.length cap w h.blk h.N h.low hB (by have := h.lN; omega) (by omega))
  have HF : Hid (∀ w' lv', w'.heap[b]? = some (.cells (bookF ((n + 1 : Nat) : Int) (updF F 2 lv')) 70 (0, 0)) → w'.ownsRow B 128 2 lv' (eN ++ [Ent.mk (.slice p l.length cap) n l.length]).length (helE (eN ++ [Ent.mk (.slice p l.length cap) n l.length])) → Tf [70, 128] B w w' → (∃ F' XN', Bo B w' b (n + 1) H F' (eN ++ [Ent.mk (.slice p l.length cap) n l.length]) eD XN' XD)) := fun w' lv' h1 h2 h3 => by
    have hsn := h.N.snoc (x := Ent.mk (.slice p l.length cap) n l.length) (xs := l.map I64) (T := 70) h3 (by decide) (by decide) h2 hv hap
    refine ⟨updF F 2 lv', _, h1, h.low, hsn, ?_, fun k k0 k35 k2 k19 => ?_, by have := h.lN; simp; omega, by have := h.lD; omega, fun x hx => ?_, fun x hx => ?_⟩
    · exact (h.D.tf h3 (by decide) (by decide))
    · have := h.nil k k0 k35 k2 k19
      simpa [updF, k2] using this
    · rcases List.mem_append.1 hx with q | q
      · have := h.cN x q; exact ⟨by omega, this.2.1, this.2.2⟩
      · simp at q; subst q; exact ⟨by simp, hl, hH⟩
    · have := h.cD x hx; exact ⟨by omega, this.2.1, this.2.2⟩
  clear h hv hH hap hl hn hB
  generalize l.length = L at *
  go_enter Tryz.func20, Tryz.ntmps20
  go_wp2_with fail
  refine (unhide K).mono ?_
  rintro e w1 ⟨rfl, lv', h1, h2, h3⟩
  have HZ := hide (And.intro (unhide HF w1 lv' h1 h2 h3) h3)
  clear h1 h2 h3
  go_wp2
  go_end0
  exact ⟨rfl, unhide HZ⟩
set_option maxHeartbeats 1000000 in
theorem bnode_b (B b n H : Nat) (F : Nat → Value) (eN eD : List Ent) (XN XD : Nat → List Value) (pb m ep : Int) (p : Option Addr) (l : List Int) (cap : Nat) (w : World) (h : Bo B w b n H F eN eD XN XD) (hB : B ≤ w.heap.size) (hn : n ≤ 1048575) (hl : l.length ≤ 1048576)
    (hv : Ints B w (.slice p l.length cap) l) (hH : ∀ k, (Value.slice p l.length cap).ownBlock = some k → k < H) (hap : ∀ (i : Nat) (y : Ent) (k : Nat), eN[i]? = some y → y.v.ownBlock = some k → (Value.slice p l.length cap).ownBlock ≠ some k) :
    Calls Tryz.prog 260 #[.pointer (some ⟨b, 0, none⟩), .agg #[.int .i64 pb, .int .i64 m, .int .i64 ep, .slice p l.length cap]] w fun e w' => e = .returned (.tuple #[]) ∧ (∃ F' XN', Bo B w' b (n + 1) H F' (eN ++ [Ent.mk (.slice p l.length cap) n l.length]) eD XN' XD) ∧ Tf [70, 128] B w w' := by
  obtain ⟨W0, hW0⟩ : ∃ W0, W0 = w.alloc (.cells #[.int .i64 pb, .int .i64 m, .int .i64 ep, .slice p l.length cap] 95) := ⟨_, rfl⟩
  have hb0 : Below w.heap.size w W0 := by rw [hW0]; exact bwA _ _
  have K := hide (numbers_b B b n H F eN eD XN XD p l cap W0 (h.bw hb0) (Nat.le_trans hB hb0.size) hn hl (hv.bw hb0) hH hap)
  have HT : Hid (Tf [70, 128] B w W0) := Tf.ofBelow hb0 hB
  have HW : Hid (W0 = w.alloc (.cells #[.int .i64 pb, .int .i64 m, .int .i64 ep, .slice p l.length cap] 95)) := hW0
  clear h hv hH hap hl hn hB hW0 hb0
  generalize l.length = L at *
  go_enter Tryz.func260, Tryz.ntmps260
  go_wp2_with fail
  rw [← unhide HW]
  refine (unhide K).mono ?_
  rintro e w1 ⟨rfl, h1, h3⟩
  have HZ := hide (And.intro h1 ((unhide HT).trans h3))
  clear h1 h3
  go_wp2
  go_end0
  exact ⟨rfl, unhide HZ⟩
set_option maxRecDepth 100000 in
set_option maxHeartbeats 4000000 in
theorem bnodes_b (B b n H H2 : Nat) (F : Nat → Value) (eN eD : List Ent) (XN XD : Nat → List Value) (v : Value) (T : List Nd) (us : List Value) (w : World) (h : Bo B w b n H F eN eD XN XD) (hB : B ≤ w.heap.size) (hBH : B ≤ H) (ho : OTr H w v T us) (hH2 : H ≤ H2) (hlt : ∀ k, v.ownBlock = some k → k < H2) (hltu : ∀ (i : Nat) (u : Value) (k : Nat), us[i]? = some u → u.ownBlock = some k → k < H2)
    (hn : n + T.length + 1 ≤ 1048576) (hu : ∀ x ∈ T, x.un.length ≤ 1048576) :
    Calls Tryz.prog 166 #[.pointer (some ⟨b, 0, none⟩), v] w fun e w' => e = .returned (.tuple #[]) ∧ (∃ F' eN' eD' XN' XD', Bo B w' b (n + T.length + 1) H2 F' eN' eD' XN' XD') ∧ Tf [70, 128, 240] B w w' := by
  obtain ⟨a, c, rfl⟩ := own_slice ho.row
  have HI : Hid (∀ i, i < T.length → ∃ g pb m ep up ul uc, a = some ⟨g, 0, none⟩ ∧ us[i]? = some (.slice up ul uc) ∧ (ndAt T i).un.length = ul ∧ (∀ w', Tf [70, 128] B w w' → (w'.cell? ⟨g, i * 4, none⟩ = some (.int .i64 pb) ∧ w'.cell? ⟨g, i * 4 + 1, none⟩ = some (.int .i64 m) ∧ w'.cell? ⟨g, i * 4 + 2, none⟩ = some (.int .i64 ep) ∧ w'.cell? ⟨g, i * 4 + 3, none⟩ = some (.slice up ul uc)) ∧ Ints B w' (.slice up ul uc) (ndAt T i).un)) := fun i hi => by
    obtain ⟨g, cap', e, -⟩ := own_open ho.row (by omega)
    obtain ⟨u, hu'⟩ : ∃ u, us[i]? = some u := ⟨_, List.getElem?_eq_getElem (by rw [ho.ul]; exact hi)⟩
    have hI := ho.un i _ u (ndAt_of hi) hu'
    obtain ⟨up, uc, hue⟩ := own_slice hI
    cases e
    subst hue
    refine ⟨g, (ndAt T i).pub, (ndAt T i).mem, (ndAt T i).ep, up, (ndAt T i).un.length, uc, rfl, hu', rfl, fun w' ht => ?_⟩
    have ho' := ho.tf ht (by decide) (by decide)
    refine ⟨⟨?_, ?_, ?_, ?_⟩, (ho'.un i _ _ (ndAt_of hi) hu').mono hBH⟩
    · simpa using own_cell ho'.row rfl (treeC_get (ndAt_of hi) hu' (j := 0) rfl)
    · exact own_cell ho'.row rfl (treeC_get (ndAt_of hi) hu' (j := 1) rfl)
    · exact own_cell ho'.row rfl (treeC_get (ndAt_of hi) hu' (j := 2) rfl)
    · exact own_cell ho'.row rfl (treeC_get (ndAt_of hi) hu' (j := 3) rfl)
  have HAP : Hid (∀ i, i < T.length → ∀ (e' : List Ent), (∀ y ∈ e', y ∈ eN ∨ ∃ j u, j < i ∧ us[j]? = some u ∧ y.v = u) → ∀ u, us[i]? = some u → (∀ (q : Nat) (y : Ent) (k : Nat), e'[q]? = some y → y.v.ownBlock = some k → u.ownBlock ≠ some k) ∧ ∀ k, u.ownBlock = some k → k < H2) := fun i hi e' he u hu' => by
    refine ⟨fun q y k hy hk hk2 => ?_, fun k hk => hltu i u k hu' hk⟩
    rcases he y (List.mem_of_getElem? hy) with c | ⟨j, u2, hj, hu2, e⟩
    · have h1 := (h.cN y c).2.2 k hk
      have h2 := (World.ownsRow.lt (ho.un i _ u (ndAt_of hi) hu') k hk2).1
      omega
    · rw [e] at hk
      have := ho.apart j i u2 u k hu2 hu' hk hk2
      omega
  have HKN : Hid (∀ w' F' e' X', Bo B w' b (n + T.length) H2 F' e' eD X' XD → Tf [70, 128] B w w' → Calls Tryz.prog 261 #[.pointer (some ⟨b, 0, none⟩), .slice a T.length c] w' fun e w'' => e = .returned (.tuple #[]) ∧ (∃ F' eN' eD' XN' XD', Bo B w'' b (n + T.length + 1) H2 F' eN' eD' XN' XD') ∧ Tf [70, 128, 240] B w w'') := fun w' F' e' X' hb ht => by
    refine (keepNode_b B b (n + T.length) F' eD XD a T.length c w' hb.blk hb.D hb.low (Nat.le_trans hB ht.size) (by have := hb.lD; omega) (by omega)).mono fun e w'' ⟨h1, lv', h2, h3, h4⟩ => ⟨h1, ?_, (ht.mono (by intro t h; simp at h ⊢; rcases h with h | h <;> simp [h])).trans (h4.mono (by intro t h; simp at h ⊢; rcases h with h | h <;> simp [h]))⟩
    have hrow := (ho.tf ht (by decide) (by decide)).row
    have hsn := hb.D.snoc (x := Ent.mk (.slice a T.length c) (n + T.length) T.length) (xs := treeC T us) (T := 70) h4 (by decide) (by decide) h3 (own_mono hrow hBH) (fun i y k hy hk hk2 => by
      have q1 := (h.cD y (List.mem_of_getElem? hy)).2.2 k hk
      have q2 := (World.ownsRow.lt ho.row k hk2).1
      omega)
    refine ⟨updF F' 19 lv', e', _, X', _, h2, hb.low, hb.N.tf h4 (by decide) (by decide), hsn, fun k k0 k35 k2 k19 => ?_, by have := hb.lN; omega, by have := hb.lD; simp; omega, fun x hx => ?_, fun x hx => ?_⟩
    · have := hb.nil k k0 k35 k2 k19
      simpa [updF, k19] using this
    · have := hb.cN x hx; exact ⟨by omega, this.2.1, this.2.2⟩
    · rcases List.mem_append.1 hx with q | q
      · have := hb.cD x q; exact ⟨by omega, this.2.1, this.2.2⟩
      · simp at q; subst q; exact ⟨by simp, by simp; omega, hlt⟩
  have HS : Hid (Bo B w b n H2 F eN eD XN XD) := h.up hH2
  have HUL : Hid (∀ i, i < T.length → (ndAt T i).un.length ≤ 1048576) := fun i hi => hu _ (ndAt_mem hi)
  have HBw := hide hB
  have hnI : ((n : Nat) : Int) + ((T.length : Nat) : Int) + 1 ≤ 1048576 := by omega
  have HNn := hide hn
  clear h hB hBH ho hH2 hlt hltu hn hu
  obtain ⟨N, hN⟩ : ∃ N, N = T.length := ⟨_, rfl⟩
  rw [← hN] at HI HAP HKN HUL hnI HNn ⊢
  clear hN
  go_enter Tryz.func166, Tryz.ntmps166
  go_wp2_with fail
  go_loopw [7] (fun iv wr => ∃ i : Nat, iv = .int .i64 (i : Int) ∧ i ≤ N ∧ Hid (∃ F' e' X', Bo B wr b (n + i) H2 F' e' eD X' XD ∧ (∀ y ∈ e', y ∈ eN ∨ ∃ j u, j < i ∧ us[j]? = some u ∧ y.v = u) ∧ Tf [70, 128] B w wr)) (fun iv _ => (N - intOf iv).toNat)
  case atStart => exact ⟨0, rfl, by omega, ⟨F, eN, XN, unhide HS, fun y hy => Or.inl hy, Tf.refl _ _ _⟩⟩
  case round =>
    clear HS
    obtain ⟨i, rfl, hi, hst⟩ := hrel
    by_cases hin : i < N
    · obtain ⟨F', e', X', hbo, hmem, htf⟩ := unhide hst
      obtain ⟨g, pb, m, ep, up, ul, uc, rfl, hui, hul, hc⟩ := unhide HI i hin
      obtain ⟨⟨c0, c1, c2, c3⟩, hI⟩ := hc wr htf
      have hap := unhide HAP i hin e' hmem _ hui
      have hulb := unhide HUL i hin
      have hnn := unhide HNn
      have K := bnode_b B b (n + i) H2 F' e' eD X' XD pb m ep up (ndAt T i).un uc wr hbo (Nat.le_trans (unhide HBw) htf.size) (by omega) hulb (by rw [hul]; exact hI) (by rw [hul]; exact hap.2) (by rw [hul]; exact hap.1)
      rw [hul] at K
      have HK := hide K
      have HZ : Hid (∀ w', Tf [70, 128] B wr w' → (∃ F'' X'', Bo B w' b (n + i + 1) H2 F'' (e' ++ [Ent.mk (.slice up ul uc) (n + i) ul]) eD X'' XD) → ∃ F' e' X', Bo B w' b (n + (i + 1)) H2 F' e' eD X' XD ∧ (∀ y ∈ e', y ∈ eN ∨ ∃ j u, j < i + 1 ∧ us[j]? = some u ∧ y.v = u) ∧ Tf [70, 128] B w w') := fun w' ht2 ⟨F'', X'', hb2⟩ => by
        refine ⟨F'', _, X'', hb2, fun y hy => ?_, htf.trans ht2⟩
        rcases List.mem_append.1 hy with q | q
        · rcases hmem y q with c | ⟨j, u, hj, hu1, hu2⟩
          · exact Or.inl c
          · exact Or.inr ⟨j, u, by omega, hu1, hu2⟩
        · simp at q; subst q; exact Or.inr ⟨i, _, by omega, hui, rfl⟩
      have q1 : (i : Int) < (N : Int) := by omega
      have q0 : (0 : Int) ≤ (i : Int) := by omega
      clear hbo hmem htf hui hul hc hI hap hulb hnn K hst
      go_wp2_with fail
      refine (unhide HK).mono ?_
      rintro e w2 ⟨rfl, h1, h2⟩
      have HX := hide (unhide HZ w2 h2 h1)
      clear h1 h2 HK HZ c0 c1 c2 c3
      go_wp2_with fail
      go_roundw
      case rel => exact ⟨i + 1, by go_num, by omega, HX⟩
      case measure => simp only [intOf]; omega
    · obtain rfl : i = N := by omega
      obtain ⟨F', e', X', hbo, -, htf⟩ := unhide hst
      have K := hide (unhide HKN wr F' e' X' hbo htf)
      clear hbo htf hst
      go_wp2_with fail
      refine (unhide K).mono ?_
      rintro e w2 ⟨rfl, h1, h2⟩
      have HX := hide (And.intro h1 h2)
      clear h1 h2
      go_wp2
      go_end0
      exact ⟨rfl, unhide HX⟩
set_option maxHeartbeats 1000000 in
theorem btree_b (B b n H H2 : Nat) (F : Nat → Value) (eN eD : List Ent) (XN XD : Nat → List Value) (v : Value) (T : List Nd) (us : List Value) (w : World) (h : Bo B w b n H F eN eD XN XD) (hB : B ≤ w.heap.size) (hBH : B ≤ H) (ho : OTr H w v T us) (hH2 : H ≤ H2) (hlt : ∀ k, v.ownBlock = some k → k < H2) (hltu : ∀ (i : Nat) (u : Value) (k : Nat), us[i]? = some u → u.ownBlock = some k → k < H2)
    (hn : n + T.length + 1 ≤ 1048576) (hu : ∀ x ∈ T, x.un.length ≤ 1048576) :
    Calls Tryz.prog 30 #[.pointer (some ⟨b, 0, none⟩), .agg #[v]] w fun e w' => e = .returned (.tuple #[]) ∧ (∃ F' eN' eD' XN' XD', Bo B w' b (n + T.length + 1) H2 F' eN' eD' XN' XD') ∧ Tf [70, 128, 240] B w w' := by
  obtain ⟨a, c, rfl⟩ := own_slice ho.row
  obtain ⟨W0, hW0⟩ : ∃ W0, W0 = w.alloc (.cells #[.slice a T.length c] 24) := ⟨_, rfl⟩
  have hb0 : Below w.heap.size w W0 := by rw [hW0]; exact bwA _ _
  have K := hide (bnodes_b B b n H H2 F eN eD XN XD _ T us W0 (h.bw hb0) (Nat.le_trans hB hb0.size) hBH (ho.bw hb0) hH2 hlt hltu hn hu)
  have HT : Hid (Tf [70, 128, 240] B w W0) := Tf.ofBelow hb0 hB
  have HW : Hid (W0 = w.alloc (.cells #[.slice a T.length c] 24)) := hW0
  clear h ho hlt hltu hu hn hB hBH hW0 hb0
  generalize T.length = L at *
  go_enter Tryz.func30, Tryz.ntmps30
  go_wp2_with fail
  rw [← unhide HW]
  refine (unhide K).mono ?_
  rintro e w1 ⟨rfl, h1, h3⟩
  have HZ := hide (And.intro h1 ((unhide HT).trans h3))
  clear h1 h3
  go_wp2
  go_end0
  exact ⟨rfl, unhide HZ⟩
end Go.Proofs.YtpgppnmobbgefaaGreatDoor
