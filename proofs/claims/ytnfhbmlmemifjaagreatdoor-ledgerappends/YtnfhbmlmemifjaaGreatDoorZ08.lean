/- Texts joined: BoB BoKNumber BoKNode BoFNumber BoGNumber BoLNumber BoFNode BoGNode BoLNode. -/
import Derived.Test.YtnfhbmlmemifjaaGreatDoorZ07
import Derived.Deep.RegionLaw
import Derived.Deep.RegionWith
import Derived.Deep.CutRange
/- Rows of marks; what a mark is by its kind. No walk is in this text. -/
namespace Go.Proofs.YtnfhbmlmemifjaaGreatDoor
open Go.RowKit Go.Maps
theorem step_app {P : Program} {ops : Array Oper} {o : Oper} {a : Act} {w : World} {K : Act → World → Prop} {Q : Exit → Act → World → Prop} {E : Prop}
    (hg : o.guard = none) (s x : Operand) (t : TypeId) (hop : o.op = Op.call { callee := Callee.builtin Builtin.append, args := #[s, x], argTypes := #[t, t] })
    (base : Nat) (e : TypeId) (i : TypeInfo) (z : Value) (size bytes : Nat) (h1 : P.underlying t = some (.slice e)) (h2 : P.info? e = some i) (h3 : i.zero = some z) (h4 : i.size = size) (h5 : i.bytes = bytes) (h6 : z.cells.size = size) (h7 : 0 < size)
    (v : Value) (n : Nat) (xs : List Value) (hs : a.eval s = v) (hown : w.ownsRow base e size v n xs)
    (ad : Addr) (m c : Nat) (news : List Value) (hx : a.eval x = .slice (some ad) m c) (hn : news.length = m * size) (hc : ∀ j u, news[j]? = some u → w.cell? (ad.add j) = some u) (h1c : ∀ u ∈ news, u.oneCell' = true)
    (b1 : n + m ≤ maxLen) (b2 : (n + m) * bytes ≤ 140737488355328) (hbase : base ≤ w.heap.size)
    (hK : ∀ v' w', w'.ownsRow base e size v' (n + m) (xs ++ news) → w.grownBy w' v.ownBlock → (v'.ownBlock = v.ownBlock ∨ v'.ownBlock = some w.heap.size) → K (a.put o.dst v') w') :
    if Region.wanted o (yielded ops a.tmps) = true then Oper.wp P o a w K Q else E := by
  have hw : Region.wanted o (yielded ops a.tmps) = true := by simp [Region.wanted, hg]
  rw [if_pos hw]
  obtain ⟨v', w', hr, r2, r3, _, r5⟩ := run_append_own_at (P := P) w base t o.type e i z size bytes h1 h2 h3 h4 h5 h6 h7 v n xs hown ad m c news hn hc h1c b1 b2 hbase
  unfold Oper.wp
  simp [execOp, hop, resolve, invoke, builtin, hs, hx, hr, Result.andThen]
  exact hK v' w' r2 r3 r5
theorem cells_newB2 (w : World) (x y : Value) (t : TypeId) : ∀ j u, [x, y][j]? = some u → (w.alloc (.cells #[x, y] t)).cell? ((⟨w.heap.size, 0, none⟩ : Addr).add j) = some u := by
  intro j u hj
  match j, hj with
  | 0, hj =>
    simp at hj; subst hj
    show (w.alloc (.cells #[x, y] t)).cell? ⟨w.heap.size, 0, none⟩ = some x
    unfold World.cell?; rw [heap_alloc_new]; rfl
  | 1, hj =>
    simp at hj; subst hj
    show (w.alloc (.cells #[x, y] t)).cell? ⟨w.heap.size, 1, none⟩ = some y
    unfold World.cell?; rw [heap_alloc_new]; rfl
  | j + 2, hj => simp at hj
theorem cells_newB1 (w : World) (a : Value) (t : TypeId) : ∀ j u, [a][j]? = some u → (w.alloc (.cells #[a] t)).cell? ((⟨w.heap.size, 0, none⟩ : Addr).add j) = some u := fun j u hj => by
  match j, hj with
  | 0, hj => simp at hj; subst hj; exact cell_of_blk (heap_alloc_new _ _) rfl
  | j + 1, hj => simp at hj
theorem cells_newB4 (w : World) (a b c d : Value) (t : TypeId) : ∀ j u, [a, b, c, d][j]? = some u → (w.alloc (.cells #[a, b, c, d] t)).cell? ((⟨w.heap.size, 0, none⟩ : Addr).add j) = some u := fun j u hj => by
  have h := heap_alloc_new w (.cells #[a, b, c, d] t)
  match j, hj with
  | 0, hj => simp at hj; subst hj; exact cell_of_blk h rfl
  | 1, hj => simp at hj; subst hj; exact cell_of_blk (o := 1) h rfl
  | 2, hj => simp at hj; subst hj; exact cell_of_blk (o := 2) h rfl
  | 3, hj => simp at hj; subst hj; exact cell_of_blk (o := 3) h rfl
  | j + 4, hj => simp at hj
theorem row_formB {B c : Nat} {w : World} {e : TypeId} {v : Value} {n : Nat} {xs : List Value} (h : w.ownsRow B e c v (n + 1) xs) : ∃ g cap, v = .slice (some ⟨g, 0, none⟩) (n + 1) cap := by
  rcases h.2 with ⟨_, h⟩ | ⟨g, cap, _, h, _⟩
  · omega
  · exact ⟨g, cap, h⟩
def Mks (Mk : List Value → Prop) (c k : Nat) (xs : List Value) : Prop := ∃ L : List (List Value), xs = L.flatten ∧ L.length = k ∧ ∀ l ∈ L, l.length = c ∧ Mk l
theorem Mks.nil (Mk : List Value → Prop) (c : Nat) : Mks Mk c 0 [] := ⟨[], rfl, rfl, by simp⟩
theorem Mks.snoc {Mk : List Value → Prop} {c k : Nat} {xs l : List Value} (h : Mks Mk c k xs) (hl : l.length = c) (hm : Mk l) : Mks Mk c (k + 1) (xs ++ l) := by
  obtain ⟨L, rfl, h2, h3⟩ := h
  refine ⟨L ++ [l], by simp, by simp [h2], fun x hx => ?_⟩
  rcases List.mem_append.1 hx with q | q
  · exact h3 x q
  · simp at q; subst q; exact ⟨hl, hm⟩
theorem flat_len {c : Nat} : ∀ {L : List (List Value)}, (∀ l ∈ L, l.length = c) → L.flatten.length = L.length * c
  | [], _ => by simp
  | l :: L, h => by
    rw [List.flatten_cons, List.length_append, flat_len (fun x hx => h x (List.mem_cons_of_mem _ hx)), h l (by simp), List.length_cons, Nat.add_mul]; omega
theorem Mks.len {Mk : List Value → Prop} {c k : Nat} {xs : List Value} (h : Mks Mk c k xs) : xs.length = k * c := by
  obtain ⟨L, rfl, h2, h3⟩ := h
  rw [flat_len (fun l hl => (h3 l hl).1), h2]
theorem flat_get {c : Nat} : ∀ {L : List (List Value)} {j i : Nat} {l : List Value} {x : Value}, (∀ l ∈ L, l.length = c) → L[j]? = some l → l[i]? = some x → L.flatten[j * c + i]? = some x
  | [], j, i, l, x, _, h, _ => by simp at h
  | y :: L, 0, i, l, x, hc, h, hx => by
    simp at h; subst h
    rw [List.flatten_cons, Nat.zero_mul, Nat.zero_add, List.getElem?_append_left (List.getElem?_eq_some_iff.1 hx).1]; exact hx
  | y :: L, j + 1, i, l, x, hc, h, hx => by
    have hy := hc y (by simp)
    rw [List.flatten_cons, List.getElem?_append_right (by rw [hy, Nat.add_mul]; omega), hy, show (j + 1) * c + i - c = j * c + i by rw [Nat.add_mul]; omega]
    exact flat_get (fun l hl => hc l (List.mem_cons_of_mem _ hl)) (by simpa using h) hx
theorem Mks.get {Mk : List Value → Prop} {c m j : Nat} {xs : List Value} (h : Mks Mk c m xs) (hj : j < m) : ∃ l, l.length = c ∧ Mk l ∧ ∀ i x, l[i]? = some x → xs[j * c + i]? = some x := by
  obtain ⟨L, rfl, h2, h3⟩ := h
  obtain ⟨l, hl⟩ : ∃ l, L[j]? = some l := ⟨_, List.getElem?_eq_getElem (by omega)⟩
  exact ⟨l, (h3 l (List.mem_of_getElem? hl)).1, (h3 l (List.mem_of_getElem? hl)).2, fun i x hx => flat_get (fun y hy => (h3 y hy).1) hl hx⟩
theorem set1_at {pre rest : List Value} {p : Nat} (a : Value) (hp : pre.length = p) (hr : 1 ≤ rest.length) : (pre ++ rest).set p a = (pre ++ [a]) ++ rest.drop 1 := by
  match rest, hr with
  | r :: rest, _ => rw [List.set_append_right _ _ (by omega), hp, Nat.sub_self]; simp
theorem set4_at {pre rest : List Value} {p : Nat} (a b c d : Value) (hp : pre.length = p) (hr : 4 ≤ rest.length) : ((((pre ++ rest).set p a).set (p + 1) b).set (p + 2) c).set (p + 3) d = (pre ++ [a, b, c, d]) ++ rest.drop 4 := by
  match rest, hr with
  | r0 :: r1 :: r2 :: r3 :: rest, _ =>
    rw [List.set_append_right _ _ (by omega), List.set_append_right _ _ (by omega), List.set_append_right _ _ (by omega), List.set_append_right _ _ (by omega), hp, Nat.sub_self, Nat.add_sub_cancel_left, Nat.add_sub_cancel_left, Nat.add_sub_cancel_left]
    simp
theorem cell_set_other {w : World} {g b j k : Nat} {u : Value} (h : g ≠ b) : (w.setCell ⟨b, j, none⟩ u).cell? ⟨g, k, none⟩ = w.cell? ⟨g, k, none⟩ :=
  World.cell?_of_block (w := w) (Below.heap_setCell _ _ _ _ (by simpa using h))
theorem fr_set1 (w : World) (g p : Nat) (a : Value) : Fr [g] w (w.setCell ⟨g, p, none⟩ a) := (Fr.refl [g] w).setCell (a := ⟨g, p, none⟩) (Or.inr (by simp)) _
theorem fr_set4 (w : World) (g p : Nat) (a b c d : Value) : Fr [g] w ((((w.setCell ⟨g, p, none⟩ a).setCell ⟨g, p + 1, none⟩ b).setCell ⟨g, p + 2, none⟩ c).setCell ⟨g, p + 3, none⟩ d) :=
  (((fr_set1 w g p a).setCell (a := ⟨g, p + 1, none⟩) (Or.inr (by simp)) _).setCell (a := ⟨g, p + 2, none⟩) (Or.inr (by simp)) _).setCell (a := ⟨g, p + 3, none⟩) (Or.inr (by simp)) _
theorem Tf.fr1 {ts : List TypeId} {B : Nat} {w w1 w2 : World} {g : Nat} {cur : Array Value} {t : TypeId} {z : Nat × Nat} (h : Tf ts B w w1) (hf : Fr [g] w1 w2) (hg : w1.heap[g]? = some (.cells cur t z)) (ht : t ∈ ts) (hB : B ≤ g) : Tf ts B w w2 := by
  refine ⟨h.bel.trans ⟨hf.os, hf.tape, hf.output, hf.size, fun k hk => ?_⟩, fun k o hk ho => ?_⟩
  · rcases Nat.lt_or_ge k w1.heap.size with c | c
    · exact hf.block k c (by simp; omega)
    · have := lt_of_blk hg; omega
  · have h1 := h.keep k o hk ho
    have hne : k ≠ g := by rintro rfl; rw [hg] at h1; exact ho _ _ _ (Option.some.inj h1).symm ht
    rw [hf.block k (lt_of_blk h1) (by simpa using hne)]; exact h1
def kdNumber : Kd := ⟨3, 148, 1⟩
def kdNode : Kd := ⟨256, 254, 4⟩
def mkNumber (n : Nat) (l : List Value) : Prop := l = [.int .i64 (mkI n)]
def mkNode (n : Nat) (l : List Value) : Prop := l = [.int .i64 (mkI n), .int .i64 0, .int .i64 0, .slice none 0 0]
theorem oneNumber (z : Int) : ∀ u ∈ [Value.int .i64 z], u.oneCell' = true := by intro u hu; simp at hu; subst hu; rfl
theorem oneNode (z : Int) : ∀ u ∈ [Value.int .i64 z, .int .i64 0, .int .i64 0, .slice none 0 0], u.oneCell' = true := by
  intro u hu
  simp only [List.mem_cons, List.not_mem_nil, or_false] at hu
  rcases hu with rfl | rfl | rfl | rfl <;> rfl
end Go.Proofs.YtnfhbmlmemifjaaGreatDoor

/- The contract of keepNumber of a Book. -/
namespace Go.Proofs.YtnfhbmlmemifjaaGreatDoor
open Go.RowKit Go.Maps
theorem Tryz.infoheldNumber : (Tryz.prog.info? 148).map (fun i => (i.zero, i.size, i.bytes)) = some (some (.agg #[.slice none 0 0, .int .i64 0]), 2, 32) := by kernel_rfl
set_option maxRecDepth 100000 in
set_option maxHeartbeats 4000000 in
theorem keepNumber_b (B b n : Nat) (F : Nat → Value) (es : List Ent) (X : Nat → List Value) (p : Option Addr) (m cap : Nat) (w : World) (hb : w.heap[b]? = some (.cells (bookF (n : Int) F) 81 (0, 0))) (h : Ke kdNumber B w (F 2) es X) (hBb : B ≤ b) (hB : B ≤ w.heap.size) (hN : es.length ≤ 1150000) (hn : n ≤ 1150000) :
    Calls Tryz.prog 57 #[.pointer (some ⟨b, 0, none⟩), .slice p m cap] w fun e w' => e = .returned (.tuple #[]) ∧ ∃ lv', w'.heap[b]? = some (.cells (bookF ((n + 1 : Nat) : Int) (updF F 2 lv')) 81 (0, 0)) ∧ w'.ownsRow B 148 2 lv' (es ++ [Ent.mk (.slice p m cap) n m]).length (helE (es ++ [Ent.mk (.slice p m cap) n m])) ∧ Tf [81, 148] B w w' := by
  obtain ⟨i0, hi, hz0, hz1, hz2⟩ := info_parts Tryz.infoheldNumber
  have c0 : w.cell? ⟨b, 0, none⟩ = some (.int .i64 (n : Int)) := cell_of_blk hb (bookF_zero _ _)
  have c2 := book_cell hb (k := 2) (by decide) (by decide)
  have hbw := lt_of_blk hb
  have hmx : es.length + 1 ≤ maxLen := by unfold maxLen; omega
  have hby : (es.length + 1) * 32 ≤ 140737488355328 := by omega
  have hone : ∀ u ∈ [Value.slice p m cap, .int .i64 (n : Int)], u.oneCell' = true := by
    intro u hu
    simp only [List.mem_cons, List.not_mem_nil, or_false] at hu
    rcases hu with rfl | rfl <;> rfl
  have h0 : Fr [] w (w.drew.alloc (.cells #[.slice p m cap, .int .i64 (n : Int)] 148)) := ((Fr.refl [] w).drew).alloc _
  have HM : Hid (es.length + 1 ≤ maxLen ∧ (es.length + 1) * 32 ≤ 140737488355328 ∧ (∀ u ∈ [Value.slice p m cap, .int .i64 (n : Int)], u.oneCell' = true) ∧ w.drew.ownsRow B 148 2 (F 2) es.length (helE es)) := ⟨hmx, hby, hone, h.own.drew⟩
  have HT : Hid (∀ (lv' : Value) (w1 : World), w1.ownsRow B 148 2 lv' (es.length + 1) (helE es ++ [.slice p m cap, .int .i64 (n : Int)]) → (w.drew.alloc (.cells #[.slice p m cap, .int .i64 (n : Int)] 148)).grownBy w1 (F 2).ownBlock → (lv'.ownBlock = (F 2).ownBlock ∨ lv'.ownBlock = some (w.drew.alloc (.cells #[.slice p m cap, .int .i64 (n : Int)] 148)).heap.size) → _) := fun lv' w1 ho hg hat => h.kept (k := 2) hb (by decide) hBb hB (by decide) (by decide) h0 ho hg hat
  have c2a : (w.alloc (.cells #[.slice p m cap, .int .i64 (n : Int)] 148)).cell? ⟨b, 2, none⟩ = some (F 2) := by
    rw [World.cell?_of_block (w := w) (Below.heap_alloc _ _ _ hbw)]; exact c2
  have hnI : (n : Int) ≤ 1150000 := by omega
  have HBw := hide hB
  clear hmx hby hone h0 h hbw hb hN hn hBb hB
  generalize hlv : F 2 = lv at *
  clear hlv
  go_enter Tryz.func57, Tryz.ntmps57
  go_wp2_with fail
  go_region_law (refine step_app rfl (.tmp 8) (.tmp 15) 47 rfl B 148 i0 (.agg #[.slice none 0 0, .int .i64 0]) 2 32 Tryz.underlying47 hi hz0 hz1 hz2 rfl (by decide) lv es.length (helE es) (by simp [Act.eval]) ((unhide HM).2.2.2.alloc _) ⟨w.heap.size, 0, none⟩ 1 1 [.slice p m cap, .int .i64 (n : Int)] (by simp [Act.eval]) rfl (cells_newB2 w.drew _ _ _) (unhide HM).2.2.1 (unhide HM).1 (unhide HM).2.1 (by have := unhide HBw; simp; omega) ?_; intro v' w1 hown' hgrow hat; obtain ⟨k1, k2, k3, k4, k5, k6, k7⟩ := unhide HT v' w1 hown' hgrow hat; obtain ⟨g, cp, rfl⟩ := row_formB hown')
  all_goals
    have HZ := hide (And.intro k1 (And.intro (k2 m) k3))
    clear k1 k2 k3
    go_wp2_with fail
  all_goals
    go_end0
    exact ⟨rfl, _, (unhide HZ).1, (unhide HZ).2.1, (unhide HZ).2.2⟩
end Go.Proofs.YtnfhbmlmemifjaaGreatDoor

/- The contract of keepNode of a Book. -/
namespace Go.Proofs.YtnfhbmlmemifjaaGreatDoor
open Go.RowKit Go.Maps
theorem Tryz.infoheldNode : (Tryz.prog.info? 254).map (fun i => (i.zero, i.size, i.bytes)) = some (some (.agg #[.slice none 0 0, .int .i64 0]), 2, 32) := by kernel_rfl
set_option maxRecDepth 100000 in
set_option maxHeartbeats 4000000 in
theorem keepNode_b (B b n : Nat) (F : Nat → Value) (es : List Ent) (X : Nat → List Value) (p : Option Addr) (m cap : Nat) (w : World) (hb : w.heap[b]? = some (.cells (bookF (n : Int) F) 81 (0, 0))) (h : Ke kdNode B w (F 19) es X) (hBb : B ≤ b) (hB : B ≤ w.heap.size) (hN : es.length ≤ 1150000) (hn : n ≤ 1150000) :
    Calls Tryz.prog 297 #[.pointer (some ⟨b, 0, none⟩), .slice p m cap] w fun e w' => e = .returned (.tuple #[]) ∧ ∃ lv', w'.heap[b]? = some (.cells (bookF ((n + 1 : Nat) : Int) (updF F 19 lv')) 81 (0, 0)) ∧ w'.ownsRow B 254 2 lv' (es ++ [Ent.mk (.slice p m cap) n m]).length (helE (es ++ [Ent.mk (.slice p m cap) n m])) ∧ Tf [81, 254] B w w' := by
  obtain ⟨i0, hi, hz0, hz1, hz2⟩ := info_parts Tryz.infoheldNode
  have c0 : w.cell? ⟨b, 0, none⟩ = some (.int .i64 (n : Int)) := cell_of_blk hb (bookF_zero _ _)
  have c2 := book_cell hb (k := 19) (by decide) (by decide)
  have hbw := lt_of_blk hb
  have hmx : es.length + 1 ≤ maxLen := by unfold maxLen; omega
  have hby : (es.length + 1) * 32 ≤ 140737488355328 := by omega
  have hone : ∀ u ∈ [Value.slice p m cap, .int .i64 (n : Int)], u.oneCell' = true := by
    intro u hu
    simp only [List.mem_cons, List.not_mem_nil, or_false] at hu
    rcases hu with rfl | rfl <;> rfl
  have h0 : Fr [] w (w.drew.alloc (.cells #[.slice p m cap, .int .i64 (n : Int)] 254)) := ((Fr.refl [] w).drew).alloc _
  have HM : Hid (es.length + 1 ≤ maxLen ∧ (es.length + 1) * 32 ≤ 140737488355328 ∧ (∀ u ∈ [Value.slice p m cap, .int .i64 (n : Int)], u.oneCell' = true) ∧ w.drew.ownsRow B 254 2 (F 19) es.length (helE es)) := ⟨hmx, hby, hone, h.own.drew⟩
  have HT : Hid (∀ (lv' : Value) (w1 : World), w1.ownsRow B 254 2 lv' (es.length + 1) (helE es ++ [.slice p m cap, .int .i64 (n : Int)]) → (w.drew.alloc (.cells #[.slice p m cap, .int .i64 (n : Int)] 254)).grownBy w1 (F 19).ownBlock → (lv'.ownBlock = (F 19).ownBlock ∨ lv'.ownBlock = some (w.drew.alloc (.cells #[.slice p m cap, .int .i64 (n : Int)] 254)).heap.size) → _) := fun lv' w1 ho hg hat => h.kept (k := 19) hb (by decide) hBb hB (by decide) (by decide) h0 ho hg hat
  have c2a : (w.alloc (.cells #[.slice p m cap, .int .i64 (n : Int)] 254)).cell? ⟨b, 19, none⟩ = some (F 19) := by
    rw [World.cell?_of_block (w := w) (Below.heap_alloc _ _ _ hbw)]; exact c2
  have hnI : (n : Int) ≤ 1150000 := by omega
  have HBw := hide hB
  clear hmx hby hone h0 h hbw hb hN hn hBb hB
  generalize hlv : F 19 = lv at *
  clear hlv
  go_enter Tryz.func297, Tryz.ntmps297
  go_wp2_with fail
  go_region_law (refine step_app rfl (.tmp 8) (.tmp 15) 64 rfl B 254 i0 (.agg #[.slice none 0 0, .int .i64 0]) 2 32 Tryz.underlying64 hi hz0 hz1 hz2 rfl (by decide) lv es.length (helE es) (by simp [Act.eval]) ((unhide HM).2.2.2.alloc _) ⟨w.heap.size, 0, none⟩ 1 1 [.slice p m cap, .int .i64 (n : Int)] (by simp [Act.eval]) rfl (cells_newB2 w.drew _ _ _) (unhide HM).2.2.1 (unhide HM).1 (unhide HM).2.1 (by have := unhide HBw; simp; omega) ?_; intro v' w1 hown' hgrow hat; obtain ⟨k1, k2, k3, k4, k5, k6, k7⟩ := unhide HT v' w1 hown' hgrow hat; obtain ⟨g, cp, rfl⟩ := row_formB hown')
  all_goals
    have HZ := hide (And.intro k1 (And.intro (k2 m) k3))
    clear k1 k2 k3
    go_wp2_with fail
  all_goals
    go_end0
    exact ⟨rfl, _, (unhide HZ).1, (unhide HZ).2.1, (unhide HZ).2.2⟩
end Go.Proofs.YtnfhbmlmemifjaaGreatDoor

/- The contract of fillNumber of a Book: each kept list is marks then. -/
namespace Go.Proofs.YtnfhbmlmemifjaaGreatDoor
open Go.RowKit Go.Maps
theorem markNumber_b (n : Nat) (w : World) (h : n ≤ 1150000) : Calls Tryz.prog 196 #[.int .i64 (n : Int)] w fun e w' => ∃ z, e = .returned (.int .i64 z) ∧ mkNumber n [.int .i64 z] ∧ Below w.heap.size w w' := (markint_any n w (by omega)).mono (fun e w' h => ⟨mkI n, h.1, rfl, by rw [h.2]; exact Below.refl _ _⟩)
set_option maxRecDepth 100000 in
set_option maxHeartbeats 4000000 in
theorem fillNumber_b (B b : Nat) (cnt : Int) (F : Nat → Value) (es : List Ent) (X : Nat → List Value) (w : World) (hb : w.heap[b]? = some (.cells (bookF cnt F) 81 (0, 0))) (h : Ke kdNumber B w (F 2) es X) (hB : B ≤ w.heap.size) (hN : es.length ≤ 1150000) (hes : ∀ x ∈ es, x.n ≤ 1150000 ∧ x.m ≤ 1150000) :
    Calls Tryz.prog 58 #[.pointer (some ⟨b, 0, none⟩)] w fun e w' => e = .returned (.tuple #[]) ∧ (∃ X', Ke kdNumber B w' (F 2) es X' ∧ ∀ i x, es[i]? = some x → Mks (mkNumber x.n) 1 x.m (X' i)) ∧ Tf [3] B w w' := by
  have c2 := book_cell hb (k := 2) (by decide) (by decide)
  obtain ⟨a, cap, hF⟩ := h.form
  rw [hF] at c2 h ⊢
  have HC : Hid (∀ w', Tf [3] B w w' → w'.cell? ⟨b, 2, none⟩ = some (.slice a es.length cap)) := fun w' ht => by
    have := book_cell (ht.blk hb (by decide)) (k := 2) (by decide) (by decide)
    rw [hF] at this; exact this
  have HL := hide (And.intro h hes)
  have hNI : ((es.length : Nat) : Int) ≤ 1150000 := by omega
  clear hF h hes hb hN
  obtain ⟨N, hN⟩ : ∃ N, N = es.length := ⟨_, rfl⟩
  rw [← hN] at c2 HC HL hNI ⊢
  have HN := hide hN
  clear hN
  go_enter Tryz.func58, Tryz.ntmps58
  go_wp2_with fail
  go_loopw [10] (fun iv wr => ∃ (i : Nat) (X' : Nat → List Value), iv = .int .i64 (i : Int) ∧ i ≤ N ∧ Hid (Ke kdNumber B wr (.slice a N cap) es X' ∧ (∀ j x, es[j]? = some x → j < i → Mks (mkNumber x.n) 1 x.m (X' j)) ∧ Tf [3] B w wr)) (fun iv _ => (N - intOf iv).toNat)
  case atStart => exact ⟨0, X, rfl, by omega, ⟨(unhide HL).1, fun j x _ hj => by omega, Tf.refl _ _ _⟩⟩
  case round =>
    obtain ⟨i, X', rfl, hi, hst⟩ := hrel
    by_cases hin : i < N
    · obtain ⟨x, hx⟩ : ∃ x, es[i]? = some x := ⟨_, List.getElem?_eq_getElem (by rw [← unhide HN]; exact hin)⟩
      obtain ⟨hxn, hxm⟩ := (unhide HL).2 x (List.mem_of_getElem? hx)
      obtain ⟨g, rfl, hBg, d1, d2, -, -⟩ := (unhide hst).1.entry hx
      obtain ⟨p, cp, hxv⟩ := own_slice ((unhide hst).1.row i x hx)
      rw [hxv] at d1
      have e2 := unhide HC wr (unhide hst).2.2
      have hiN : (i : Int) < (N : Int) := by omega
      have hi0 : (0 : Int) ≤ (i : Int) := by omega
      have K := hide (fun w' => markNumber_b x.n w' hxn)
      have HX := hide (And.intro hx hxv)
      have hMI : ((x.m : Nat) : Int) ≤ 1150000 := by omega
      obtain ⟨M, hM⟩ : ∃ M, M = x.m := ⟨_, rfl⟩
      obtain ⟨n, hn⟩ : ∃ n, n = x.n := ⟨_, rfl⟩
      have hst2 : Hid (Ke kdNumber B wr (.slice (some ⟨g, 0, none⟩) N cap) es X' ∧ (∀ j y, es[j]? = some y → j < i → Mks (mkNumber y.n) 1 y.m (X' j)) ∧ (∃ pre rest, X' i = pre ++ rest ∧ Mks (mkNumber n) 1 0 pre) ∧ Tf [3] B w wr) := ⟨(unhide hst).1, (unhide hst).2.1, ⟨[], X' i, rfl, Mks.nil _ _⟩, (unhide hst).2.2⟩
      rw [← hM] at d1 HX hMI
      rw [← hn] at d2 K
      have HMn := hide (And.intro hM hn)
      clear hx hxn hxm hBg hxv hst hM hn
      go_wp2_with fail
      go_loopw [24] (fun kv wq => ∃ (k : Nat) (X' : Nat → List Value), kv = .int .i64 (k : Int) ∧ k ≤ M ∧ Hid (Ke kdNumber B wq (.slice (some ⟨g, 0, none⟩) N cap) es X' ∧ (∀ j y, es[j]? = some y → j < i → Mks (mkNumber y.n) 1 y.m (X' j)) ∧ (∃ pre rest, X' i = pre ++ rest ∧ Mks (mkNumber n) 1 k pre) ∧ Tf [3] B w wq)) (fun kv _ => (M - intOf kv).toNat)
      case atStart => exact ⟨0, X', rfl, by omega, hst2⟩
      case round =>
        clear hst2
        obtain ⟨k, Xq, rfl, hk, hsq⟩ := hrel
        by_cases hkM : k < M
        · obtain ⟨hK, hmk, ⟨pre, rest, hXi, hpre⟩, hTf⟩ := unhide hsq
          obtain ⟨hx, hxv⟩ := unhide HX
          obtain ⟨hMe, hne_⟩ := unhide HMn
          have hr := hK.row i x hx
          rw [hXi] at hr
          have hlen : (pre ++ rest).length = x.m * 1 := hr.1
          have hpl := hpre.len
          have hrl : 1 ≤ rest.length := by simp at hlen; omega
          obtain ⟨gv, cp', e1, hgl, -, -⟩ := own_open hr (by omega)
          rw [hxv] at e1
          simp only [Value.slice.injEq] at e1
          obtain ⟨e1a, -, -⟩ := e1
          subst e1a
          rw [hxv] at hr
          obtain ⟨y0, hy0⟩ : ∃ y, (pre ++ rest)[k]? = some y := ⟨_, List.getElem?_eq_getElem (by omega)⟩
          have yc0 := own_cell hr rfl hy0
          obtain ⟨g', e', hBg, d1', d2', -, cur, hgc⟩ := hK.entry hx
          cases e'
          rw [hxv] at d1'
          rw [← hne_] at d2'
          obtain ⟨curv, hvc⟩ := own_kind hr (k := gv) rfl
          have hBv : B ≤ gv := (World.ownsRow.lt hr gv rfl).1
          have hne : g ≠ gv := by rintro rfl; rw [hgc] at hvc; simp at hvc; exact absurd hvc.2 (by decide)
          have S0 : wr.drew.cell? ⟨g, i * 2, none⟩ = some (.slice (some ⟨gv, 0, none⟩) M cp) ∧ wr.drew.cell? ⟨g, i * 2 + 1, none⟩ = some (.int .i64 (n : Int)) := ⟨d1', d2'⟩
          have HS1 : Hid (∀ z1, Below wr.drew.heap.size wr.drew z1 → z1.cell? ⟨g, i * 2, none⟩ = some (.slice (some ⟨gv, 0, none⟩) M cp) ∧ z1.cell? ⟨g, i * 2 + 1, none⟩ = some (.int .i64 (n : Int))) := fun z1 b1 => by
            have hgl2 := lt_of_blk hgc
            exact ⟨by rw [b1.cell (p := ⟨g, i * 2, none⟩) hgl2]; exact S0.1, by rw [b1.cell (p := ⟨g, i * 2 + 1, none⟩) hgl2]; exact S0.2⟩
          have hfz : Hid (∀ z1, Below wr.drew.heap.size wr.drew z1 → ∀ j, z1.frozen? ⟨gv, j, none⟩ = false) := fun z1 b1 j => frozen_of_blk0 (cs := curv) (t := 3) (by rw [b1.block gv hgl]; exact hvc) j
          have HS : Hid (∀ z1 z, Below wr.drew.heap.size wr.drew z1 → mkNumber n [.int .i64 z] → ∃ X2 : Nat → List Value, Ke kdNumber B (z1.setCell ⟨gv, k, none⟩ (.int .i64 z)) (.slice (some ⟨g, 0, none⟩) N cap) es X2 ∧ (∀ j y, es[j]? = some y → j < i → Mks (mkNumber y.n) 1 y.m (X2 j)) ∧ (∃ pre' rest', X2 i = pre' ++ rest' ∧ Mks (mkNumber n) 1 (k + 1) pre') ∧ Tf [3] B w (z1.setCell ⟨gv, k, none⟩ (.int .i64 z))) := fun z1 z b1 hm => by
            have hr1 : z1.ownsRow B 3 1 (.slice (some ⟨gv, 0, none⟩) M cp) x.m (pre ++ rest) := own_keep hr (fun q hq => by rw [b1.block q (World.ownsRow.lt hr q hq).2]; rfl)
            have o0 := own_set hr1 (g := gv) rfl (j := k) (.int .i64 z)
            rw [set1_at _  (by rw [hpl]; omega) hrl] at o0
            have hf : Fr [gv] z1 (z1.setCell ⟨gv, k, none⟩ (.int .i64 z)) := fr_set1 z1 gv (k) (.int .i64 z)
            have hK1 : Ke kdNumber B z1 (.slice (some ⟨g, 0, none⟩) N cap) es Xq := (hK.bw (w' := wr.drew) ⟨rfl, rfl, rfl, Nat.le_refl _, fun _ _ => rfl⟩).bw b1
            have hvc1 : z1.heap[gv]? = some (.cells curv 3 (0, 0)) := by rw [b1.block gv hgl]; exact hvc
            have hT1 : Tf [3] B w z1 := (hTf.drew).after b1 hB
            refine ⟨(fun j => if j = i then (pre ++ [.int .i64 z]) ++ rest.drop 1 else Xq j), hK1.put hx (by rw [hxv]; exact hf) (by rw [hxv]; exact o0) (by decide), fun j y hy hj => ?_, ⟨pre ++ [.int .i64 z], rest.drop 1, by simp, hpre.snoc rfl hm⟩, hT1.fr1 hf hvc1 (by simp) hBv⟩
            have : ¬ j = i := by omega
            simp only [this, if_false]
            exact hmk j y hy hj
          have hkM' : (k : Int) < (M : Int) := by omega
          have hk0 : (0 : Int) ≤ (k : Int) := by omega
          have e2q := unhide HC wr hTf
          have HGL := hide hgl
          clear hK hmk hXi hpre hTf hx hxv hMe hne_ hr hlen hpl hrl d1' d2' hgc hvc hBv hBg hsq hy0
          go_wp2_with fail
          first
          | go_region_held3 (fun w' : World => w'.cell? ⟨g, i * 2, none⟩ = some (.slice (some ⟨gv, 0, none⟩) M cp) ∧ w'.cell? ⟨g, i * 2 + 1, none⟩ = some (.int .i64 (n : Int))) (first | with_reducible exact S0 | with_reducible exact S1 | exact ⟨by rw [cell_set_other hne]; exact S1.1, by rw [cell_set_other hne]; exact S1.2⟩) (first
              | (go_at_call 196; refine (unhide K _).mono ?_; rintro e z1 ⟨z, rfl, hm, b1⟩; have S1 := unhide HS1 z1 b1; have hfz1 := unhide hfz z1 b1; have hgl := unhide HGL; have u0 : z1.cell? ⟨gv, k, none⟩ = some y0 := (by rw [b1.cell (p := ⟨gv, k, none⟩) hgl]; exact yc0); have v0 := hfz1 (k)) | fail)
          | fail
          all_goals
            obtain ⟨X2, HZ⟩ := unhide HS z1 z b1 hm
            have HZ2 := hide HZ
            clear S1 hfz1 hm b1 HZ
            go_wp2_with fail
            go_roundw
            case rel => exact ⟨k + 1, X2, by go_num, by omega, HZ2⟩
            case measure => simp only [intOf]; omega
        · obtain rfl : k = M := by omega
          have HX3 : Hid (Ke kdNumber B wr (.slice (some ⟨g, 0, none⟩) N cap) es Xq ∧ (∀ j x, es[j]? = some x → j < i + 1 → Mks (mkNumber x.n) 1 x.m (Xq j)) ∧ Tf [3] B w wr) := by
            obtain ⟨hK, hmk, ⟨pre, rest, hXi, hpre⟩, hTf⟩ := unhide hsq
            refine ⟨hK, fun j y hy hj => ?_, hTf⟩
            rcases Nat.lt_or_ge j i with c | c
            · exact hmk j y hy c
            · obtain rfl : j = i := by omega
              obtain ⟨hx, -⟩ := unhide HX
              rw [hx] at hy
              cases hy
              have hr := hK.row j x hx
              rw [hXi] at hr
              have hlen : (pre ++ rest).length = x.m * 1 := hr.1
              have hpl := hpre.len
              obtain ⟨hMe, hne_⟩ := unhide HMn
              have : rest = [] := List.eq_nil_of_length_eq_zero (by simp at hlen; rw [hMe] at hpl; omega)
              subst this
              rw [hXi, List.append_nil, ← hMe, ← hne_]
              exact hpre
          clear hsq
          go_wp2_with fail
          go_roundw
          case rel => exact ⟨i + 1, Xq, by go_num, by omega, HX3⟩
          case measure => simp only [intOf]; omega
    · obtain rfl : i = N := by omega
      go_wp2_with fail
      go_end0
      refine ⟨rfl, ⟨X', (unhide hst).1, fun j x hx => (unhide hst).2.1 j x hx ?_⟩, (unhide hst).2.2⟩
      rw [unhide HN]; exact (List.getElem?_eq_some_iff.1 hx).1
end Go.Proofs.YtnfhbmlmemifjaaGreatDoor

/- The contract of growNumber of a Book: three marks more behind each kept list. -/
namespace Go.Proofs.YtnfhbmlmemifjaaGreatDoor
open Go.RowKit Go.Maps
def MkdNumber (es : List Ent) (X : Nat → List Value) : Prop := ∀ i x, es[i]? = some x → Mks (mkNumber x.n) 1 x.m (X i)
set_option maxRecDepth 100000 in
set_option maxHeartbeats 4000000 in
theorem growNumber_b (B b : Nat) (cnt : Int) (F : Nat → Value) (es : List Ent) (X : Nat → List Value) (w : World) (hb : w.heap[b]? = some (.cells (bookF cnt F) 81 (0, 0))) (h : Ke kdNumber B w (F 2) es X) (hB : B ≤ w.heap.size) (hN : es.length ≤ 1150000) (hes : ∀ x ∈ es, x.n ≤ 1150000 ∧ x.m ≤ 1150000) (hmk : MkdNumber es X) :
    Calls Tryz.prog 91 #[.pointer (some ⟨b, 0, none⟩)] w fun e w' => e = .returned (.tuple #[]) ∧ (∃ es' X', Ke kdNumber B w' (F 2) es' X' ∧ es'.length = es.length ∧ (∀ x ∈ es', x.n ≤ 1150000 ∧ x.m ≤ 1150003) ∧ MkdNumber es' X') ∧ Tf [3, 148] B w w' := by
  obtain ⟨i0, hi0, hz0, hz1, hz2⟩ := info_parts Tryz.infoInt
  have c2 := book_cell hb (k := 2) (by decide) (by decide)
  obtain ⟨a, cap, hF⟩ := h.form
  rw [hF] at c2 h ⊢
  have HC : Hid (∀ w', Tf [3, 148] B w w' → w'.cell? ⟨b, 2, none⟩ = some (.slice a es.length cap)) := fun w' ht => by
    have := book_cell (ht.blk hb (by decide)) (k := 2) (by decide) (by decide)
    rw [hF] at this; exact this
  have HL : Hid (Ke kdNumber B w (.slice a es.length cap) es X ∧ MkdNumber es X ∧ ∀ (j : Nat) (x : Ent), es[j]? = some x → x.n ≤ 1150000 ∧ x.m ≤ 1150000) := ⟨h, hmk, fun j x hx => hes x (List.mem_of_getElem? hx)⟩
  have hNI : ((es.length : Nat) : Int) ≤ 1150000 := by omega
  clear hF h hes hb hN hmk
  obtain ⟨N, hN⟩ : ∃ N, N = es.length := ⟨_, rfl⟩
  rw [← hN] at c2 HC HL hNI ⊢
  have HN := hide hN
  clear hN
  go_enter Tryz.func91, Tryz.ntmps91
  go_wp2_with fail
  go_loopw [10] (fun iv wr => ∃ (i : Nat) (es' : List Ent) (X' : Nat → List Value), iv = .int .i64 (i : Int) ∧ i ≤ N ∧ Hid (Ke kdNumber B wr (.slice a N cap) es' X' ∧ es'.length = N ∧ MkdNumber es' X' ∧ (∀ (j : Nat) (x : Ent), es'[j]? = some x → x.n ≤ 1150000 ∧ x.m ≤ 1150000 + (if j < i then 3 else 0)) ∧ Tf [3, 148] B w wr)) (fun iv _ => (N - intOf iv).toNat)
  case atStart => exact ⟨0, es, X, rfl, by omega, ⟨(unhide HL).1, (unhide HN).symm, (unhide HL).2.1, fun j x hx => by simpa using (unhide HL).2.2 j x hx, Tf.refl _ _ _⟩⟩
  case round =>
    obtain ⟨i, es', X', rfl, hi, hst⟩ := hrel
    by_cases hin : i < N
    · have e2 := unhide HC wr (unhide hst).2.2.2.2
      obtain ⟨x0, hx0⟩ : ∃ x, es'[i]? = some x := ⟨_, List.getElem?_eq_getElem (by rw [(unhide hst).2.1]; exact hin)⟩
      obtain ⟨g, rfl, -⟩ := (unhide hst).1.entry hx0
      have hiN : (i : Int) < (N : Int) := by omega
      have hi0' : (0 : Int) ≤ (i : Int) := by omega
      have hst2 : Hid (Ke kdNumber B wr (.slice (some ⟨g, 0, none⟩) N cap) es' X' ∧ es'.length = N ∧ MkdNumber es' X' ∧ (∀ (j : Nat) (x : Ent), es'[j]? = some x → x.n ≤ 1150000 ∧ x.m ≤ 1150000 + (if j < i then 3 else if j = i then 0 else 0)) ∧ Tf [3, 148] B w wr) := by
        obtain ⟨h1, h2, h3, h4, h5⟩ := unhide hst
        exact ⟨h1, h2, h3, fun j x hx => by have := h4 j x hx; by_cases q : j < i <;> by_cases q2 : j = i <;> simp [q, q2] at this ⊢ <;> omega, h5⟩
      clear hx0 hst
      go_wp2_with fail
      go_loopw [4] (fun kv wq => ∃ (k : Nat) (es' : List Ent) (X' : Nat → List Value), kv = .int .i64 (k : Int) ∧ k ≤ 3 ∧ Hid (Ke kdNumber B wq (.slice (some ⟨g, 0, none⟩) N cap) es' X' ∧ es'.length = N ∧ MkdNumber es' X' ∧ (∀ (j : Nat) (x : Ent), es'[j]? = some x → x.n ≤ 1150000 ∧ x.m ≤ 1150000 + (if j < i then 3 else if j = i then k else 0)) ∧ Tf [3, 148] B w wq)) (fun kv _ => (3 - intOf kv).toNat)
      case atStart => exact ⟨0, es', X', rfl, by omega, hst2⟩
      case round =>
        clear hst2
        obtain ⟨k, eq, Xq, rfl, hk, hsq⟩ := hrel
        by_cases hk3 : k < 3
        · obtain ⟨hK, hlen, hmq, hbd, hTf⟩ := unhide hsq
          obtain ⟨x, hx⟩ : ∃ x, eq[i]? = some x := ⟨_, List.getElem?_eq_getElem (by rw [hlen]; exact hin)⟩
          obtain ⟨hxn, hxm⟩ := hbd i x hx
          have hxm2 : x.m ≤ 1150003 := by simp at hxm; omega
          obtain ⟨g', e', hBg, d1, d2, -, cur, hgc⟩ := hK.entry hx
          cases e'
          obtain ⟨p, cp, hxv⟩ := own_slice (hK.row i x hx)
          have hmx : x.m + 1 ≤ maxLen := by unfold maxLen; omega
          have hby : (x.m + 1) * 8 ≤ 140737488355328 := by omega
          have hBw : B ≤ wr.heap.size := Nat.le_trans hB hTf.size
          have HK : Hid (∀ w', Calls Tryz.prog 196 #[.int .i64 (x.n : Int)] w' fun e w'' => ∃ z, e = .returned (.int .i64 z) ∧ mkNumber x.n [.int .i64 z] ∧ Below w'.heap.size w' w'') := fun w' => markNumber_b x.n w' hxn
          have HA : Hid (∀ W, Below wr.heap.size wr W → W.cell? ⟨g, i * 2, none⟩ = some x.v ∧ W.ownsRow B 3 1 x.v x.m (Xq i) ∧ Ke kdNumber B W (.slice (some ⟨g, 0, none⟩) N cap) eq Xq ∧ B ≤ W.heap.size ∧ Tf [3, 148] B w W) := fun W hb => by
            have hK2 := hK.bw hb
            obtain ⟨g2, e2', -, d1', -⟩ := hK2.entry hx
            cases e2'
            exact ⟨d1', hK2.row i x hx, hK2, Nat.le_trans hBw hb.size, hTf.after hb hB⟩
          have HM := hide (And.intro hmx hby)
          have HS : Hid (∀ (v' : Value) z, mkNumber x.n [.int .i64 z] → (eq.set i ⟨v', x.n, x.m + 1⟩).length = N ∧ MkdNumber (eq.set i ⟨v', x.n, x.m + 1⟩) (fun j => if j = i then Xq i ++ [.int .i64 z] else Xq j) ∧ (∀ (j : Nat) (y : Ent), (eq.set i ⟨v', x.n, x.m + 1⟩)[j]? = some y → y.n ≤ 1150000 ∧ y.m ≤ 1150000 + (if j < i then 3 else if j = i then k + 1 else 0))) := fun v' z hm => by
            have hil : i < eq.length := by rw [hlen]; exact hin
            refine ⟨by simp [hlen], fun j y hy => ?_, fun j y hy => ?_⟩
            · by_cases q : j = i
              · subst q
                rw [List.getElem?_set_self hil] at hy
                cases hy
                simp only [if_true]
                exact (hmq j x hx).snoc rfl hm
              · rw [List.getElem?_set_ne (Ne.symm q)] at hy
                simp only [q, if_false]
                exact hmq j y hy
            · by_cases q : j = i
              · subst q
                rw [List.getElem?_set_self hil] at hy
                cases hy
                simp at hxm ⊢
                omega
              · rw [List.getElem?_set_ne (Ne.symm q)] at hy
                have := hbd j y hy
                simp only [q, if_false] at this ⊢
                exact this
          have bA : Below wr.heap.size wr wr.drew := (Below.refl _ _).drew
          obtain ⟨v, hv⟩ : ∃ v, v = x.v := ⟨_, rfl⟩
          have hxv2 : v = .slice p x.m cp := by rw [hv]; exact hxv
          rw [← hv] at d1 HA
          have HV := hide hv
          have HX := hide hx
          have hkI : (k : Int) < 3 := by omega
          have e2q := unhide HC wr hTf
          subst hxv2
          have HBw := hide hBw
          obtain ⟨xm, hxm3⟩ : ∃ xm, xm = x.m := ⟨_, rfl⟩
          rw [← hxm3] at d1 HA HM HV
          have HXM := hide hxm3
          clear hK hlen hmq hbd hTf hx hxn hxm hxm2 hBg hgc hxv hmx hby hBw hv hsq hxm3
          go_wp2_with fail
          go_region_law (first | (refine step_app rfl (.tmp 27) (.tmp 33) 27 rfl B 3 i0 (.int .i64 0) 1 8 Tryz.underlying27 hi0 hz0 hz1 hz2 rfl (by decide) (.slice p xm cp) xm (Xq i) (by simp [Act.eval]) (World.ownsRow.alloc X1.2.1 _) ⟨z1.heap.size, 0, none⟩ 1 1 [.int .i64 z] (by simp [Act.eval]) rfl (cells_newB1 z1 _ _) (oneNumber z) (unhide HM).1 (unhide HM).2 (Nat.le_trans X1.2.2.2.1 (by simp)) ?_; intro v' w1 hown' hgrow hat; have X3 := (X1.2.2.1).grown (unhide HX) ((Fr.refl [] z1).alloc _) (v' := v') (news := [.int .i64 z]) (by rw [← unhide HXM]; exact hown') (by rw [← unhide HV]; exact hgrow) (by rw [← unhide HV]; exact hat) X1.2.2.2.1 (by decide); obtain ⟨k1, k2, k3, k4⟩ := X3; rw [← unhide HV] at k3; obtain ⟨gv, cpv, rfl⟩ := row_formB hown') | (go_simp; go_wp2_with (first | (go_at_call 196; refine (unhide HK _).mono ?_; rintro e z1 ⟨z, rfl, hm, b1⟩; have b2 := bw_tr bA b1; have X1 := unhide HA _ b2; have x1 := X1.1; have X2 := unhide HA _ (bw_tr b2 (bwA z1 (.cells #[.int .i64 z] 3))); have x2 := X2.1))))
          all_goals
            have hz := unhide HS (.slice (some ⟨gv, 0, none⟩) (xm + 1) cpv) z hm
            obtain ⟨E2, X2', HZ⟩ : ∃ E2 X2', Hid (Ke kdNumber B ((w1).setCell ⟨g, i * 2, none⟩ (.slice (some ⟨gv, 0, none⟩) (xm + 1) cpv)) (.slice (some ⟨g, 0, none⟩) N cap) E2 X2' ∧ E2.length = N ∧ MkdNumber E2 X2' ∧ (∀ (j : Nat) (y : Ent), E2[j]? = some y → y.n ≤ 1150000 ∧ y.m ≤ 1150000 + (if j < i then 3 else if j = i then k + 1 else 0)) ∧ Tf [3, 148] B w ((w1).setCell ⟨g, i * 2, none⟩ (.slice (some ⟨gv, 0, none⟩) (xm + 1) cpv))) :=
              ⟨eq.set i ⟨.slice (some ⟨gv, 0, none⟩) (xm + 1) cpv, x.n, x.m + 1⟩, fun j => if j = i then Xq i ++ [.int .i64 z] else Xq j, k1, hz.1, hz.2.1, hz.2.2, X1.2.2.2.2.trans k2⟩
            clear k1 k2 X1 X2 hm hz
            go_wp2_with fail
            go_roundw
            case rel => exact ⟨k + 1, E2, X2', by go_num, by omega, HZ⟩
            case measure => simp only [intOf]; omega
        · obtain rfl : k = 3 := by omega
          have HX3 : Hid (Ke kdNumber B wr (.slice (some ⟨g, 0, none⟩) N cap) eq Xq ∧ eq.length = N ∧ MkdNumber eq Xq ∧ (∀ (j : Nat) (x : Ent), eq[j]? = some x → x.n ≤ 1150000 ∧ x.m ≤ 1150000 + (if j < i + 1 then 3 else 0)) ∧ Tf [3, 148] B w wr) := by
            obtain ⟨h1, h2, h3, h4, h5⟩ := unhide hsq
            refine ⟨h1, h2, h3, fun j x hx => ?_, h5⟩
            have := h4 j x hx
            refine ⟨this.1, Nat.le_trans this.2 (Nat.add_le_add_left ?_ _)⟩
            by_cases q : j < i
            · rw [if_pos q, if_pos (by omega)]; exact Nat.le_refl _
            · by_cases q2 : j = i
              · rw [if_neg q, if_pos q2, if_pos (by omega)]; exact Nat.le_refl _
              · rw [if_neg q, if_neg q2]; omega
          clear hsq
          go_wp2_with fail
          go_roundw
          case rel => exact ⟨i + 1, eq, Xq, by go_num, by omega, HX3⟩
          case measure => simp only [intOf]; omega
    · obtain rfl : i = N := by omega
      go_wp2_with fail
      go_end0
      obtain ⟨h1, h2, h3, h4, h5⟩ := unhide hst
      refine ⟨rfl, ⟨es', X', h1, h2, fun x hx => ?_, h3⟩, h5⟩
      obtain ⟨j, hj⟩ := List.mem_iff_getElem?.1 hx
      have := h4 j x hj
      refine ⟨this.1, Nat.le_trans this.2 ?_⟩
      split <;> omega
end Go.Proofs.YtnfhbmlmemifjaaGreatDoor

/- The contract of lookNumber of a Book: marks are found. -/
namespace Go.Proofs.YtnfhbmlmemifjaaGreatDoor
open Go.RowKit Go.Maps
theorem isNumber_b (n : Nat) (z : Int) (hz : mkNumber n [.int .i64 z]) (w : World) (h : n ≤ 1150000) : Calls Tryz.prog 228 #[.int .i64 z, .int .i64 (n : Int)] w fun e w' => e = .returned (.bool true) ∧ Below w.heap.size w w' := by
  obtain rfl : z = mkI n := by unfold mkNumber at hz; simpa using hz
  exact (isint_any n w (by omega)).mono (fun e w' h => ⟨h.1, by rw [h.2]; exact Below.refl _ _⟩)
set_option maxRecDepth 100000 in
set_option maxHeartbeats 4000000 in
theorem lookNumber_b (B b : Nat) (cnt : Int) (F : Nat → Value) (es : List Ent) (X : Nat → List Value) (w : World) (hb : w.heap[b]? = some (.cells (bookF cnt F) 81 (0, 0))) (h : Ke kdNumber B w (F 2) es X) (hN : es.length ≤ 1150000) (hes : ∀ x ∈ es, x.n ≤ 1150000 ∧ x.m ≤ 1150003) (hmk : MkdNumber es X) :
    Calls Tryz.prog 125 #[.pointer (some ⟨b, 0, none⟩)] w fun e w' => e = .returned (.bool true) ∧ Below w.heap.size w w' := by
  have c2 := book_cell hb (k := 2) (by decide) (by decide)
  obtain ⟨a, cap, hF⟩ := h.form
  rw [hF] at c2 h
  have HL := hide (And.intro h (And.intro hes hmk))
  have hNI : ((es.length : Nat) : Int) ≤ 1150000 := by omega
  clear hF h hes hb hN hmk
  obtain ⟨N, hN⟩ : ∃ N, N = es.length := ⟨_, rfl⟩
  rw [← hN] at c2 HL hNI
  have HN := hide hN
  clear hN
  go_enter Tryz.func125, Tryz.ntmps125
  go_wp2_with fail
  go_loopw [12] (fun iv wr => ∃ i : Nat, iv = .int .i64 (i : Int) ∧ i ≤ N ∧ Below w.heap.size w wr) (fun iv _ => (N - intOf iv).toNat)
  case atStart => exact ⟨0, rfl, by omega, Below.refl _ _⟩
  case round =>
    obtain ⟨i, rfl, hi, hbel⟩ := hrel
    by_cases hin : i < N
    · obtain ⟨x, hx⟩ : ∃ x, es[i]? = some x := ⟨_, List.getElem?_eq_getElem (by rw [← unhide HN]; exact hin)⟩
      have hK := (unhide HL).1.bw hbel
      obtain ⟨hxn, hxm⟩ := (unhide HL).2.1 x (List.mem_of_getElem? hx)
      have hmk := (unhide HL).2.2 i x hx
      obtain ⟨g, rfl, hBg, d1, d2, -, -⟩ := hK.entry hx
      have hr := hK.row i x hx
      obtain ⟨p, cp, hxv⟩ := own_slice hr
      rw [hxv] at d1 hr
      have hiN : (i : Int) < (N : Int) := by omega
      have hi0 : (0 : Int) ≤ (i : Int) := by omega
      have hMI : ((x.m : Nat) : Int) ≤ 1150003 := by omega
      obtain ⟨M, hM⟩ : ∃ M, M = x.m := ⟨_, rfl⟩
      obtain ⟨n, hn⟩ : ∃ n, n = x.n := ⟨_, rfl⟩
      rw [← hM] at d1 hMI hr hmk
      rw [← hn] at d2 hmk hxn
      have HV := hide (And.intro hmk hr)
      have HK : Hid (∀ z, mkNumber n [.int .i64 z] → ∀ w', Calls Tryz.prog 228 #[.int .i64 z, .int .i64 (n : Int)] w' fun e w'' => e = .returned (.bool true) ∧ Below w'.heap.size w' w'') := fun z hz w' => isNumber_b n z hz w' hxn
      have start : Hid (Below wr.heap.size wr (wr.alloc (.cells #[.slice p M cp, .int .i64 (n : Int)] 148)) ∧ (wr.alloc (.cells #[.slice p M cp, .int .i64 (n : Int)] 148)).cell? ⟨wr.heap.size, 1, none⟩ = some (.int .i64 (n : Int))) := ⟨bwA _ _, cell_of_blk (heap_alloc_new _ _) rfl⟩
      have HB := hide hbel
      clear hM hn hmk hr hK hx hxn hxm hBg hxv hbel
      go_wp2_with fail
      rename World => wo
      go_loopw [19] (fun kv wq => ∃ k : Nat, kv = .int .i64 (k : Int) ∧ k ≤ M ∧ Hid (Below wo.heap.size wo wq ∧ wq.cell? ⟨wo.heap.size, 1, none⟩ = some (.int .i64 (n : Int)))) (fun kv _ => (M - intOf kv).toNat)
      case atStart => exact ⟨0, rfl, by omega, start⟩
      case round =>
        clear start
        obtain ⟨k, rfl, hk, HR⟩ := hrel
        by_cases hkM : k < M
        · have hkM' : (k : Int) < (M : Int) := by omega
          have hk0 : (0 : Int) ≤ (k : Int) := by omega
          obtain ⟨hmk, hr⟩ := unhide HV
          obtain ⟨l, hlen, hml, hl⟩ := hmk.get hkM
          have hr2 := own_keep hr (w' := wr) (fun q hq => (unhide HR).1.block q (World.ownsRow.lt hr q hq).2)
          obtain ⟨gv, cp', e1, -⟩ := own_open hr (by omega)
          simp only [Value.slice.injEq] at e1
          obtain ⟨e1a, -, -⟩ := e1
          subst e1a
          obtain ⟨z, hz⟩ : ∃ z, l = [.int .i64 z] := ⟨_, hml⟩
          rw [hz] at hl hml
          have t0 : wr.cell? ⟨gv, k, none⟩ = some (.int .i64 z) := own_cell hr2 rfl (by simpa using hl 0 _ rfl)
          have c1 := (unhide HR).2
          have XX : Hid (∀ W, Below wr.heap.size wr W → Below wo.heap.size wo W ∧ W.cell? ⟨wo.heap.size, 1, none⟩ = some (.int .i64 (n : Int))) := fun W hb => ⟨bw_tr (unhide HR).1 hb, by rw [World.cell?_of_block (w := wr) (hb.block _ (lt_of_cell c1))]; exact c1⟩
          have hb1 : Below wr.heap.size wr wr := Below.refl _ _
          have KI := hide (unhide HK z hml wr)
          have hwl := lt_of_cell c1
          clear hmk hr hlen hml hl hr2 hz HR
          go_wp2_with fail
          refine (unhide KI).mono ?_
          rintro e w5 ⟨rfl, b5⟩
          have X5 := hide (unhide XX _ (bw_tr hb1 b5))
          clear KI b5 XX c1 t0
          go_wp2_with fail
          go_roundw
          case rel => exact ⟨k + 1, by go_num, by omega, X5⟩
          case measure => simp only [intOf]; omega
        · obtain rfl : k = M := by omega
          have hb9 := bw_tr (unhide HB) (unhide HR).1
          clear HR
          go_wp2_with fail
          go_roundw
          case rel => exact ⟨i + 1, by go_num, by omega, hb9⟩
          case measure => simp only [intOf]; omega
    · obtain rfl : i = N := by omega
      go_wp2_with fail
      go_ret
      exact ⟨rfl, hbel⟩
end Go.Proofs.YtnfhbmlmemifjaaGreatDoor

/- The contract of fillNode of a Book: each kept list is marks then. -/
namespace Go.Proofs.YtnfhbmlmemifjaaGreatDoor
open Go.RowKit Go.Maps
theorem markNode_b (n : Nat) (w : World) (h : n ≤ 1150000) : Calls Tryz.prog 213 #[.int .i64 (n : Int)] w fun e w' => ∃ z, e = .returned (.agg #[.int .i64 z, .int .i64 0, .int .i64 0, .slice none 0 0]) ∧ mkNode n [.int .i64 z, .int .i64 0, .int .i64 0, .slice none 0 0] ∧ Below w.heap.size w w' := (markNode_any n w (by omega)).mono (fun e w' h => ⟨mkI n, h.1, rfl, h.2⟩)
set_option maxRecDepth 100000 in
set_option maxHeartbeats 4000000 in
theorem fillNode_b (B b : Nat) (cnt : Int) (F : Nat → Value) (es : List Ent) (X : Nat → List Value) (w : World) (hb : w.heap[b]? = some (.cells (bookF cnt F) 81 (0, 0))) (h : Ke kdNode B w (F 19) es X) (hB : B ≤ w.heap.size) (hN : es.length ≤ 1150000) (hes : ∀ x ∈ es, x.n ≤ 1150000 ∧ x.m ≤ 1150000) :
    Calls Tryz.prog 75 #[.pointer (some ⟨b, 0, none⟩)] w fun e w' => e = .returned (.tuple #[]) ∧ (∃ X', Ke kdNode B w' (F 19) es X' ∧ ∀ i x, es[i]? = some x → Mks (mkNode x.n) 4 x.m (X' i)) ∧ Tf [256] B w w' := by
  have c2 := book_cell hb (k := 19) (by decide) (by decide)
  obtain ⟨a, cap, hF⟩ := h.form
  rw [hF] at c2 h ⊢
  have HC : Hid (∀ w', Tf [256] B w w' → w'.cell? ⟨b, 19, none⟩ = some (.slice a es.length cap)) := fun w' ht => by
    have := book_cell (ht.blk hb (by decide)) (k := 19) (by decide) (by decide)
    rw [hF] at this; exact this
  have HL := hide (And.intro h hes)
  have hNI : ((es.length : Nat) : Int) ≤ 1150000 := by omega
  clear hF h hes hb hN
  obtain ⟨N, hN⟩ : ∃ N, N = es.length := ⟨_, rfl⟩
  rw [← hN] at c2 HC HL hNI ⊢
  have HN := hide hN
  clear hN
  go_enter Tryz.func75, Tryz.ntmps75
  go_wp2_with fail
  go_loopw [10] (fun iv wr => ∃ (i : Nat) (X' : Nat → List Value), iv = .int .i64 (i : Int) ∧ i ≤ N ∧ Hid (Ke kdNode B wr (.slice a N cap) es X' ∧ (∀ j x, es[j]? = some x → j < i → Mks (mkNode x.n) 4 x.m (X' j)) ∧ Tf [256] B w wr)) (fun iv _ => (N - intOf iv).toNat)
  case atStart => exact ⟨0, X, rfl, by omega, ⟨(unhide HL).1, fun j x _ hj => by omega, Tf.refl _ _ _⟩⟩
  case round =>
    obtain ⟨i, X', rfl, hi, hst⟩ := hrel
    by_cases hin : i < N
    · obtain ⟨x, hx⟩ : ∃ x, es[i]? = some x := ⟨_, List.getElem?_eq_getElem (by rw [← unhide HN]; exact hin)⟩
      obtain ⟨hxn, hxm⟩ := (unhide HL).2 x (List.mem_of_getElem? hx)
      obtain ⟨g, rfl, hBg, d1, d2, -, -⟩ := (unhide hst).1.entry hx
      obtain ⟨p, cp, hxv⟩ := own_slice ((unhide hst).1.row i x hx)
      rw [hxv] at d1
      have e2 := unhide HC wr (unhide hst).2.2
      have hiN : (i : Int) < (N : Int) := by omega
      have hi0 : (0 : Int) ≤ (i : Int) := by omega
      have K := hide (fun w' => markNode_b x.n w' hxn)
      have HX := hide (And.intro hx hxv)
      have hMI : ((x.m : Nat) : Int) ≤ 1150000 := by omega
      obtain ⟨M, hM⟩ : ∃ M, M = x.m := ⟨_, rfl⟩
      obtain ⟨n, hn⟩ : ∃ n, n = x.n := ⟨_, rfl⟩
      have hst2 : Hid (Ke kdNode B wr (.slice (some ⟨g, 0, none⟩) N cap) es X' ∧ (∀ j y, es[j]? = some y → j < i → Mks (mkNode y.n) 4 y.m (X' j)) ∧ (∃ pre rest, X' i = pre ++ rest ∧ Mks (mkNode n) 4 0 pre) ∧ Tf [256] B w wr) := ⟨(unhide hst).1, (unhide hst).2.1, ⟨[], X' i, rfl, Mks.nil _ _⟩, (unhide hst).2.2⟩
      rw [← hM] at d1 HX hMI
      rw [← hn] at d2 K
      have HMn := hide (And.intro hM hn)
      clear hx hxn hxm hBg hxv hst hM hn
      go_wp2_with fail
      go_loopw [24] (fun kv wq => ∃ (k : Nat) (X' : Nat → List Value), kv = .int .i64 (k : Int) ∧ k ≤ M ∧ Hid (Ke kdNode B wq (.slice (some ⟨g, 0, none⟩) N cap) es X' ∧ (∀ j y, es[j]? = some y → j < i → Mks (mkNode y.n) 4 y.m (X' j)) ∧ (∃ pre rest, X' i = pre ++ rest ∧ Mks (mkNode n) 4 k pre) ∧ Tf [256] B w wq)) (fun kv _ => (M - intOf kv).toNat)
      case atStart => exact ⟨0, X', rfl, by omega, hst2⟩
      case round =>
        clear hst2
        obtain ⟨k, Xq, rfl, hk, hsq⟩ := hrel
        by_cases hkM : k < M
        · obtain ⟨hK, hmk, ⟨pre, rest, hXi, hpre⟩, hTf⟩ := unhide hsq
          obtain ⟨hx, hxv⟩ := unhide HX
          obtain ⟨hMe, hne_⟩ := unhide HMn
          have hr := hK.row i x hx
          rw [hXi] at hr
          have hlen : (pre ++ rest).length = x.m * 4 := hr.1
          have hpl := hpre.len
          have hrl : 4 ≤ rest.length := by simp at hlen; omega
          obtain ⟨gv, cp', e1, hgl, -, -⟩ := own_open hr (by omega)
          rw [hxv] at e1
          simp only [Value.slice.injEq] at e1
          obtain ⟨e1a, -, -⟩ := e1
          subst e1a
          rw [hxv] at hr
          obtain ⟨y0, hy0⟩ : ∃ y, (pre ++ rest)[k * 4]? = some y := ⟨_, List.getElem?_eq_getElem (by omega)⟩
          obtain ⟨y1, hy1⟩ : ∃ y, (pre ++ rest)[k * 4 + 1]? = some y := ⟨_, List.getElem?_eq_getElem (by omega)⟩
          obtain ⟨y2, hy2⟩ : ∃ y, (pre ++ rest)[k * 4 + 2]? = some y := ⟨_, List.getElem?_eq_getElem (by omega)⟩
          obtain ⟨y3, hy3⟩ : ∃ y, (pre ++ rest)[k * 4 + 3]? = some y := ⟨_, List.getElem?_eq_getElem (by omega)⟩
          have yc0 := own_cell hr rfl hy0; have yc1 := own_cell hr rfl hy1; have yc2 := own_cell hr rfl hy2; have yc3 := own_cell hr rfl hy3
          obtain ⟨g', e', hBg, d1', d2', -, cur, hgc⟩ := hK.entry hx
          cases e'
          rw [hxv] at d1'
          rw [← hne_] at d2'
          obtain ⟨curv, hvc⟩ := own_kind hr (k := gv) rfl
          have hBv : B ≤ gv := (World.ownsRow.lt hr gv rfl).1
          have hne : g ≠ gv := by rintro rfl; rw [hgc] at hvc; simp at hvc; exact absurd hvc.2 (by decide)
          have S0 : wr.drew.cell? ⟨g, i * 2, none⟩ = some (.slice (some ⟨gv, 0, none⟩) M cp) ∧ wr.drew.cell? ⟨g, i * 2 + 1, none⟩ = some (.int .i64 (n : Int)) := ⟨d1', d2'⟩
          have HS1 : Hid (∀ z1, Below wr.drew.heap.size wr.drew z1 → z1.cell? ⟨g, i * 2, none⟩ = some (.slice (some ⟨gv, 0, none⟩) M cp) ∧ z1.cell? ⟨g, i * 2 + 1, none⟩ = some (.int .i64 (n : Int))) := fun z1 b1 => by
            have hgl2 := lt_of_blk hgc
            exact ⟨by rw [b1.cell (p := ⟨g, i * 2, none⟩) hgl2]; exact S0.1, by rw [b1.cell (p := ⟨g, i * 2 + 1, none⟩) hgl2]; exact S0.2⟩
          have hfz : Hid (∀ z1, Below wr.drew.heap.size wr.drew z1 → ∀ j, z1.frozen? ⟨gv, j, none⟩ = false) := fun z1 b1 j => frozen_of_blk0 (cs := curv) (t := 256) (by rw [b1.block gv hgl]; exact hvc) j
          have HS : Hid (∀ z1 z, Below wr.drew.heap.size wr.drew z1 → mkNode n [.int .i64 z, .int .i64 0, .int .i64 0, .slice none 0 0] → ∃ X2 : Nat → List Value, Ke kdNode B ((((z1.setCell ⟨gv, k * 4, none⟩ (.int .i64 z)).setCell ⟨gv, k * 4 + 1, none⟩ (.int .i64 0)).setCell ⟨gv, k * 4 + 2, none⟩ (.int .i64 0)).setCell ⟨gv, k * 4 + 3, none⟩ (.slice none 0 0)) (.slice (some ⟨g, 0, none⟩) N cap) es X2 ∧ (∀ j y, es[j]? = some y → j < i → Mks (mkNode y.n) 4 y.m (X2 j)) ∧ (∃ pre' rest', X2 i = pre' ++ rest' ∧ Mks (mkNode n) 4 (k + 1) pre') ∧ Tf [256] B w ((((z1.setCell ⟨gv, k * 4, none⟩ (.int .i64 z)).setCell ⟨gv, k * 4 + 1, none⟩ (.int .i64 0)).setCell ⟨gv, k * 4 + 2, none⟩ (.int .i64 0)).setCell ⟨gv, k * 4 + 3, none⟩ (.slice none 0 0))) := fun z1 z b1 hm => by
            have hr1 : z1.ownsRow B 256 4 (.slice (some ⟨gv, 0, none⟩) M cp) x.m (pre ++ rest) := own_keep hr (fun q hq => by rw [b1.block q (World.ownsRow.lt hr q hq).2]; rfl)
            have o0 := own_set hr1 (g := gv) rfl (j := k * 4) (.int .i64 z)
            have o1 := own_set o0 (g := gv) rfl (j := k * 4 + 1) (.int .i64 0)
            have o2 := own_set o1 (g := gv) rfl (j := k * 4 + 2) (.int .i64 0)
            have o3 := own_set o2 (g := gv) rfl (j := k * 4 + 3) (.slice none 0 0)
            rw [set4_at _ _ _ _ (by rw [hpl]) hrl] at o3
            have hf : Fr [gv] z1 ((((z1.setCell ⟨gv, k * 4, none⟩ (.int .i64 z)).setCell ⟨gv, k * 4 + 1, none⟩ (.int .i64 0)).setCell ⟨gv, k * 4 + 2, none⟩ (.int .i64 0)).setCell ⟨gv, k * 4 + 3, none⟩ (.slice none 0 0)) := fr_set4 z1 gv (k * 4) (.int .i64 z) (.int .i64 0) (.int .i64 0) (.slice none 0 0)
            have hK1 : Ke kdNode B z1 (.slice (some ⟨g, 0, none⟩) N cap) es Xq := (hK.bw (w' := wr.drew) ⟨rfl, rfl, rfl, Nat.le_refl _, fun _ _ => rfl⟩).bw b1
            have hvc1 : z1.heap[gv]? = some (.cells curv 256 (0, 0)) := by rw [b1.block gv hgl]; exact hvc
            have hT1 : Tf [256] B w z1 := (hTf.drew).after b1 hB
            refine ⟨(fun j => if j = i then (pre ++ [.int .i64 z, .int .i64 0, .int .i64 0, .slice none 0 0]) ++ rest.drop 4 else Xq j), hK1.put hx (by rw [hxv]; exact hf) (by rw [hxv]; exact o3) (by decide), fun j y hy hj => ?_, ⟨pre ++ [.int .i64 z, .int .i64 0, .int .i64 0, .slice none 0 0], rest.drop 4, by simp, hpre.snoc rfl hm⟩, hT1.fr1 hf hvc1 (by simp) hBv⟩
            have : ¬ j = i := by omega
            simp only [this, if_false]
            exact hmk j y hy hj
          have hkM' : (k : Int) < (M : Int) := by omega
          have hk0 : (0 : Int) ≤ (k : Int) := by omega
          have e2q := unhide HC wr hTf
          have HGL := hide hgl
          clear hK hmk hXi hpre hTf hx hxv hMe hne_ hr hlen hpl hrl d1' d2' hgc hvc hBv hBg hsq hy0 hy1 hy2 hy3
          go_wp2_with fail
          first
          | go_region_held3 (fun w' : World => w'.cell? ⟨g, i * 2, none⟩ = some (.slice (some ⟨gv, 0, none⟩) M cp) ∧ w'.cell? ⟨g, i * 2 + 1, none⟩ = some (.int .i64 (n : Int))) (first | with_reducible exact S0 | with_reducible exact S1 | exact ⟨by rw [cell_set_other hne, cell_set_other hne, cell_set_other hne, cell_set_other hne]; exact S1.1, by rw [cell_set_other hne, cell_set_other hne, cell_set_other hne, cell_set_other hne]; exact S1.2⟩) (first
              | (go_at_call 213; refine (unhide K _).mono ?_; rintro e z1 ⟨z, rfl, hm, b1⟩; have S1 := unhide HS1 z1 b1; have hfz1 := unhide hfz z1 b1; have hgl := unhide HGL; have u0 : z1.cell? ⟨gv, k * 4, none⟩ = some y0 := (by rw [b1.cell (p := ⟨gv, k * 4, none⟩) hgl]; exact yc0); have u1 : z1.cell? ⟨gv, k * 4 + 1, none⟩ = some y1 := (by rw [b1.cell (p := ⟨gv, k * 4 + 1, none⟩) hgl]; exact yc1); have u2 : z1.cell? ⟨gv, k * 4 + 2, none⟩ = some y2 := (by rw [b1.cell (p := ⟨gv, k * 4 + 2, none⟩) hgl]; exact yc2); have u3 : z1.cell? ⟨gv, k * 4 + 3, none⟩ = some y3 := (by rw [b1.cell (p := ⟨gv, k * 4 + 3, none⟩) hgl]; exact yc3); have v0 := hfz1 (k * 4); have v1 := hfz1 (k * 4 + 1); have v2 := hfz1 (k * 4 + 2); have v3 := hfz1 (k * 4 + 3)) | fail)
          | fail
          all_goals
            obtain ⟨X2, HZ⟩ := unhide HS z1 z b1 hm
            have HZ2 := hide HZ
            clear S1 hfz1 hm b1 HZ
            go_wp2_with fail
            go_roundw
            case rel => exact ⟨k + 1, X2, by go_num, by omega, HZ2⟩
            case measure => simp only [intOf]; omega
        · obtain rfl : k = M := by omega
          have HX3 : Hid (Ke kdNode B wr (.slice (some ⟨g, 0, none⟩) N cap) es Xq ∧ (∀ j x, es[j]? = some x → j < i + 1 → Mks (mkNode x.n) 4 x.m (Xq j)) ∧ Tf [256] B w wr) := by
            obtain ⟨hK, hmk, ⟨pre, rest, hXi, hpre⟩, hTf⟩ := unhide hsq
            refine ⟨hK, fun j y hy hj => ?_, hTf⟩
            rcases Nat.lt_or_ge j i with c | c
            · exact hmk j y hy c
            · obtain rfl : j = i := by omega
              obtain ⟨hx, -⟩ := unhide HX
              rw [hx] at hy
              cases hy
              have hr := hK.row j x hx
              rw [hXi] at hr
              have hlen : (pre ++ rest).length = x.m * 4 := hr.1
              have hpl := hpre.len
              obtain ⟨hMe, hne_⟩ := unhide HMn
              have : rest = [] := List.eq_nil_of_length_eq_zero (by simp at hlen; rw [hMe] at hpl; omega)
              subst this
              rw [hXi, List.append_nil, ← hMe, ← hne_]
              exact hpre
          clear hsq
          go_wp2_with fail
          go_roundw
          case rel => exact ⟨i + 1, Xq, by go_num, by omega, HX3⟩
          case measure => simp only [intOf]; omega
    · obtain rfl : i = N := by omega
      go_wp2_with fail
      go_end0
      refine ⟨rfl, ⟨X', (unhide hst).1, fun j x hx => (unhide hst).2.1 j x hx ?_⟩, (unhide hst).2.2⟩
      rw [unhide HN]; exact (List.getElem?_eq_some_iff.1 hx).1
end Go.Proofs.YtnfhbmlmemifjaaGreatDoor

/- The contract of growNode of a Book: three marks more behind each kept list. -/
namespace Go.Proofs.YtnfhbmlmemifjaaGreatDoor
open Go.RowKit Go.Maps
def MkdNode (es : List Ent) (X : Nat → List Value) : Prop := ∀ i x, es[i]? = some x → Mks (mkNode x.n) 4 x.m (X i)
set_option maxRecDepth 100000 in
set_option maxHeartbeats 4000000 in
theorem growNode_b (B b : Nat) (cnt : Int) (F : Nat → Value) (es : List Ent) (X : Nat → List Value) (w : World) (hb : w.heap[b]? = some (.cells (bookF cnt F) 81 (0, 0))) (h : Ke kdNode B w (F 19) es X) (hB : B ≤ w.heap.size) (hN : es.length ≤ 1150000) (hes : ∀ x ∈ es, x.n ≤ 1150000 ∧ x.m ≤ 1150000) (hmk : MkdNode es X) :
    Calls Tryz.prog 108 #[.pointer (some ⟨b, 0, none⟩)] w fun e w' => e = .returned (.tuple #[]) ∧ (∃ es' X', Ke kdNode B w' (F 19) es' X' ∧ es'.length = es.length ∧ (∀ x ∈ es', x.n ≤ 1150000 ∧ x.m ≤ 1150003) ∧ MkdNode es' X') ∧ Tf [256, 254] B w w' := by
  obtain ⟨i0, hi0, hz0, hz1, hz2⟩ := info_parts infoNode
  have c2 := book_cell hb (k := 19) (by decide) (by decide)
  obtain ⟨a, cap, hF⟩ := h.form
  rw [hF] at c2 h ⊢
  have HC : Hid (∀ w', Tf [256, 254] B w w' → w'.cell? ⟨b, 19, none⟩ = some (.slice a es.length cap)) := fun w' ht => by
    have := book_cell (ht.blk hb (by decide)) (k := 19) (by decide) (by decide)
    rw [hF] at this; exact this
  have HL : Hid (Ke kdNode B w (.slice a es.length cap) es X ∧ MkdNode es X ∧ ∀ (j : Nat) (x : Ent), es[j]? = some x → x.n ≤ 1150000 ∧ x.m ≤ 1150000) := ⟨h, hmk, fun j x hx => hes x (List.mem_of_getElem? hx)⟩
  have hNI : ((es.length : Nat) : Int) ≤ 1150000 := by omega
  clear hF h hes hb hN hmk
  obtain ⟨N, hN⟩ : ∃ N, N = es.length := ⟨_, rfl⟩
  rw [← hN] at c2 HC HL hNI ⊢
  have HN := hide hN
  clear hN
  go_enter Tryz.func108, Tryz.ntmps108
  go_wp2_with fail
  go_loopw [10] (fun iv wr => ∃ (i : Nat) (es' : List Ent) (X' : Nat → List Value), iv = .int .i64 (i : Int) ∧ i ≤ N ∧ Hid (Ke kdNode B wr (.slice a N cap) es' X' ∧ es'.length = N ∧ MkdNode es' X' ∧ (∀ (j : Nat) (x : Ent), es'[j]? = some x → x.n ≤ 1150000 ∧ x.m ≤ 1150000 + (if j < i then 3 else 0)) ∧ Tf [256, 254] B w wr)) (fun iv _ => (N - intOf iv).toNat)
  case atStart => exact ⟨0, es, X, rfl, by omega, ⟨(unhide HL).1, (unhide HN).symm, (unhide HL).2.1, fun j x hx => by simpa using (unhide HL).2.2 j x hx, Tf.refl _ _ _⟩⟩
  case round =>
    obtain ⟨i, es', X', rfl, hi, hst⟩ := hrel
    by_cases hin : i < N
    · have e2 := unhide HC wr (unhide hst).2.2.2.2
      obtain ⟨x0, hx0⟩ : ∃ x, es'[i]? = some x := ⟨_, List.getElem?_eq_getElem (by rw [(unhide hst).2.1]; exact hin)⟩
      obtain ⟨g, rfl, -⟩ := (unhide hst).1.entry hx0
      have hiN : (i : Int) < (N : Int) := by omega
      have hi0' : (0 : Int) ≤ (i : Int) := by omega
      have hst2 : Hid (Ke kdNode B wr (.slice (some ⟨g, 0, none⟩) N cap) es' X' ∧ es'.length = N ∧ MkdNode es' X' ∧ (∀ (j : Nat) (x : Ent), es'[j]? = some x → x.n ≤ 1150000 ∧ x.m ≤ 1150000 + (if j < i then 3 else if j = i then 0 else 0)) ∧ Tf [256, 254] B w wr) := by
        obtain ⟨h1, h2, h3, h4, h5⟩ := unhide hst
        exact ⟨h1, h2, h3, fun j x hx => by have := h4 j x hx; by_cases q : j < i <;> by_cases q2 : j = i <;> simp [q, q2] at this ⊢ <;> omega, h5⟩
      clear hx0 hst
      go_wp2_with fail
      go_loopw [4] (fun kv wq => ∃ (k : Nat) (es' : List Ent) (X' : Nat → List Value), kv = .int .i64 (k : Int) ∧ k ≤ 3 ∧ Hid (Ke kdNode B wq (.slice (some ⟨g, 0, none⟩) N cap) es' X' ∧ es'.length = N ∧ MkdNode es' X' ∧ (∀ (j : Nat) (x : Ent), es'[j]? = some x → x.n ≤ 1150000 ∧ x.m ≤ 1150000 + (if j < i then 3 else if j = i then k else 0)) ∧ Tf [256, 254] B w wq)) (fun kv _ => (3 - intOf kv).toNat)
      case atStart => exact ⟨0, es', X', rfl, by omega, hst2⟩
      case round =>
        clear hst2
        obtain ⟨k, eq, Xq, rfl, hk, hsq⟩ := hrel
        by_cases hk3 : k < 3
        · obtain ⟨hK, hlen, hmq, hbd, hTf⟩ := unhide hsq
          obtain ⟨x, hx⟩ : ∃ x, eq[i]? = some x := ⟨_, List.getElem?_eq_getElem (by rw [hlen]; exact hin)⟩
          obtain ⟨hxn, hxm⟩ := hbd i x hx
          have hxm2 : x.m ≤ 1150003 := by simp at hxm; omega
          obtain ⟨g', e', hBg, d1, d2, -, cur, hgc⟩ := hK.entry hx
          cases e'
          obtain ⟨p, cp, hxv⟩ := own_slice (hK.row i x hx)
          have hmx : x.m + 1 ≤ maxLen := by unfold maxLen; omega
          have hby : (x.m + 1) * 48 ≤ 140737488355328 := by omega
          have hBw : B ≤ wr.heap.size := Nat.le_trans hB hTf.size
          have HK : Hid (∀ w', Calls Tryz.prog 213 #[.int .i64 (x.n : Int)] w' fun e w'' => ∃ z, e = .returned (.agg #[.int .i64 z, .int .i64 0, .int .i64 0, .slice none 0 0]) ∧ mkNode x.n [.int .i64 z, .int .i64 0, .int .i64 0, .slice none 0 0] ∧ Below w'.heap.size w' w'') := fun w' => markNode_b x.n w' hxn
          have HA : Hid (∀ W, Below wr.heap.size wr W → W.cell? ⟨g, i * 2, none⟩ = some x.v ∧ W.ownsRow B 256 4 x.v x.m (Xq i) ∧ Ke kdNode B W (.slice (some ⟨g, 0, none⟩) N cap) eq Xq ∧ B ≤ W.heap.size ∧ Tf [256, 254] B w W) := fun W hb => by
            have hK2 := hK.bw hb
            obtain ⟨g2, e2', -, d1', -⟩ := hK2.entry hx
            cases e2'
            exact ⟨d1', hK2.row i x hx, hK2, Nat.le_trans hBw hb.size, hTf.after hb hB⟩
          have HM := hide (And.intro hmx hby)
          have HS : Hid (∀ (v' : Value) z, mkNode x.n [.int .i64 z, .int .i64 0, .int .i64 0, .slice none 0 0] → (eq.set i ⟨v', x.n, x.m + 1⟩).length = N ∧ MkdNode (eq.set i ⟨v', x.n, x.m + 1⟩) (fun j => if j = i then Xq i ++ [.int .i64 z, .int .i64 0, .int .i64 0, .slice none 0 0] else Xq j) ∧ (∀ (j : Nat) (y : Ent), (eq.set i ⟨v', x.n, x.m + 1⟩)[j]? = some y → y.n ≤ 1150000 ∧ y.m ≤ 1150000 + (if j < i then 3 else if j = i then k + 1 else 0))) := fun v' z hm => by
            have hil : i < eq.length := by rw [hlen]; exact hin
            refine ⟨by simp [hlen], fun j y hy => ?_, fun j y hy => ?_⟩
            · by_cases q : j = i
              · subst q
                rw [List.getElem?_set_self hil] at hy
                cases hy
                simp only [if_true]
                exact (hmq j x hx).snoc rfl hm
              · rw [List.getElem?_set_ne (Ne.symm q)] at hy
                simp only [q, if_false]
                exact hmq j y hy
            · by_cases q : j = i
              · subst q
                rw [List.getElem?_set_self hil] at hy
                cases hy
                simp at hxm ⊢
                omega
              · rw [List.getElem?_set_ne (Ne.symm q)] at hy
                have := hbd j y hy
                simp only [q, if_false] at this ⊢
                exact this
          have bA : Below wr.heap.size wr wr.drew := (Below.refl _ _).drew
          obtain ⟨v, hv⟩ : ∃ v, v = x.v := ⟨_, rfl⟩
          have hxv2 : v = .slice p x.m cp := by rw [hv]; exact hxv
          rw [← hv] at d1 HA
          have HV := hide hv
          have HX := hide hx
          have hkI : (k : Int) < 3 := by omega
          have e2q := unhide HC wr hTf
          subst hxv2
          have HBw := hide hBw
          obtain ⟨xm, hxm3⟩ : ∃ xm, xm = x.m := ⟨_, rfl⟩
          rw [← hxm3] at d1 HA HM HV
          have HXM := hide hxm3
          clear hK hlen hmq hbd hTf hx hxn hxm hxm2 hBg hgc hxv hmx hby hBw hv hsq hxm3
          go_wp2_with fail
          go_region_law (first | (refine step_app rfl (.tmp 27) (.tmp 33) 30 rfl B 256 i0 (.agg #[.int .i64 0, .int .i64 0, .int .i64 0, .slice none 0 0]) 4 48 Tryz.underlying30 hi0 hz0 hz1 hz2 rfl (by decide) (.slice p xm cp) xm (Xq i) (by simp [Act.eval]) (World.ownsRow.alloc X1.2.1 _) ⟨z1.heap.size, 0, none⟩ 1 1 [.int .i64 z, .int .i64 0, .int .i64 0, .slice none 0 0] (by simp [Act.eval]) rfl (cells_newB4 z1 _ _ _ _ _) (oneNode z) (unhide HM).1 (unhide HM).2 (Nat.le_trans X1.2.2.2.1 (by simp)) ?_; intro v' w1 hown' hgrow hat; have X3 := (X1.2.2.1).grown (unhide HX) ((Fr.refl [] z1).alloc _) (v' := v') (news := [.int .i64 z, .int .i64 0, .int .i64 0, .slice none 0 0]) (by rw [← unhide HXM]; exact hown') (by rw [← unhide HV]; exact hgrow) (by rw [← unhide HV]; exact hat) X1.2.2.2.1 (by decide); obtain ⟨k1, k2, k3, k4⟩ := X3; rw [← unhide HV] at k3; obtain ⟨gv, cpv, rfl⟩ := row_formB hown') | (go_simp; go_wp2_with (first | (go_at_call 213; refine (unhide HK _).mono ?_; rintro e z1 ⟨z, rfl, hm, b1⟩; have b2 := bw_tr bA b1; have X1 := unhide HA _ b2; have x1 := X1.1; have X2 := unhide HA _ (bw_tr b2 (bwA z1 (.cells #[.int .i64 z, .int .i64 0, .int .i64 0, .slice none 0 0] 256))); have x2 := X2.1))))
          all_goals
            have hz := unhide HS (.slice (some ⟨gv, 0, none⟩) (xm + 1) cpv) z hm
            obtain ⟨E2, X2', HZ⟩ : ∃ E2 X2', Hid (Ke kdNode B ((w1).setCell ⟨g, i * 2, none⟩ (.slice (some ⟨gv, 0, none⟩) (xm + 1) cpv)) (.slice (some ⟨g, 0, none⟩) N cap) E2 X2' ∧ E2.length = N ∧ MkdNode E2 X2' ∧ (∀ (j : Nat) (y : Ent), E2[j]? = some y → y.n ≤ 1150000 ∧ y.m ≤ 1150000 + (if j < i then 3 else if j = i then k + 1 else 0)) ∧ Tf [256, 254] B w ((w1).setCell ⟨g, i * 2, none⟩ (.slice (some ⟨gv, 0, none⟩) (xm + 1) cpv))) :=
              ⟨eq.set i ⟨.slice (some ⟨gv, 0, none⟩) (xm + 1) cpv, x.n, x.m + 1⟩, fun j => if j = i then Xq i ++ [.int .i64 z, .int .i64 0, .int .i64 0, .slice none 0 0] else Xq j, k1, hz.1, hz.2.1, hz.2.2, X1.2.2.2.2.trans k2⟩
            clear k1 k2 X1 X2 hm hz
            go_wp2_with fail
            go_roundw
            case rel => exact ⟨k + 1, E2, X2', by go_num, by omega, HZ⟩
            case measure => simp only [intOf]; omega
        · obtain rfl : k = 3 := by omega
          have HX3 : Hid (Ke kdNode B wr (.slice (some ⟨g, 0, none⟩) N cap) eq Xq ∧ eq.length = N ∧ MkdNode eq Xq ∧ (∀ (j : Nat) (x : Ent), eq[j]? = some x → x.n ≤ 1150000 ∧ x.m ≤ 1150000 + (if j < i + 1 then 3 else 0)) ∧ Tf [256, 254] B w wr) := by
            obtain ⟨h1, h2, h3, h4, h5⟩ := unhide hsq
            refine ⟨h1, h2, h3, fun j x hx => ?_, h5⟩
            have := h4 j x hx
            refine ⟨this.1, Nat.le_trans this.2 (Nat.add_le_add_left ?_ _)⟩
            by_cases q : j < i
            · rw [if_pos q, if_pos (by omega)]; exact Nat.le_refl _
            · by_cases q2 : j = i
              · rw [if_neg q, if_pos q2, if_pos (by omega)]; exact Nat.le_refl _
              · rw [if_neg q, if_neg q2]; omega
          clear hsq
          go_wp2_with fail
          go_roundw
          case rel => exact ⟨i + 1, eq, Xq, by go_num, by omega, HX3⟩
          case measure => simp only [intOf]; omega
    · obtain rfl : i = N := by omega
      go_wp2_with fail
      go_end0
      obtain ⟨h1, h2, h3, h4, h5⟩ := unhide hst
      refine ⟨rfl, ⟨es', X', h1, h2, fun x hx => ?_, h3⟩, h5⟩
      obtain ⟨j, hj⟩ := List.mem_iff_getElem?.1 hx
      have := h4 j x hj
      refine ⟨this.1, Nat.le_trans this.2 ?_⟩
      split <;> omega
end Go.Proofs.YtnfhbmlmemifjaaGreatDoor

/- The contract of lookNode of a Book: marks are found. -/
namespace Go.Proofs.YtnfhbmlmemifjaaGreatDoor
open Go.RowKit Go.Maps
theorem isNode_b (n : Nat) (z : Int) (hz : mkNode n [.int .i64 z, .int .i64 0, .int .i64 0, .slice none 0 0]) (w : World) (h : n ≤ 1150000) : Calls Tryz.prog 245 #[.agg #[.int .i64 z, .int .i64 0, .int .i64 0, .slice none 0 0], .int .i64 (n : Int)] w fun e w' => e = .returned (.bool true) ∧ Below w.heap.size w w' := by
  obtain rfl : z = mkI n := by unfold mkNode at hz; simpa using hz
  exact (isNode_any n w (by omega))
set_option maxRecDepth 100000 in
set_option maxHeartbeats 4000000 in
theorem lookNode_b (B b : Nat) (cnt : Int) (F : Nat → Value) (es : List Ent) (X : Nat → List Value) (w : World) (hb : w.heap[b]? = some (.cells (bookF cnt F) 81 (0, 0))) (h : Ke kdNode B w (F 19) es X) (hN : es.length ≤ 1150000) (hes : ∀ x ∈ es, x.n ≤ 1150000 ∧ x.m ≤ 1150003) (hmk : MkdNode es X) :
    Calls Tryz.prog 142 #[.pointer (some ⟨b, 0, none⟩)] w fun e w' => e = .returned (.bool true) ∧ Below w.heap.size w w' := by
  have c2 := book_cell hb (k := 19) (by decide) (by decide)
  obtain ⟨a, cap, hF⟩ := h.form
  rw [hF] at c2 h
  have HL := hide (And.intro h (And.intro hes hmk))
  have hNI : ((es.length : Nat) : Int) ≤ 1150000 := by omega
  clear hF h hes hb hN hmk
  obtain ⟨N, hN⟩ : ∃ N, N = es.length := ⟨_, rfl⟩
  rw [← hN] at c2 HL hNI
  have HN := hide hN
  clear hN
  go_enter Tryz.func142, Tryz.ntmps142
  go_wp2_with fail
  go_loopw [12] (fun iv wr => ∃ i : Nat, iv = .int .i64 (i : Int) ∧ i ≤ N ∧ Below w.heap.size w wr) (fun iv _ => (N - intOf iv).toNat)
  case atStart => exact ⟨0, rfl, by omega, Below.refl _ _⟩
  case round =>
    obtain ⟨i, rfl, hi, hbel⟩ := hrel
    by_cases hin : i < N
    · obtain ⟨x, hx⟩ : ∃ x, es[i]? = some x := ⟨_, List.getElem?_eq_getElem (by rw [← unhide HN]; exact hin)⟩
      have hK := (unhide HL).1.bw hbel
      obtain ⟨hxn, hxm⟩ := (unhide HL).2.1 x (List.mem_of_getElem? hx)
      have hmk := (unhide HL).2.2 i x hx
      obtain ⟨g, rfl, hBg, d1, d2, -, -⟩ := hK.entry hx
      have hr := hK.row i x hx
      obtain ⟨p, cp, hxv⟩ := own_slice hr
      rw [hxv] at d1 hr
      have hiN : (i : Int) < (N : Int) := by omega
      have hi0 : (0 : Int) ≤ (i : Int) := by omega
      have hMI : ((x.m : Nat) : Int) ≤ 1150003 := by omega
      obtain ⟨M, hM⟩ : ∃ M, M = x.m := ⟨_, rfl⟩
      obtain ⟨n, hn⟩ : ∃ n, n = x.n := ⟨_, rfl⟩
      rw [← hM] at d1 hMI hr hmk
      rw [← hn] at d2 hmk hxn
      have HV := hide (And.intro hmk hr)
      have HK : Hid (∀ z, mkNode n [.int .i64 z, .int .i64 0, .int .i64 0, .slice none 0 0] → ∀ w', Calls Tryz.prog 245 #[.agg #[.int .i64 z, .int .i64 0, .int .i64 0, .slice none 0 0], .int .i64 (n : Int)] w' fun e w'' => e = .returned (.bool true) ∧ Below w'.heap.size w' w'') := fun z hz w' => isNode_b n z hz w' hxn
      have start : Hid (Below wr.heap.size wr (wr.alloc (.cells #[.slice p M cp, .int .i64 (n : Int)] 254)) ∧ (wr.alloc (.cells #[.slice p M cp, .int .i64 (n : Int)] 254)).cell? ⟨wr.heap.size, 1, none⟩ = some (.int .i64 (n : Int))) := ⟨bwA _ _, cell_of_blk (heap_alloc_new _ _) rfl⟩
      have HB := hide hbel
      clear hM hn hmk hr hK hx hxn hxm hBg hxv hbel
      go_wp2_with fail
      rename World => wo
      go_loopw [19] (fun kv wq => ∃ k : Nat, kv = .int .i64 (k : Int) ∧ k ≤ M ∧ Hid (Below wo.heap.size wo wq ∧ wq.cell? ⟨wo.heap.size, 1, none⟩ = some (.int .i64 (n : Int)))) (fun kv _ => (M - intOf kv).toNat)
      case atStart => exact ⟨0, rfl, by omega, start⟩
      case round =>
        clear start
        obtain ⟨k, rfl, hk, HR⟩ := hrel
        by_cases hkM : k < M
        · have hkM' : (k : Int) < (M : Int) := by omega
          have hk0 : (0 : Int) ≤ (k : Int) := by omega
          obtain ⟨hmk, hr⟩ := unhide HV
          obtain ⟨l, hlen, hml, hl⟩ := hmk.get hkM
          have hr2 := own_keep hr (w' := wr) (fun q hq => (unhide HR).1.block q (World.ownsRow.lt hr q hq).2)
          obtain ⟨gv, cp', e1, -⟩ := own_open hr (by omega)
          simp only [Value.slice.injEq] at e1
          obtain ⟨e1a, -, -⟩ := e1
          subst e1a
          obtain ⟨z, hz⟩ : ∃ z, l = [.int .i64 z, .int .i64 0, .int .i64 0, .slice none 0 0] := ⟨_, hml⟩
          rw [hz] at hl hml
          have t0 : wr.cell? ⟨gv, k * 4, none⟩ = some (.int .i64 z) := own_cell hr2 rfl (by simpa using hl 0 _ rfl); have t1 : wr.cell? ⟨gv, k * 4 + 1, none⟩ = some (.int .i64 0) := own_cell hr2 rfl (hl 1 _ rfl); have t2 : wr.cell? ⟨gv, k * 4 + 2, none⟩ = some (.int .i64 0) := own_cell hr2 rfl (hl 2 _ rfl); have t3 : wr.cell? ⟨gv, k * 4 + 3, none⟩ = some (.slice none 0 0) := own_cell hr2 rfl (hl 3 _ rfl)
          have c1 := (unhide HR).2
          have XX : Hid (∀ W, Below wr.heap.size wr W → Below wo.heap.size wo W ∧ W.cell? ⟨wo.heap.size, 1, none⟩ = some (.int .i64 (n : Int))) := fun W hb => ⟨bw_tr (unhide HR).1 hb, by rw [World.cell?_of_block (w := wr) (hb.block _ (lt_of_cell c1))]; exact c1⟩
          have hb1 : Below wr.heap.size wr (wr.alloc (.cells #[.int .i64 z, .int .i64 0, .int .i64 0, .slice none 0 0] 256)) := bwA wr _
          have KI := hide (unhide HK z hml (wr.alloc (.cells #[.int .i64 z, .int .i64 0, .int .i64 0, .slice none 0 0] 256)))
          have hwl := lt_of_cell c1
          clear hmk hr hlen hml hl hr2 hz HR
          go_wp2_with fail
          refine (unhide KI).mono ?_
          rintro e w5 ⟨rfl, b5⟩
          have X5 := hide (unhide XX _ (bw_tr hb1 b5))
          clear KI b5 XX c1 t0 t1 t2 t3
          go_wp2_with fail
          go_roundw
          case rel => exact ⟨k + 1, by go_num, by omega, X5⟩
          case measure => simp only [intOf]; omega
        · obtain rfl : k = M := by omega
          have hb9 := bw_tr (unhide HB) (unhide HR).1
          clear HR
          go_wp2_with fail
          go_roundw
          case rel => exact ⟨i + 1, by go_num, by omega, hb9⟩
          case measure => simp only [intOf]; omega
    · obtain rfl : i = N := by omega
      go_wp2_with fail
      go_ret
      exact ⟨rfl, hbel⟩
end Go.Proofs.YtnfhbmlmemifjaaGreatDoor
