/- Texts joined: ScC NDdMem PaA PaB PaC PaD PaE. -/
import Derived.Test.YtpcpcgagiapinaaGreatDoorZ17
import Derived.Test.YtpcpcgagiapinaaGreatDoorZ16
import Derived.Test.YtpcpcgagiapinaaGreatDoorZ05
/- The contracts of sched.Next and sched.From. -/
namespace Go.Proofs.YtpcpcgagiapinaaGreatDoor.Tn
open Go.RowKit Go.Maps
end Go.Proofs.YtpcpcgagiapinaaGreatDoor.Tn

/- What is known, in memory: the marks, the places and the links of package deduce. And resources that lie apart. No walk is in this text. -/
namespace Go.Proofs.YtpcpcgagiapinaaGreatDoor.Tn
open Go.RowKit Go.Maps
theorem own_keep {B : Nat} {w w' : World} {e : TypeId} {c : Nat} {v : Value} {n : Nat} {xs : List Value} (h : w.ownsRow B e c v n xs) (hb : ∀ k, v.ownBlock = some k → w'.heap[k]? = w.heap[k]?) : w'.ownsRow B e c v n xs := by
  refine ⟨h.1, ?_⟩
  rcases h.2 with h2 | ⟨g, cap, cur, hv, h0, hg, r⟩
  · exact Or.inl h2
  · exact Or.inr ⟨g, cap, cur, hv, h0, by rw [hb g (by rw [hv]; rfl)]; exact hg, r⟩
theorem own_kind {B : Nat} {w : World} {e : TypeId} {c : Nat} {v : Value} {n : Nat} {xs : List Value} (h : w.ownsRow B e c v n xs) {k : Nat} (hk : v.ownBlock = some k) : ∃ cur, w.heap[k]? = some (.cells cur e (0, 0)) := by
  rcases h.2 with ⟨rfl, _⟩ | ⟨g, cap, cur, rfl, _, hg, _⟩
  · cases hk
  · simp [Value.ownBlock] at hk; subst hk; exact ⟨cur, hg⟩
theorem own_apart {B B' : Nat} {w : World} {e e' : TypeId} {c c' : Nat} {v v' : Value} {n n' : Nat} {xs xs' : List Value} (h : w.ownsRow B e c v n xs) (h' : w.ownsRow B' e' c' v' n' xs') (he : e ≠ e') {k : Nat} (hk : v.ownBlock = some k) : v'.ownBlock ≠ some k := by
  intro q
  obtain ⟨_, h1⟩ := own_kind h hk
  obtain ⟨_, h2⟩ := own_kind h' q
  rw [h1] at h2
  simp only [Option.some.injEq, Obj.cells.injEq] at h2
  exact he h2.2.1
theorem own_block_ne {B : Nat} {w : World} {e T : TypeId} {c : Nat} {v : Value} {n b : Nat} {xs : List Value} {cs : Array Value} {z : Nat × Nat} (h : w.ownsRow B e c v n xs) (hb : w.heap[b]? = some (.cells cs T z)) (he : e ≠ T) : v.ownBlock ≠ some b := by
  intro q
  obtain ⟨_, h1⟩ := own_kind h q
  rw [hb] at h1
  simp only [Option.some.injEq, Obj.cells.injEq] at h1
  exact he h1.2.1.symm
theorem own_cell {B : Nat} {w : World} {e : TypeId} {c : Nat} {v : Value} {n : Nat} {xs : List Value} (h : w.ownsRow B e c v n xs) {g : Nat} (hg : v.ownBlock = some g) {j : Nat} {u : Value} (hj : xs[j]? = some u) : w.cell? ⟨g, j, none⟩ = some u := by
  have := World.ownsRow.cells h hg j u hj
  cases j <;> simpa [Addr.add] using this
theorem own_open {B : Nat} {w : World} {e : TypeId} {c : Nat} {v : Value} {n : Nat} {xs : List Value} (h : w.ownsRow B e c v n xs) (hn : 0 < n) : ∃ g cap, v = .slice (some ⟨g, 0, none⟩) n cap ∧ g < w.heap.size ∧ n ≤ cap ∧ w.frozen? ⟨g, 0, none⟩ = false := by
  rcases h.2 with ⟨_, h2⟩ | ⟨g, cap, cur, hv, _, hg, h1, _⟩
  · omega
  · exact ⟨g, cap, hv, lt_of_blk hg, h1, by simp [World.frozen?, hg]⟩
theorem own_slice {B : Nat} {w : World} {e : TypeId} {c : Nat} {v : Value} {n : Nat} {xs : List Value} (h : w.ownsRow B e c v n xs) : ∃ a cap, v = .slice a n cap := by
  rcases h.2 with ⟨h1, h2⟩ | ⟨g, cap, cur, hv, _⟩
  · exact ⟨none, 0, by rw [h1, h2]⟩
  · exact ⟨_, cap, hv⟩
theorem own_set {B : Nat} {w : World} {e : TypeId} {c : Nat} {v : Value} {n : Nat} {xs : List Value} (h : w.ownsRow B e c v n xs) {g : Nat} (hg : v.ownBlock = some g) {j : Nat} (u : Value) : (w.setCell ⟨g, j, none⟩ u).ownsRow B e c v n (xs.set j u) := by
  have h1 := h.1
  refine ⟨by simpa using h1, ?_⟩
  rcases h.2 with ⟨rfl, _⟩ | ⟨g', cap, cur, rfl, hB, hb, q1, q2, q3, q4⟩
  · cases hg
  · simp [Value.ownBlock] at hg
    subst hg
    refine Or.inr ⟨g', cap, cur.setIfInBounds j u, rfl, hB, by simp [World.setCell, Array.getElem?_modify, hb], q1, q2, by simpa using q3, ?_⟩
    rw [Array.toList_setIfInBounds, ← q4, List.take_set]
theorem own_frozen {B : Nat} {w : World} {e : TypeId} {c : Nat} {v : Value} {n : Nat} {xs : List Value} (h : w.ownsRow B e c v n xs) {g : Nat} (hg : v.ownBlock = some g) (j : Nat) : w.frozen? ⟨g, j, none⟩ = false := by
  obtain ⟨cur, hb⟩ := own_kind h hg
  simp [World.frozen?, hb]
def lnC (p : Nat × Nat) : List Value := [.int .i64 (p.1 : Int), .int .i64 (p.2 : Int)]
def BRow (w : World) (v : Value) (F : List Bool) : Prop := w.ownsRow 0 4 1 v F.length (F.map .bool)
def LRow (w : World) (v : Value) (l : List (Nat × Nat)) : Prop := w.ownsRow 0 151 2 v l.length (l.flatMap lnC)
theorem BRow.cell {w : World} {v : Value} {F : List Bool} (h : BRow w v F) {g : Nat} (hg : v.ownBlock = some g) {m : Nat} (hm : m < F.length) : w.cell? ⟨g, m, none⟩ = some (.bool (onB F m)) :=
  own_cell h hg (by simp [onB, List.getD, List.getElem?_eq_getElem hm])
theorem BRow.set {w : World} {v : Value} {F : List Bool} (h : BRow w v F) {g : Nat} (hg : v.ownBlock = some g) {m : Nat} (x : Bool) : BRow (w.setCell ⟨g, m, none⟩ (.bool x)) v (F.set m x) := by
  have := own_set h hg (j := m) (.bool x)
  unfold BRow
  rw [List.length_set, List.map_set]
  exact this
theorem nrow_cell {B : Nat} {w : World} {v : Value} {l : List Nat} (h : NRow B w v l) {g : Nat} (hg : v.ownBlock = some g) {m : Nat} (hm : m < l.length) : w.cell? ⟨g, m, none⟩ = some (.int .i64 ((l.getD m 0 : Nat) : Int)) :=
  own_cell h hg (by simp [List.getD, List.getElem?_eq_getElem hm])
theorem nrow_set {B : Nat} {w : World} {v : Value} {l : List Nat} (h : NRow B w v l) {g : Nat} (hg : v.ownBlock = some g) {m : Nat} (x : Nat) : NRow B (w.setCell ⟨g, m, none⟩ (.int .i64 (x : Int))) v (l.set m x) := by
  have := own_set h hg (j := m) (.int .i64 (x : Int))
  unfold NRow
  rw [List.length_set, List.map_set]
  exact this
theorem lnC_get (l : List (Nat × Nat)) (i : Nat) (p : Nat × Nat) (h : l[i]? = some p) : (l.flatMap lnC)[i * 2]? = some (.int .i64 (p.1 : Int)) ∧ (l.flatMap lnC)[i * 2 + 1]? = some (.int .i64 (p.2 : Int)) := by
  induction l generalizing i with
  | nil => simp at h
  | cons u l ih =>
    cases i with
    | zero => simp at h; subst h; simp [lnC]
    | succ i =>
      have e : ∀ k, (i + 1) * 2 + k = i * 2 + k + 1 + 1 := by omega
      have := ih i (by simpa using h)
      have e0 := e 0
      simp only [Nat.add_zero] at e0
      simp only [List.flatMap_cons, lnC, List.cons_append, List.nil_append, e0, List.getElem?_cons_succ]
      exact this
theorem LRow.cell {w : World} {v : Value} {l : List (Nat × Nat)} (h : LRow w v l) {g : Nat} (hg : v.ownBlock = some g) {i : Nat} {p : Nat × Nat} (hi : l[i]? = some p) : w.cell? ⟨g, i * 2, none⟩ = some (.int .i64 (p.1 : Int)) ∧ w.cell? ⟨g, i * 2 + 1, none⟩ = some (.int .i64 (p.2 : Int)) :=
  ⟨own_cell h hg (lnC_get l i p hi).1, own_cell h hg (lnC_get l i p hi).2⟩
theorem kinds_ne : (4 : TypeId) ≠ 3 ∧ (4 : TypeId) ≠ 151 ∧ (3 : TypeId) ≠ 151 ∧ (4 : TypeId) ≠ 154 ∧ (3 : TypeId) ≠ 154 ∧ (151 : TypeId) ≠ 154 := by decide
structure Kn (w : World) (kb : Nat) (fv tv lv : Value) (b : Nat) (F : List Bool) (fs : List Nat) (ls : List (Nat × Nat)) : Prop where
  blk : w.heap[kb]? = some (.cells #[.pointer (some ⟨b, 0, none⟩), fv, tv, lv] 154 (0, 0))
  rf : BRow w fv F
  rt : NRow 0 w tv fs
  rl : LRow w lv ls
def kfoot (kb : Nat) (fv tv lv : Value) : List Nat := kb :: (fv.ownBlock.toList ++ tv.ownBlock.toList ++ lv.ownBlock.toList)
theorem mem_kfoot {kb : Nat} {fv tv lv : Value} {x : Nat} : x ∈ kfoot kb fv tv lv ↔ x = kb ∨ fv.ownBlock = some x ∨ tv.ownBlock = some x ∨ lv.ownBlock = some x := by
  simp [kfoot, eq_comm]
theorem Kn.lt {w : World} {kb : Nat} {fv tv lv : Value} {b : Nat} {F : List Bool} {fs : List Nat} {ls : List (Nat × Nat)} (h : Kn w kb fv tv lv b F fs ls) : ∀ x ∈ kfoot kb fv tv lv, x < w.heap.size := by
  intro x hx
  rcases mem_kfoot.1 hx with rfl | hx | hx | hx
  · exact lt_of_blk h.blk
  · exact (World.ownsRow.lt h.rf x hx).2
  · exact (World.ownsRow.lt h.rt x hx).2
  · exact (World.ownsRow.lt h.rl x hx).2
theorem Kn.apart {w : World} {kb : Nat} {fv tv lv : Value} {b : Nat} {F : List Bool} {fs : List Nat} {ls : List (Nat × Nat)} (h : Kn w kb fv tv lv b F fs ls) :
    fv.ownBlock ≠ some kb ∧ tv.ownBlock ≠ some kb ∧ lv.ownBlock ≠ some kb ∧ (∀ x, fv.ownBlock = some x → tv.ownBlock ≠ some x ∧ lv.ownBlock ≠ some x) ∧ (∀ x, tv.ownBlock = some x → lv.ownBlock ≠ some x) := by
  obtain ⟨k1, k2, k3, k4, k5, k6⟩ := kinds_ne
  exact ⟨own_block_ne h.rf h.blk k4, own_block_ne h.rt h.blk k5, own_block_ne h.rl h.blk k6, fun x hx => ⟨own_apart h.rf h.rt k1 hx, own_apart h.rf h.rl k2 hx⟩, fun x hx => own_apart h.rt h.rl k3 hx⟩
theorem Kn.keep {w w' : World} {kb : Nat} {fv tv lv : Value} {b : Nat} {F : List Bool} {fs : List Nat} {ls : List (Nat × Nat)} {S : List Nat} (h : Kn w kb fv tv lv b F fs ls) (hf : Fr S w w') (hd : ∀ x ∈ kfoot kb fv tv lv, x ∉ S) : Kn w' kb fv tv lv b F fs ls := by
  have hb : ∀ x ∈ kfoot kb fv tv lv, w'.heap[x]? = w.heap[x]? := fun x hx => hf.block x (h.lt x hx) (hd x hx)
  exact ⟨by rw [hb kb (mem_kfoot.2 (Or.inl rfl))]; exact h.blk, own_keep h.rf (fun k hk => hb k (mem_kfoot.2 (Or.inr (Or.inl hk)))), own_keep h.rt (fun k hk => hb k (mem_kfoot.2 (Or.inr (Or.inr (Or.inl hk))))), own_keep h.rl (fun k hk => hb k (mem_kfoot.2 (Or.inr (Or.inr (Or.inr hk)))))⟩
theorem Kn.bw {w w' : World} {kb : Nat} {fv tv lv : Value} {b : Nat} {F : List Bool} {fs : List Nat} {ls : List (Nat × Nat)} (h : Kn w kb fv tv lv b F fs ls) (hb : Below w.heap.size w w') : Kn w' kb fv tv lv b F fs ls := h.keep (Fr.ofBelow hb) (by simp)
theorem Kn.cells {w : World} {kb : Nat} {fv tv lv : Value} {b : Nat} {F : List Bool} {fs : List Nat} {ls : List (Nat × Nat)} (h : Kn w kb fv tv lv b F fs ls) :
    w.cell? ⟨kb, 0, none⟩ = some (.pointer (some ⟨b, 0, none⟩)) ∧ w.cell? ⟨kb, 1, none⟩ = some fv ∧ w.cell? ⟨kb, 2, none⟩ = some tv ∧ w.cell? ⟨kb, 3, none⟩ = some lv ∧ ∀ j, w.frozen? ⟨kb, j, none⟩ = false := by
  refine ⟨?_, ?_, ?_, ?_, fun j => ?_⟩ <;> simp [World.cell?, World.frozen?, h.blk]
structure Mv (w w' : World) (Z Z' : List Nat) : Prop where
  fr : Fr Z w w'
  place : ∀ x ∈ Z', x ∈ Z ∨ w.heap.size ≤ x
theorem Mv.refl (w : World) (Z : List Nat) : Mv w w Z Z := ⟨Fr.refl _ _, fun _ h => Or.inl h⟩
theorem Mv.same {w w' : World} (Z : List Nat) (h : Below w.heap.size w w') : Mv w w' Z Z := ⟨(Fr.ofBelow h).mono (fun _ _ c => by cases c), fun _ h => Or.inl h⟩
theorem Mv.trans {w w1 w2 : World} {Z Z1 Z2 : List Nat} (h : Mv w w1 Z Z1) (k : Mv w1 w2 Z1 Z2) : Mv w w2 Z Z2 := by
  refine ⟨h.fr.trans k.fr (fun _ _ c => c) (fun x hx c => ?_), fun x hx => ?_⟩
  · rcases h.place x c with c | c
    · exact c
    · omega
  · rcases k.place x hx with c | c
    · exact h.place x c
    · exact Or.inr (Nat.le_trans h.fr.size c)
theorem Mv.before {w w0 w1 : World} {Z Z1 : List Nat} (h : Below w.heap.size w w0) (k : Mv w0 w1 Z Z1) : Mv w w1 Z Z1 := (Mv.same Z h).trans k
theorem Mv.after {w w0 w1 : World} {Z Z1 : List Nat} (k : Mv w w0 Z Z1) (h : Below w0.heap.size w0 w1) : Mv w w1 Z Z1 := k.trans (Mv.same Z1 h)
structure Res where
  Z : List Nat
  P : World → Prop
  keep : ∀ w w' S, P w → Fr S w w' → (∀ x ∈ Z, x ∉ S) → P w'
  lt : ∀ w, P w → ∀ x ∈ Z, x < w.heap.size
structure Env (w wr : World) (rs : List Res) : Prop where
  bel : Below w.heap.size w wr
  hold : ∀ r ∈ rs, r.P wr
  low : ∀ r ∈ rs, ∀ x ∈ r.Z, w.heap.size ≤ x
  dis : rs.Pairwise (fun r s => ∀ x ∈ r.Z, x ∉ s.Z)
theorem Env.nil (w : World) : Env w w [] := ⟨Below.refl _ _, by simp, by simp, List.Pairwise.nil⟩
theorem Env.new {w wr w1 : World} {rs : List Res} (h : Env w wr rs) (hb : Below wr.heap.size wr w1) : Env w w1 rs :=
  ⟨bw_tr h.bel hb, fun r hr => r.keep wr w1 [] (h.hold r hr) (Fr.ofBelow hb) (by simp), h.low, h.dis⟩
theorem Env.add {w wr w1 : World} {rs : List Res} (h : Env w wr rs) (r : Res) (hb : Below wr.heap.size wr w1) (hP : r.P w1) (hn : ∀ x ∈ r.Z, wr.heap.size ≤ x) : Env w w1 (r :: rs) := by
  have h1 := h.new hb
  refine ⟨h1.bel, ?_, ?_, ?_⟩
  · intro s hs
    rcases List.mem_cons.1 hs with rfl | hs
    · exact hP
    · exact h1.hold s hs
  · intro s hs x hx
    rcases List.mem_cons.1 hs with rfl | hs
    · have := hn x hx; have := h.bel.size; omega
    · exact h.low s hs x hx
  · refine List.Pairwise.cons (fun s hs x hx c => ?_) h.dis
    have := hn x hx
    have := s.lt wr (h.hold s hs) x c
    omega
theorem Env.step {w wr w1 : World} {r r' : Res} {rs : List Res} (h : Env w wr (r :: rs)) (hg : Mv wr w1 r.Z r'.Z) (hP : r'.P w1) : Env w w1 (r' :: rs) := by
  have hd := List.pairwise_cons.1 h.dis
  have hl : ∀ x ∈ r.Z, w.heap.size ≤ x := h.low r (by simp)
  refine ⟨Fr.toBase h.bel hg.fr hl, ?_, ?_, ?_⟩
  · intro s hs
    rcases List.mem_cons.1 hs with rfl | hs
    · exact hP
    · exact s.keep wr w1 r.Z (h.hold s (List.mem_cons_of_mem _ hs)) hg.fr (fun x hx c => hd.1 s hs x c hx)
  · intro s hs x hx
    rcases List.mem_cons.1 hs with rfl | hs
    · rcases hg.place x hx with c | c
      · exact hl x c
      · have := h.bel.size; omega
    · exact h.low s (List.mem_cons_of_mem _ hs) x hx
  · refine List.Pairwise.cons (fun s hs x hx c => ?_) hd.2
    rcases hg.place x hx with q | q
    · exact hd.1 s hs x q c
    · have := s.lt wr (h.hold s (List.mem_cons_of_mem _ hs)) x c; omega
theorem Env.swap {w wr : World} {r s : Res} {rs : List Res} (h : Env w wr (r :: s :: rs)) : Env w wr (s :: r :: rs) := by
  have hm : ∀ q, q ∈ s :: r :: rs → q ∈ r :: s :: rs := by intro q hq; simp at hq ⊢; rcases hq with h | h | h <;> simp [h]
  refine ⟨h.bel, fun q hq => h.hold q (hm q hq), fun q hq => h.low q (hm q hq), ?_⟩
  have h1 := List.pairwise_cons.1 h.dis
  have h2 := List.pairwise_cons.1 h1.2
  refine List.Pairwise.cons (fun q hq x hx c => ?_) (List.Pairwise.cons (fun q hq => h1.1 q (List.mem_cons_of_mem _ hq)) h2.2)
  rcases List.mem_cons.1 hq with rfl | hq
  · exact h1.1 s (by simp) x c hx
  · exact h2.1 q hq x hx c
theorem Env.rot3 {w wr : World} {r s t : Res} {rs : List Res} (h : Env w wr (r :: s :: t :: rs)) : Env w wr (t :: r :: s :: rs) := by
  have hm : ∀ q, q ∈ t :: r :: s :: rs → q ∈ r :: s :: t :: rs := by intro q hq; simp at hq ⊢; rcases hq with h | h | h | h <;> simp [h]
  refine ⟨h.bel, fun q hq => h.hold q (hm q hq), fun q hq => h.low q (hm q hq), ?_⟩
  have h1 := List.pairwise_cons.1 h.dis
  have h2 := List.pairwise_cons.1 h1.2
  have h3 := List.pairwise_cons.1 h2.2
  refine List.Pairwise.cons (fun q hq x hx c => ?_) (List.Pairwise.cons (fun q hq => ?_) (List.Pairwise.cons (fun q hq => h2.1 q (List.mem_cons_of_mem _ hq)) h3.2))
  · rcases List.mem_cons.1 hq with rfl | hq
    · exact h1.1 t (by simp) x c hx
    · rcases List.mem_cons.1 hq with rfl | hq
      · exact h2.1 t (by simp) x c hx
      · exact h3.1 q hq x hx c
  · rcases List.mem_cons.1 hq with rfl | hq
    · exact h1.1 q (by simp)
    · exact h1.1 q (List.mem_cons_of_mem _ (List.mem_cons_of_mem _ hq))
theorem Env.drop {w wr : World} {r : Res} {rs : List Res} (h : Env w wr (r :: rs)) : Env w wr rs :=
  ⟨h.bel, fun q hq => h.hold q (List.mem_cons_of_mem _ hq), fun q hq => h.low q (List.mem_cons_of_mem _ hq), (List.pairwise_cons.1 h.dis).2⟩
theorem Env.hd {w wr : World} {r : Res} {rs : List Res} (h : Env w wr (r :: rs)) : r.P wr := h.hold r (by simp)
theorem Env.sd {w wr : World} {r s : Res} {rs : List Res} (h : Env w wr (r :: s :: rs)) : s.P wr := h.hold s (by simp)
theorem Env.apart {w wr : World} {r s : Res} {rs : List Res} (h : Env w wr (r :: s :: rs)) : ∀ x ∈ r.Z, x ∉ s.Z := (List.pairwise_cons.1 h.dis).1 s (by simp)
def resS (b : Nat) (sv : Value) (mb : Nat) (L : List Tm) : Res := ⟨foot b sv mb, fun w => St w b sv mb L, fun _ _ _ h hf hd => h.keep hf hd, fun _ h => h.lt⟩
def KS (w : World) (kb b : Nat) (L : List Tm) (K : Nat → Prop) (Z : List Nat) : Prop :=
  ∃ fv tv lv F fs ls, Z = kfoot kb fv tv lv ∧ Kn w kb fv tv lv b F fs ls ∧ Lk L F fs ls none2 0 ∧ Sm L K F [] none1
theorem KS.keep {w w' : World} {kb b : Nat} {L : List Tm} {K : Nat → Prop} {Z S : List Nat} (h : KS w kb b L K Z) (hf : Fr S w w') (hd : ∀ x ∈ Z, x ∉ S) : KS w' kb b L K Z := by
  obtain ⟨fv, tv, lv, F, fs, ls, rfl, h1, h2, h3⟩ := h
  exact ⟨fv, tv, lv, F, fs, ls, rfl, h1.keep hf hd, h2, h3⟩
theorem KS.lt {w : World} {kb b : Nat} {L : List Tm} {K : Nat → Prop} {Z : List Nat} (h : KS w kb b L K Z) : ∀ x ∈ Z, x < w.heap.size := by
  obtain ⟨fv, tv, lv, F, fs, ls, rfl, h1, h2, h3⟩ := h
  exact h1.lt
def resK (kb b : Nat) (L : List Tm) (K : Nat → Prop) (Z : List Nat) : Res := ⟨Z, fun w => KS w kb b L K Z, fun _ _ _ h hf hd => h.keep hf hd, fun _ h => h.lt⟩
theorem go_S {w w' : World} {b : Nat} {sv sv' : Value} {mb : Nat} {L' : List Tm} (h : SStep w w' b sv sv' mb L') : Mv w w' (foot b sv mb) (foot b sv' mb) :=
  ⟨h.fr, fun x hx => by
    rcases mem_foot.1 hx with c | c | c
    · exact Or.inl (mem_foot.2 (Or.inl c))
    · exact Or.inl (mem_foot.2 (Or.inr (Or.inl c)))
    · rcases h.place x c with c | c
      · exact Or.inl (mem_foot.2 (Or.inr (Or.inr c)))
      · exact Or.inr c⟩
end Go.Proofs.YtpcpcgagiapinaaGreatDoor.Tn

/- Secrets of a path, plainly; the contracts of path.afterPath, path.nodeKey, path.secrets. -/
namespace Go.Proofs.YtpcpcgagiapinaaGreatDoor.Tn.Pa
open Go.RowKit Go.Maps
def Gd (p : List Tm × Nat) : Prop := 1 ≤ p.2 ∧ p.2 ≤ p.1.length
theorem Gd.thr {p : List Tm × Nat} (h : Gd p) : thr p.1.length (p.2 : Int) = true := thr_iff.2 (by have := h.1; have := h.2; omega)
theorem gd_of {L : List Tm} {t : Tm} (hm : may L.length t = true) (hl : L.length < 1048576) : Gd (mkL L t, mkN L t) := by
  have := thr_iff.1 (mkN_thr hm hl).1
  exact ⟨by simp; omega, by simp; omega⟩
theorem may_nx {p : List Tm × Nat} (h : Gd p) (l : Int) (hl : 0 ≤ l) : may p.1.length ⟨4, l, (p.2 : Int), 0⟩ = true := may_kdf hl h.thr (Or.inl rfl)
theorem ok_nx {p : List Tm × Nat} (h : Gd p) (l : Int) (hl : 0 ≤ l ∧ l ≤ 100) (hL : p.1.length ≤ 1048576) : Tm.ok ⟨4, l, (p.2 : Int), 0⟩ := ok_kdf (by have := h.2; omega)
def nxt (p : List Tm × Nat) : List Tm × Nat := (mkL p.1 ⟨4, 1, (p.2 : Int), 0⟩, mkN p.1 ⟨4, 1, (p.2 : Int), 0⟩)
def sec (p : List Tm × Nat) : Nat → List Tm × Nat
  | 0 => p
  | n + 1 => nxt (sec p n)
def row (p : List Tm × Nat) : Nat → List Nat
  | 0 => [p.2]
  | n + 1 => row p n ++ [(sec p (n + 1)).2]
theorem nxt_gd {p : List Tm × Nat} (h : Gd p) (hl : p.1.length < 1048576) : Gd (nxt p) := gd_of (may_nx h 1 (by omega)) hl
theorem nxt_len (p : List Tm × Nat) : (nxt p).1.length ≤ p.1.length + 1 ∧ p.1.length ≤ (nxt p).1.length := ⟨mkL_len _ _, mkL_le _ _⟩
theorem sec_len (p : List Tm × Nat) : ∀ n, (sec p n).1.length ≤ p.1.length + n ∧ p.1.length ≤ (sec p n).1.length
  | 0 => ⟨Nat.le_refl _, Nat.le_refl _⟩
  | n + 1 => by have h := sec_len p n; have h2 := nxt_len (sec p n); exact ⟨by show (nxt _).1.length ≤ _; omega, by show _ ≤ (nxt _).1.length; omega⟩
theorem sec_gd {p : List Tm × Nat} (h : Gd p) : ∀ n, p.1.length + n ≤ 1048576 → Gd (sec p n)
  | 0, _ => h
  | n + 1, hl => nxt_gd (sec_gd h n (by omega)) (by have := sec_len p n; omega)
theorem row_len (p : List Tm × Nat) : ∀ n, (row p n).length = n + 1
  | 0 => rfl
  | n + 1 => by simp [row, row_len p n]
theorem row_last (p : List Tm × Nat) : ∀ n, (row p n)[n]? = some (sec p n).2
  | 0 => rfl
  | n + 1 => by simp [row, row_len p n]
set_option maxRecDepth 100000 in
theorem afterPath_any (w : World) (s : Int) :
    Calls Tryz.prog 52 #[.int .i64 s] w fun e w' => e = .returned (.agg #[.int .u8 4, .int .i64 1, .int .i64 s, .int .i64 0]) ∧ Below w.heap.size w w' := by
  go_enter Tryz.func52, Tryz.ntmps52
  go_wp2
  exact bodyPost_ret (v := .agg #[.int .u8 4, .int .i64 1, .int .i64 s, .int .i64 0]) (by simp [results, Tryz.results52, go_sem]) rfl ⟨rfl, bwA' _ _⟩
set_option maxRecDepth 100000 in
theorem nodeKey_any (w : World) (s : Int) :
    Calls Tryz.prog 88 #[.int .i64 s] w fun e w' => e = .returned (.agg #[.int .u8 4, .int .i64 2, .int .i64 s, .int .i64 0]) ∧ Below w.heap.size w w' := by
  go_enter Tryz.func88, Tryz.ntmps88
  go_wp2
  exact bodyPost_ret (v := .agg #[.int .u8 4, .int .i64 2, .int .i64 s, .int .i64 0]) (by simp [results, Tryz.results88, go_sem]) rfl ⟨rfl, bwA' _ _⟩
structure RW (w W : World) (b : Nat) (sv sv' : Value) (mb : Nat) (L' : List Tm) (lv : Value) (acc : List Nat) : Prop where
  s : SStep w W b sv sv' mb L'
  r : NRow w.heap.size W lv acc
theorem RW.step {w W W' : World} {b : Nat} {sv sv1 sv2 : Value} {mb : Nat} {L1 L2 : List Tm} {lv : Value} {acc : List Nat} (h : RW w W b sv sv1 mb L1 lv acc) (s : SStep W W' b sv1 sv2 mb L2) : RW w W' b sv sv2 mb L2 lv acc :=
  ⟨h.s.trans s, h.r.keep (fun k hk => by obtain ⟨cur, e⟩ := h.r.block hk; exact s.fr.block k (lt_of_blk e) (h.s.st.notin e (by decide) (by decide)))⟩
theorem RW.bw {w W W' : World} {b : Nat} {sv sv1 : Value} {mb : Nat} {L1 : List Tm} {lv : Value} {acc : List Nat} (h : RW w W b sv sv1 mb L1 lv acc) (hb : Below W.heap.size W W') : RW w W' b sv sv1 mb L1 lv acc := h.step (SStep.same h.s.st hb)
theorem RW.grown {w W W5 : World} {b : Nat} {sv sv1 : Value} {mb : Nat} {L1 : List Tm} {lv v' : Value} {acc acc' : List Nat} {ob : Obj} (h : RW w W b sv sv1 mb L1 lv acc) (hr : NRow w.heap.size W5 v' acc') (hg : (W.alloc ob).grownBy W5 lv.ownBlock) : RW w W5 b sv sv1 mb L1 v' acc' := by
  have f1 : Fr lv.ownBlock.toList W W5 := ((Fr.refl lv.ownBlock.toList W).alloc ob).tr (Fr.ofGrown hg)
  exact ⟨⟨h.s.st.keep f1 (fun k hk c => by
      obtain ⟨cur, e⟩ := h.r.block (k := k) (by simpa using c)
      exact h.s.st.notin e (by decide) (by decide) hk), h.s.fr.trans f1 (fun _ _ c => c) (fun k hk c => by have := (h.r.lt k (by simpa using c)).1; omega), h.s.place⟩, hr⟩
set_option maxRecDepth 100000 in
set_option maxHeartbeats 4000000 in
theorem secrets_any {b : Nat} {sv : Value} {mb : Nat} {w : World} (p : List Tm × Nat) (n : Nat) (h : St w b sv mb p.1) (hg : Gd p) (hn : n ≤ 1000) (hl : p.1.length + n ≤ 1048576) :
    Calls Tryz.prog 37 #[.func (.func 22) #[.pointer (some ⟨b, 0, none⟩)] #[], .int .i64 (p.2 : Nat), .int .i64 (n : Int)] w fun e w' => ∃ a cap, e = .returned (.tuple #[.slice a (n + 1) cap, .int .i64 0]) ∧ ∃ sv', RW w w' b sv sv' mb (sec p n).1 (.slice a (n + 1) cap) (row p n) := by
  obtain ⟨j0, hj, hy0, hy1, hy2⟩ := info_parts Tryz.infoInt
  obtain ⟨w0, hw0⟩ : ∃ w0, w0 = w.alloc (.cells #[.int .i64 (p.2 : Nat)] 3) := ⟨_, rfl⟩
  have x0 : Below w.heap.size w w0 := by rw [hw0]; exact (Below.refl _ _).alloc (Nat.le_refl _) _
  have S0 : Hid (RW w w0 b sv sv mb (sec p 0).1 (.slice (some ⟨w.heap.size, 0, none⟩) 1 1) (row p 0)) := by
    refine ⟨SStep.same h x0, rfl, Or.inr ⟨w.heap.size, 1, #[.int .i64 (p.2 : Nat)], rfl, Nat.le_refl _, by rw [hw0]; exact heap_alloc_new _ _, Nat.le_refl _, by unfold maxLen; omega, rfl, rfl⟩⟩
  have HW := hide hw0
  have KD : Hid (∀ (W : World) (s : Int), Calls Tryz.prog 52 #[.int .i64 s] W fun e w' => e = .returned (.agg #[.int .u8 4, .int .i64 1, .int .i64 s, .int .i64 0]) ∧ Below W.heap.size W w') := fun W s => afterPath_any W s
  have HP : Hid (∀ i, i < n → ∀ W sv', St W b sv' mb (sec p i).1 → Calls Tryz.prog 22 #[.pointer (some ⟨b, 0, none⟩), .agg #[.int .u8 4, .int .i64 1, .int .i64 ((sec p i).2 : Nat), .int .i64 0]] W fun e w' => e = .returned (.tuple #[.int .i64 ((sec p (i + 1)).2 : Nat), .int .i64 0]) ∧ ∃ sv2, SStep W w' b sv' sv2 mb (sec p (i + 1)).1) := fun i hi W sv' S => by
    have g1 := sec_gd hg i (by omega)
    have g2 := sec_len p i
    exact make_ok S 4 1 _ 0 (ok_nx g1 1 (by omega) (by omega)) (may_nx g1 1 (by omega)) (by omega)
  have hnI : (n : Int) ≤ 1000 := by omega
  clear h hg hl hw0 x0
  go_enter Tryz.func37, Tryz.ntmps37
  go_upto_region 2 with fail
  rw [← unhide HW]
  clear HW
  go_wp2_with fail
  go_loopw [8, 14] (fun lv iv wr => ∃ (i : Nat) (a : Option Addr) (cap : Nat), lv = .slice a (i + 1) cap ∧ iv = .int .i64 (i : Int) ∧ i ≤ n ∧ Hid (∃ sv1, RW w wr b sv sv1 mb (sec p i).1 (.slice a (i + 1) cap) (row p i))) (fun _ iv _ => (n - intOf iv).toNat)
  case atStart => exact ⟨0, _, _, rfl, rfl, by omega, ⟨sv, unhide S0⟩⟩
  case round =>
    clear S0
    obtain ⟨i, a, cap, rfl, rfl, hi, HR⟩ := hrel
    obtain ⟨sv1, R1⟩ := unhide HR
    by_cases hlt : i < n
    · have q1 : (i : Int) < (n : Int) := by omega
      have q0 : (0 : Int) ≤ (i : Int) := by omega
      obtain ⟨g, cp, e, -⟩ := own_open R1.r (by rw [row_len]; omega)
      simp only [Value.slice.injEq] at e
      obtain ⟨rfl, -, -⟩ := e
      have dx := R1.r.at (g := g) rfl (row_last p i)
      obtain ⟨x, hx⟩ : ∃ x : Nat, x = (sec p i).2 := ⟨_, rfl⟩
      obtain ⟨y, hy⟩ : ∃ y : Nat, y = (sec p (i + 1)).2 := ⟨_, rfl⟩
      have K1 := hide (unhide HP i hlt)
      rw [← hx, ← hy] at K1
      rw [← hx] at dx
      have HY : Hid (row p (i + 1) = row p i ++ [y] ∧ (row p i).length = i + 1) := ⟨by rw [hy]; rfl, row_len p i⟩
      have HR1 := hide R1
      clear HR R1 HP hx hy
      go_wp2_with fail
      refine (unhide KD _ _).mono ?_
      rintro e w2 ⟨rfl, b2⟩
      have R2 := hide ((unhide HR1).bw b2)
      have K2 := hide (unhide K1 w2 sv1 (unhide R2).s.st)
      clear dx b2 HR1 K1
      go_wp2_with fail
      refine (unhide K2).mono ?_
      rintro e w3 ⟨rfl, sv3, s3⟩
      have R3 := hide ((unhide R2).step s3)
      have hrow : w3.ownsRow w.heap.size 3 1 (.slice (some ⟨g, 0, none⟩) (i + 1) cap) (i + 1) ((row p i).map (fun m => .int .i64 ((m : Nat) : Int))) := by have := (unhide R3).r; unfold NRow at this; rw [(unhide HY).2] at this; exact this
      have hsz := (unhide R3).s.fr.size
      clear s3 R2 K2
      go_wp2_with (at_builtin; refine wpList_append_own_at _ rfl (.tmp 31) (.tmp 33) 27 rfl w.heap.size 3 j0 (.int .i64 0) 1 8 Tryz.underlying27 hj hy0 hy1 hy2 rfl (by decide) _ (i + 1) _ rfl (World.ownsRow.alloc hrow _) ⟨w3.heap.size, 0, none⟩ 1 1 [_] rfl rfl (cell_one_new _ _ _) ?c2 ?c3 ?c4 ?c5 ?nx)
      case c2 => intro u hu; simp at hu; subst hu; rfl
      case c3 => unfold maxLen; omega
      case c4 => omega
      case c5 => simp; omega
      case nx =>
        intro v' w5 hown' hgrow _ hpl
        have hn5 : NRow w.heap.size w5 v' (row p (i + 1)) := by
          rw [(unhide HY).1]; unfold NRow; rw [List.length_append, (unhide HY).2]; simpa using hown'
        obtain ⟨a5, cap5, rfl⟩ : ∃ a5 cap5, v' = .slice a5 (i + 1 + 1) cap5 := own_slice hown'
        have R5 : Hid (∃ sv1, RW w w5 b sv sv1 mb (sec p (i + 1)).1 (.slice a5 (i + 1 + 1) cap5) (row p (i + 1))) := ⟨sv3, (unhide R3).grown hn5 hgrow⟩
        clear hown' hgrow hpl hn5 R3 hrow
        go_wp2_with fail
        go_roundw
        case rel => exact ⟨i + 1, a5, cap5, rfl, by go_num, by omega, R5⟩
        case measure => simp only [intOf]; omega
    · have hie : i = n := by omega
      subst hie
      clear R1 HP hlt hi
      go_wp2
      go_ret2
      exact ⟨a, cap, rfl, unhide HR⟩
end Go.Proofs.YtpcpcgagiapinaaGreatDoor.Tn.Pa

/- The contracts of the closure of path.Secrets, of AllOrNone of numbers, of path.Secrets. -/
namespace Go.Proofs.YtpcpcgagiapinaaGreatDoor.Tn.Pa
open Go.RowKit Go.Maps
theorem nrow_mono {B B' : Nat} {W : World} {v : Value} {l : List Nat} (h : NRow B W v l) (hb : B' ≤ B) : NRow B' W v l := by
  refine ⟨h.1, ?_⟩
  rcases h.2 with q | ⟨g, cap, cur, h1, h2, h3⟩
  · exact Or.inl q
  · exact Or.inr ⟨g, cap, cur, h1, Nat.le_trans hb h2, h3⟩
theorem RW.later {w w0 W : World} {b : Nat} {sv sv' : Value} {mb : Nat} {L L' : List Tm} {lv : Value} {acc : List Nat} (h : RW w0 W b sv sv' mb L' lv acc) (s : SStep w w0 b sv sv mb L) (hw : w.heap.size ≤ w0.heap.size) : RW w W b sv sv' mb L' lv acc := ⟨s.trans h.s, nrow_mono h.r hw⟩
end Go.Proofs.YtpcpcgagiapinaaGreatDoor.Tn.Pa

/- The contracts of path.keyPair, of the closure of path.Node, of AllOrNone of a pair, of path.Node. -/
namespace Go.Proofs.YtpcpcgagiapinaaGreatDoor.Tn.Pa
open Go.RowKit Go.Maps
def key (p : List Tm × Nat) : List Tm × Nat := (mkL p.1 ⟨4, 2, (p.2 : Int), 0⟩, mkN p.1 ⟨4, 2, (p.2 : Int), 0⟩)
def pub (p : List Tm × Nat) : List Tm × Nat := (mkL (key p).1 ⟨5, 0, ((key p).2 : Int), 0⟩, mkN (key p).1 ⟨5, 0, ((key p).2 : Int), 0⟩)
theorem key_gd {p : List Tm × Nat} (h : Gd p) (hl : p.1.length < 1048576) : Gd (key p) := gd_of (may_nx h 2 (by omega)) hl
theorem key_len (p : List Tm × Nat) : (key p).1.length ≤ p.1.length + 1 ∧ p.1.length ≤ (key p).1.length := ⟨mkL_len _ _, mkL_le _ _⟩
theorem may_pb {p : List Tm × Nat} (h : Gd p) : may p.1.length ⟨5, 0, (p.2 : Int), 0⟩ = true := by
  have := h.thr
  simp [may, this]
theorem ok_pb {p : List Tm × Nat} (h : Gd p) (hL : p.1.length ≤ 1048576) : Tm.ok ⟨5, 0, (p.2 : Int), 0⟩ := by
  have := h.2
  refine ⟨by simp, by simp, by simp, by simp, ?_, ?_, by simp, by simp⟩ <;> simp <;> omega
theorem two_put {w W : World} {b : Nat} {sv sv' : Value} {mb : Nat} {L : List Tm} {k : Nat} {a0 a1 : Value} {t : TypeId} (h : SStep w W b sv sv' mb L) (hk : W.heap[k]? = some (.cells #[a0, a1] t (0, 0))) (h1 : t ≠ 131) (h2 : t ≠ 64) (hw : w.heap.size ≤ k) (v0 v1 : Value) :
    SStep w ((W.setCell ⟨k, 0, none⟩ v0).setCell ⟨k, 1, none⟩ v1) b sv sv' mb L ∧ ((W.setCell ⟨k, 0, none⟩ v0).setCell ⟨k, 1, none⟩ v1).heap[k]? = some (.cells #[v0, v1] t (0, 0)) := by
  have e0 := poke_blk (i := 0) hk v0
  have e1 := poke_blk (i := 1) e0 v1
  exact ⟨(h.poke hk h1 h2 hw v0).poke e0 h1 h2 hw v1, e1⟩
set_option maxRecDepth 100000 in
set_option maxHeartbeats 4000000 in
theorem keyPair_any {b : Nat} {sv : Value} {mb : Nat} {w : World} (p : List Tm × Nat) (h : St w b sv mb p.1) (hg : Gd p) (hl : p.1.length + 2 ≤ 1048576) :
    Calls Tryz.prog 42 #[.func (.func 22) #[.pointer (some ⟨b, 0, none⟩)] #[], .int .i64 (p.2 : Nat)] w fun e w' => e = .returned (.tuple #[.agg #[.int .i64 ((key p).2 : Nat), .int .i64 ((pub p).2 : Nat)], .int .i64 0]) ∧ ∃ sv', SStep w w' b sv sv' mb (pub p).1 := by
  obtain ⟨w0, hw0⟩ : ∃ w0, w0 = w.alloc (.cells #[.int .i64 0, .int .i64 0] 91) := ⟨_, rfl⟩
  have x0 : Below w.heap.size w w0 := by rw [hw0]; exact bwA' _ _
  have r0 : w0.heap[w.heap.size]? = some (.cells #[.int .i64 0, .int .i64 0] 91 (0, 0)) := by rw [hw0]; exact heap_alloc_new _ _
  have HW := hide hw0
  have S0 : Hid (SStep w w0 b sv sv mb p.1) := SStep.same h x0
  have KD := hide (nodeKey_any w0 (p.2 : Nat))
  have hkl := key_len p
  have K1 : Hid (∀ W sv', St W b sv' mb p.1 → Calls Tryz.prog 22 #[.pointer (some ⟨b, 0, none⟩), .agg #[.int .u8 4, .int .i64 2, .int .i64 (p.2 : Nat), .int .i64 0]] W fun e w' => e = .returned (.tuple #[.int .i64 ((key p).2 : Nat), .int .i64 0]) ∧ ∃ sv2, SStep W w' b sv' sv2 mb (key p).1) := fun W sv' S => make_ok S 4 2 _ 0 (ok_nx hg 2 (by omega) (by omega)) (may_nx hg 2 (by omega)) (by omega)
  have K2 : Hid (∀ W sv', St W b sv' mb (key p).1 → Calls Tryz.prog 22 #[.pointer (some ⟨b, 0, none⟩), .agg #[.int .u8 5, .int .i64 0, .int .i64 ((key p).2 : Nat), .int .i64 0]] W fun e w' => e = .returned (.tuple #[.int .i64 ((pub p).2 : Nat), .int .i64 0]) ∧ ∃ sv2, SStep W w' b sv' sv2 mb (pub p).1) := fun W sv' S => make_ok S 5 0 _ 0 (ok_pb (key_gd hg (by omega)) (by omega)) (may_pb (key_gd hg (by omega))) (by omega)
  have HR0 := hide r0
  clear h hg hl hw0 hkl x0 r0
  generalize (key p).1 = L1 at *
  generalize (key p).2 = k1 at *
  generalize (pub p).1 = L2 at *
  generalize (pub p).2 = k2 at *
  generalize p.2 = x at *
  generalize p.1 = L0 at *
  go_enter Tryz.func42, Tryz.ntmps42
  go_wp2_with fail
  rw [← unhide HW]
  refine (unhide KD).mono ?_
  rintro e w1 ⟨rfl, b1⟩
  have S1 := hide ((unhide S0).after b1)
  have R1 := hide (kept_blk (unhide HR0) b1)
  have Q1 := hide (unhide K1 w1 sv (unhide S1).st)
  clear KD HW S0 HR0 b1 K1
  go_wp2_with fail
  refine (unhide Q1).mono ?_
  rintro e w2 ⟨rfl, sv2, s2⟩
  have S2 := hide ((unhide S1).trans s2)
  have R2 := hide (kept_fr (unhide R1) (unhide S1).st s2.fr (by decide) (by decide))
  clear s2 S1 R1 Q1
  have Q2 := hide (unhide K2 w2 sv2 (unhide S2).st)
  clear K2
  go_wp2_with fail
  refine (unhide Q2).mono ?_
  rintro e w3 ⟨rfl, sv3, s3⟩
  have S3 := hide ((unhide S2).trans s3)
  have r3 := kept_fr (unhide R2) (unhide S2).st s3.fr (by decide) (by decide)
  have HT := hide (two_put (unhide S3) r3 (by decide) (by decide) (Nat.le_refl _) (.int .i64 (k1 : Nat)) (.int .i64 (k2 : Nat)))
  have h0 : w3.cell? ⟨w.heap.size, 0, none⟩ = some (.int .i64 0) := blk_cell r3 rfl
  have h1 : w3.cell? ⟨w.heap.size, 1, none⟩ = some (.int .i64 0) := blk_cell r3 rfl
  have hf := fun j => blk_froz (i := j) r3
  clear s3 S2 R2 Q2 S3 r3
  go_wp2_with fail
  obtain ⟨T2, rb2⟩ := unhide HT
  generalize (w3.setCell ⟨w.heap.size, 0, none⟩ (.int .i64 (k1 : Nat))).setCell ⟨w.heap.size, 1, none⟩ (.int .i64 (k2 : Nat)) = V at T2 rb2 ⊢
  have g0 := blk_cell (i := 0) rb2 rfl
  have g1 := blk_cell (i := 1) rb2 rfl
  have HT2 := hide T2
  clear T2 rb2 HT h0 h1 hf
  exact bodyPost_ret (v := .tuple #[.agg #[.int .i64 (k1 : Int), .int .i64 (k2 : Int)], .int .i64 0]) (by simp [results, Tryz.results42, go_sem, g0, g1]) rfl ⟨rfl, sv3, unhide HT2⟩
end Go.Proofs.YtpcpcgagiapinaaGreatDoor.Tn.Pa

/- The contracts of AllOrNone of a pair and of path.Node; what path.Secrets and path.Node refuse. -/
namespace Go.Proofs.YtpcpcgagiapinaaGreatDoor.Tn.Pa
open Go.RowKit Go.Maps
end Go.Proofs.YtpcpcgagiapinaaGreatDoor.Tn.Pa

/- What path.Secrets and path.Node refuse. -/
namespace Go.Proofs.YtpcpcgagiapinaaGreatDoor.Tn.Pa
open Go.RowKit Go.Maps
end Go.Proofs.YtpcpcgagiapinaaGreatDoor.Tn.Pa
