/- Texts joined: NTmAcW NTmAcX NTmLs NDdMem. -/
import Derived.Test.YtokdflbajnecpaaZ05
import Derived.Test.YtokdflbajnecpaaZ06
import Derived.Test.YtokdflbajnecpaaZ02
import Derived.Test.YtokdflbajnecpaaNDdPure
/- The contract of Across. -/
namespace Go.Proofs.Ytokdflbajnecpaa.Tn
open Go.RowKit Go.Maps
end Go.Proofs.Ytokdflbajnecpaa.Tn

/- The contract of Across, with what it leaves alone. -/
namespace Go.Proofs.Ytokdflbajnecpaa.Tn
open Go.RowKit Go.Maps
structure Ex (w0 wr : World) (rb : Nat) (rv rv' : Value) (mp : Nat) (lv : Value) : Prop where
  fr : Fr (rfoot rb rv) w0 wr
  place : ∀ k, rv'.ownBlock = some k → rv.ownBlock = some k ∨ w0.heap.size ≤ k
  mlow : w0.heap.size ≤ mp
  llow : ∀ k, lv.ownBlock = some k → w0.heap.size ≤ k
theorem Ex.new {w0 wr w' : World} {rb : Nat} {rv rv' : Value} {mp : Nat} {lv : Value} (h : Ex w0 wr rb rv rv' mp lv) (hb : Below wr.heap.size wr w') : Ex w0 w' rb rv rv' mp lv := ⟨h.fr.below hb, h.place, h.mlow, h.llow⟩
theorem Ex.start (wr : World) (rb : Nat) (rv : Value) : Ex wr ((wr.alloc (.cells #[.int .i64 0] 3)).alloc (.cells #[.slice (some ⟨wr.heap.size, 0, none⟩) 1 1] 89)) rb rv rv (wr.heap.size + 1) (.slice (some ⟨wr.heap.size, 0, none⟩) 1 1) :=
  ⟨((Fr.refl _ _).alloc _).alloc _, fun _ h => Or.inl h, by omega, fun k hk => by simp [Value.ownBlock] at hk; omega⟩
end Go.Proofs.Ytokdflbajnecpaa.Tn

/- What List and Data leave, as plain lists; the terms of one store among those of another that began alike; the contract of Same. -/
namespace Go.Proofs.Ytokdflbajnecpaa.Tn
open Go.RowKit Go.Maps
structure Gro (L L' : List Tm) (n : Int) (k : Nat) : Prop where
  good : Good L'
  pre : ∃ x, L' = L ++ x
  lo : 0 ≤ n
  hi : n ≤ (L'.length : Int)
  len : L'.length ≤ L.length + k
theorem mkN_le (L : List Tm) (t : Tm) : mkN L t ≤ (mkL L t).length := by
  have h := mkL_le L t
  unfold mkN
  split
  · split
    · have := num_le L t; omega
    · split
      · rename_i c1 c2 c3
        unfold mkL
        rw [if_pos ⟨c1, c2, c3⟩]; simp
      · omega
  · omega
theorem Gro.made {L L' : List Tm} {t : Tm} {n : Int} {k : Nat} (h : Gro (mkL L t) L' n k) : Gro L L' n (k + 1) := by
  obtain ⟨x, hx⟩ := h.pre
  obtain ⟨r, hr⟩ := mkL_prefix L t
  exact ⟨h.good, ⟨r ++ x, by rw [hx, hr, List.append_assoc]⟩, h.lo, h.hi, by have := h.len; have := mkL_len L t; omega⟩
theorem Gro.none {L : List Tm} (h : Good L) (k : Nat) : Gro L L 0 k := ⟨h, ⟨[], by simp⟩, by omega, by omega, by omega⟩
theorem Gro.mono {L L' : List Tm} {n : Int} {k k' : Nat} (h : Gro L L' n k) (hk : k ≤ k') : Gro L L' n k' := ⟨h.good, h.pre, h.lo, h.hi, by have := h.len; omega⟩
end Go.Proofs.Ytokdflbajnecpaa.Tn

/- What is known, in memory: the marks, the places and the links of package deduce. And resources that lie apart. No walk is in this text. -/
namespace Go.Proofs.Ytokdflbajnecpaa.Tn
open Go.RowKit Go.Maps
theorem own_keep {B : Nat} {w w' : World} {e : TypeId} {c : Nat} {v : Value} {n : Nat} {xs : List Value} (h : w.ownsRow B e c v n xs) (hb : ∀ k, v.ownBlock = some k → w'.heap[k]? = w.heap[k]?) : w'.ownsRow B e c v n xs := by
  refine ⟨h.1, ?_⟩
  rcases h.2 with h2 | ⟨g, cap, cur, hv, h0, hg, r⟩
  · exact Or.inl h2
  · exact Or.inr ⟨g, cap, cur, hv, h0, by rw [hb g (by rw [hv]; rfl)]; exact hg, r⟩
theorem own_kind {B : Nat} {w : World} {e : TypeId} {c : Nat} {v : Value} {n : Nat} {xs : List Value} (h : w.ownsRow B e c v n xs) {k : Nat} (hk : v.ownBlock = some k) : ∃ cur, w.heap[k]? = some (.cells cur e (0, 0)) := by
  rcases h.2 with ⟨rfl, _⟩ | ⟨g, cap, cur, rfl, _, hg, _⟩
  · cases hk
  · simp [Value.ownBlock] at hk; subst hk; exact ⟨cur, hg⟩
theorem own_apart {B B' : Nat} {w : World} {e e' : TypeId} {c c' : Nat} {v v' : Value} {n n' : Nat} {xs xs' : List Value} (h : w.ownsRow B e c v n xs) (h' : w.ownsRow B' e' c' v' n' xs') (he : e ≠ e') {k : Nat} (hk : v.ownBlock = some k) : v'.ownBlock ≠ some k := by
  intro q
  obtain ⟨_, h1⟩ := own_kind h hk
  obtain ⟨_, h2⟩ := own_kind h' q
  rw [h1] at h2
  simp only [Option.some.injEq, Obj.cells.injEq] at h2
  exact he h2.2.1
theorem own_block_ne {B : Nat} {w : World} {e T : TypeId} {c : Nat} {v : Value} {n b : Nat} {xs : List Value} {cs : Array Value} {z : Nat × Nat} (h : w.ownsRow B e c v n xs) (hb : w.heap[b]? = some (.cells cs T z)) (he : e ≠ T) : v.ownBlock ≠ some b := by
  intro q
  obtain ⟨_, h1⟩ := own_kind h q
  rw [hb] at h1
  simp only [Option.some.injEq, Obj.cells.injEq] at h1
  exact he h1.2.1.symm
theorem own_cell {B : Nat} {w : World} {e : TypeId} {c : Nat} {v : Value} {n : Nat} {xs : List Value} (h : w.ownsRow B e c v n xs) {g : Nat} (hg : v.ownBlock = some g) {j : Nat} {u : Value} (hj : xs[j]? = some u) : w.cell? ⟨g, j, none⟩ = some u := by
  have := World.ownsRow.cells h hg j u hj
  cases j <;> simpa [Addr.add] using this
theorem own_open {B : Nat} {w : World} {e : TypeId} {c : Nat} {v : Value} {n : Nat} {xs : List Value} (h : w.ownsRow B e c v n xs) (hn : 0 < n) : ∃ g cap, v = .slice (some ⟨g, 0, none⟩) n cap ∧ g < w.heap.size ∧ n ≤ cap ∧ w.frozen? ⟨g, 0, none⟩ = false := by
  rcases h.2 with ⟨_, h2⟩ | ⟨g, cap, cur, hv, _, hg, h1, _⟩
  · omega
  · exact ⟨g, cap, hv, lt_of_blk hg, h1, by simp [World.frozen?, hg]⟩
theorem own_slice {B : Nat} {w : World} {e : TypeId} {c : Nat} {v : Value} {n : Nat} {xs : List Value} (h : w.ownsRow B e c v n xs) : ∃ a cap, v = .slice a n cap := by
  rcases h.2 with ⟨h1, h2⟩ | ⟨g, cap, cur, hv, _⟩
  · exact ⟨none, 0, by rw [h1, h2]⟩
  · exact ⟨_, cap, hv⟩
theorem own_set {B : Nat} {w : World} {e : TypeId} {c : Nat} {v : Value} {n : Nat} {xs : List Value} (h : w.ownsRow B e c v n xs) {g : Nat} (hg : v.ownBlock = some g) {j : Nat} (u : Value) : (w.setCell ⟨g, j, none⟩ u).ownsRow B e c v n (xs.set j u) := by
  have h1 := h.1
  refine ⟨by simpa using h1, ?_⟩
  rcases h.2 with ⟨rfl, _⟩ | ⟨g', cap, cur, rfl, hB, hb, q1, q2, q3, q4⟩
  · cases hg
  · simp [Value.ownBlock] at hg
    subst hg
    refine Or.inr ⟨g', cap, cur.setIfInBounds j u, rfl, hB, by simp [World.setCell, Array.getElem?_modify, hb], q1, q2, by simpa using q3, ?_⟩
    rw [Array.toList_setIfInBounds, ← q4, List.take_set]
theorem own_frozen {B : Nat} {w : World} {e : TypeId} {c : Nat} {v : Value} {n : Nat} {xs : List Value} (h : w.ownsRow B e c v n xs) {g : Nat} (hg : v.ownBlock = some g) (j : Nat) : w.frozen? ⟨g, j, none⟩ = false := by
  obtain ⟨cur, hb⟩ := own_kind h hg
  simp [World.frozen?, hb]
def lnC (p : Nat × Nat) : List Value := [.int .i64 (p.1 : Int), .int .i64 (p.2 : Int)]
def BRow (w : World) (v : Value) (F : List Bool) : Prop := w.ownsRow 0 4 1 v F.length (F.map .bool)
def LRow (w : World) (v : Value) (l : List (Nat × Nat)) : Prop := w.ownsRow 0 94 2 v l.length (l.flatMap lnC)
theorem BRow.cell {w : World} {v : Value} {F : List Bool} (h : BRow w v F) {g : Nat} (hg : v.ownBlock = some g) {m : Nat} (hm : m < F.length) : w.cell? ⟨g, m, none⟩ = some (.bool (onB F m)) :=
  own_cell h hg (by simp [onB, List.getD, List.getElem?_eq_getElem hm])
theorem BRow.set {w : World} {v : Value} {F : List Bool} (h : BRow w v F) {g : Nat} (hg : v.ownBlock = some g) {m : Nat} (x : Bool) : BRow (w.setCell ⟨g, m, none⟩ (.bool x)) v (F.set m x) := by
  have := own_set h hg (j := m) (.bool x)
  unfold BRow
  rw [List.length_set, List.map_set]
  exact this
theorem nrow_cell {B : Nat} {w : World} {v : Value} {l : List Nat} (h : NRow B w v l) {g : Nat} (hg : v.ownBlock = some g) {m : Nat} (hm : m < l.length) : w.cell? ⟨g, m, none⟩ = some (.int .i64 ((l.getD m 0 : Nat) : Int)) :=
  own_cell h hg (by simp [List.getD, List.getElem?_eq_getElem hm])
theorem nrow_set {B : Nat} {w : World} {v : Value} {l : List Nat} (h : NRow B w v l) {g : Nat} (hg : v.ownBlock = some g) {m : Nat} (x : Nat) : NRow B (w.setCell ⟨g, m, none⟩ (.int .i64 (x : Int))) v (l.set m x) := by
  have := own_set h hg (j := m) (.int .i64 (x : Int))
  unfold NRow
  rw [List.length_set, List.map_set]
  exact this
theorem lnC_get (l : List (Nat × Nat)) (i : Nat) (p : Nat × Nat) (h : l[i]? = some p) : (l.flatMap lnC)[i * 2]? = some (.int .i64 (p.1 : Int)) ∧ (l.flatMap lnC)[i * 2 + 1]? = some (.int .i64 (p.2 : Int)) := by
  induction l generalizing i with
  | nil => simp at h
  | cons u l ih =>
    cases i with
    | zero => simp at h; subst h; simp [lnC]
    | succ i =>
      have e : ∀ k, (i + 1) * 2 + k = i * 2 + k + 1 + 1 := by omega
      have := ih i (by simpa using h)
      have e0 := e 0
      simp only [Nat.add_zero] at e0
      simp only [List.flatMap_cons, lnC, List.cons_append, List.nil_append, e0, List.getElem?_cons_succ]
      exact this
theorem LRow.cell {w : World} {v : Value} {l : List (Nat × Nat)} (h : LRow w v l) {g : Nat} (hg : v.ownBlock = some g) {i : Nat} {p : Nat × Nat} (hi : l[i]? = some p) : w.cell? ⟨g, i * 2, none⟩ = some (.int .i64 (p.1 : Int)) ∧ w.cell? ⟨g, i * 2 + 1, none⟩ = some (.int .i64 (p.2 : Int)) :=
  ⟨own_cell h hg (lnC_get l i p hi).1, own_cell h hg (lnC_get l i p hi).2⟩
theorem kinds_ne : (4 : TypeId) ≠ 3 ∧ (4 : TypeId) ≠ 94 ∧ (3 : TypeId) ≠ 94 ∧ (4 : TypeId) ≠ 97 ∧ (3 : TypeId) ≠ 97 ∧ (94 : TypeId) ≠ 97 := by decide
structure Kn (w : World) (kb : Nat) (fv tv lv : Value) (b : Nat) (F : List Bool) (fs : List Nat) (ls : List (Nat × Nat)) : Prop where
  blk : w.heap[kb]? = some (.cells #[.pointer (some ⟨b, 0, none⟩), fv, tv, lv] 97 (0, 0))
  rf : BRow w fv F
  rt : NRow 0 w tv fs
  rl : LRow w lv ls
def kfoot (kb : Nat) (fv tv lv : Value) : List Nat := kb :: (fv.ownBlock.toList ++ tv.ownBlock.toList ++ lv.ownBlock.toList)
theorem mem_kfoot {kb : Nat} {fv tv lv : Value} {x : Nat} : x ∈ kfoot kb fv tv lv ↔ x = kb ∨ fv.ownBlock = some x ∨ tv.ownBlock = some x ∨ lv.ownBlock = some x := by
  simp [kfoot, eq_comm]
theorem Kn.lt {w : World} {kb : Nat} {fv tv lv : Value} {b : Nat} {F : List Bool} {fs : List Nat} {ls : List (Nat × Nat)} (h : Kn w kb fv tv lv b F fs ls) : ∀ x ∈ kfoot kb fv tv lv, x < w.heap.size := by
  intro x hx
  rcases mem_kfoot.1 hx with rfl | hx | hx | hx
  · exact lt_of_blk h.blk
  · exact (World.ownsRow.lt h.rf x hx).2
  · exact (World.ownsRow.lt h.rt x hx).2
  · exact (World.ownsRow.lt h.rl x hx).2
theorem Kn.apart {w : World} {kb : Nat} {fv tv lv : Value} {b : Nat} {F : List Bool} {fs : List Nat} {ls : List (Nat × Nat)} (h : Kn w kb fv tv lv b F fs ls) :
    fv.ownBlock ≠ some kb ∧ tv.ownBlock ≠ some kb ∧ lv.ownBlock ≠ some kb ∧ (∀ x, fv.ownBlock = some x → tv.ownBlock ≠ some x ∧ lv.ownBlock ≠ some x) ∧ (∀ x, tv.ownBlock = some x → lv.ownBlock ≠ some x) := by
  obtain ⟨k1, k2, k3, k4, k5, k6⟩ := kinds_ne
  exact ⟨own_block_ne h.rf h.blk k4, own_block_ne h.rt h.blk k5, own_block_ne h.rl h.blk k6, fun x hx => ⟨own_apart h.rf h.rt k1 hx, own_apart h.rf h.rl k2 hx⟩, fun x hx => own_apart h.rt h.rl k3 hx⟩
theorem Kn.keep {w w' : World} {kb : Nat} {fv tv lv : Value} {b : Nat} {F : List Bool} {fs : List Nat} {ls : List (Nat × Nat)} {S : List Nat} (h : Kn w kb fv tv lv b F fs ls) (hf : Fr S w w') (hd : ∀ x ∈ kfoot kb fv tv lv, x ∉ S) : Kn w' kb fv tv lv b F fs ls := by
  have hb : ∀ x ∈ kfoot kb fv tv lv, w'.heap[x]? = w.heap[x]? := fun x hx => hf.block x (h.lt x hx) (hd x hx)
  exact ⟨by rw [hb kb (mem_kfoot.2 (Or.inl rfl))]; exact h.blk, own_keep h.rf (fun k hk => hb k (mem_kfoot.2 (Or.inr (Or.inl hk)))), own_keep h.rt (fun k hk => hb k (mem_kfoot.2 (Or.inr (Or.inr (Or.inl hk))))), own_keep h.rl (fun k hk => hb k (mem_kfoot.2 (Or.inr (Or.inr (Or.inr hk)))))⟩
theorem Kn.bw {w w' : World} {kb : Nat} {fv tv lv : Value} {b : Nat} {F : List Bool} {fs : List Nat} {ls : List (Nat × Nat)} (h : Kn w kb fv tv lv b F fs ls) (hb : Below w.heap.size w w') : Kn w' kb fv tv lv b F fs ls := h.keep (Fr.ofBelow hb) (by simp)
theorem Kn.cells {w : World} {kb : Nat} {fv tv lv : Value} {b : Nat} {F : List Bool} {fs : List Nat} {ls : List (Nat × Nat)} (h : Kn w kb fv tv lv b F fs ls) :
    w.cell? ⟨kb, 0, none⟩ = some (.pointer (some ⟨b, 0, none⟩)) ∧ w.cell? ⟨kb, 1, none⟩ = some fv ∧ w.cell? ⟨kb, 2, none⟩ = some tv ∧ w.cell? ⟨kb, 3, none⟩ = some lv ∧ ∀ j, w.frozen? ⟨kb, j, none⟩ = false := by
  refine ⟨?_, ?_, ?_, ?_, fun j => ?_⟩ <;> simp [World.cell?, World.frozen?, h.blk]
structure Mv (w w' : World) (Z Z' : List Nat) : Prop where
  fr : Fr Z w w'
  place : ∀ x ∈ Z', x ∈ Z ∨ w.heap.size ≤ x
theorem Mv.refl (w : World) (Z : List Nat) : Mv w w Z Z := ⟨Fr.refl _ _, fun _ h => Or.inl h⟩
theorem Mv.same {w w' : World} (Z : List Nat) (h : Below w.heap.size w w') : Mv w w' Z Z := ⟨(Fr.ofBelow h).mono (fun _ _ c => by cases c), fun _ h => Or.inl h⟩
theorem Mv.trans {w w1 w2 : World} {Z Z1 Z2 : List Nat} (h : Mv w w1 Z Z1) (k : Mv w1 w2 Z1 Z2) : Mv w w2 Z Z2 := by
  refine ⟨h.fr.trans k.fr (fun _ _ c => c) (fun x hx c => ?_), fun x hx => ?_⟩
  · rcases h.place x c with c | c
    · exact c
    · omega
  · rcases k.place x hx with c | c
    · exact h.place x c
    · exact Or.inr (Nat.le_trans h.fr.size c)
theorem Mv.before {w w0 w1 : World} {Z Z1 : List Nat} (h : Below w.heap.size w w0) (k : Mv w0 w1 Z Z1) : Mv w w1 Z Z1 := (Mv.same Z h).trans k
theorem Mv.after {w w0 w1 : World} {Z Z1 : List Nat} (k : Mv w w0 Z Z1) (h : Below w0.heap.size w0 w1) : Mv w w1 Z Z1 := k.trans (Mv.same Z1 h)
structure Res where
  Z : List Nat
  P : World → Prop
  keep : ∀ w w' S, P w → Fr S w w' → (∀ x ∈ Z, x ∉ S) → P w'
  lt : ∀ w, P w → ∀ x ∈ Z, x < w.heap.size
structure Env (w wr : World) (rs : List Res) : Prop where
  bel : Below w.heap.size w wr
  hold : ∀ r ∈ rs, r.P wr
  low : ∀ r ∈ rs, ∀ x ∈ r.Z, w.heap.size ≤ x
  dis : rs.Pairwise (fun r s => ∀ x ∈ r.Z, x ∉ s.Z)
theorem Env.nil (w : World) : Env w w [] := ⟨Below.refl _ _, by simp, by simp, List.Pairwise.nil⟩
theorem Env.new {w wr w1 : World} {rs : List Res} (h : Env w wr rs) (hb : Below wr.heap.size wr w1) : Env w w1 rs :=
  ⟨bw_tr h.bel hb, fun r hr => r.keep wr w1 [] (h.hold r hr) (Fr.ofBelow hb) (by simp), h.low, h.dis⟩
theorem Env.add {w wr w1 : World} {rs : List Res} (h : Env w wr rs) (r : Res) (hb : Below wr.heap.size wr w1) (hP : r.P w1) (hn : ∀ x ∈ r.Z, wr.heap.size ≤ x) : Env w w1 (r :: rs) := by
  have h1 := h.new hb
  refine ⟨h1.bel, ?_, ?_, ?_⟩
  · intro s hs
    rcases List.mem_cons.1 hs with rfl | hs
    · exact hP
    · exact h1.hold s hs
  · intro s hs x hx
    rcases List.mem_cons.1 hs with rfl | hs
    · have := hn x hx; have := h.bel.size; omega
    · exact h.low s hs x hx
  · refine List.Pairwise.cons (fun s hs x hx c => ?_) h.dis
    have := hn x hx
    have := s.lt wr (h.hold s hs) x c
    omega
theorem Env.step {w wr w1 : World} {r r' : Res} {rs : List Res} (h : Env w wr (r :: rs)) (hg : Mv wr w1 r.Z r'.Z) (hP : r'.P w1) : Env w w1 (r' :: rs) := by
  have hd := List.pairwise_cons.1 h.dis
  have hl : ∀ x ∈ r.Z, w.heap.size ≤ x := h.low r (by simp)
  refine ⟨Fr.toBase h.bel hg.fr hl, ?_, ?_, ?_⟩
  · intro s hs
    rcases List.mem_cons.1 hs with rfl | hs
    · exact hP
    · exact s.keep wr w1 r.Z (h.hold s (List.mem_cons_of_mem _ hs)) hg.fr (fun x hx c => hd.1 s hs x c hx)
  · intro s hs x hx
    rcases List.mem_cons.1 hs with rfl | hs
    · rcases hg.place x hx with c | c
      · exact hl x c
      · have := h.bel.size; omega
    · exact h.low s (List.mem_cons_of_mem _ hs) x hx
  · refine List.Pairwise.cons (fun s hs x hx c => ?_) hd.2
    rcases hg.place x hx with q | q
    · exact hd.1 s hs x q c
    · have := s.lt wr (h.hold s (List.mem_cons_of_mem _ hs)) x c; omega
theorem Env.hd {w wr : World} {r : Res} {rs : List Res} (h : Env w wr (r :: rs)) : r.P wr := h.hold r (by simp)
theorem Env.sd {w wr : World} {r s : Res} {rs : List Res} (h : Env w wr (r :: s :: rs)) : s.P wr := h.hold s (by simp)
theorem Env.apart {w wr : World} {r s : Res} {rs : List Res} (h : Env w wr (r :: s :: rs)) : ∀ x ∈ r.Z, x ∉ s.Z := (List.pairwise_cons.1 h.dis).1 s (by simp)
def resS (b : Nat) (sv : Value) (mb : Nat) (L : List Tm) : Res := ⟨foot b sv mb, fun w => St w b sv mb L, fun _ _ _ h hf hd => h.keep hf hd, fun _ h => h.lt⟩
def KS (w : World) (kb b : Nat) (L : List Tm) (K : Nat → Prop) (Z : List Nat) : Prop :=
  ∃ fv tv lv F fs ls, Z = kfoot kb fv tv lv ∧ Kn w kb fv tv lv b F fs ls ∧ Lk L F fs ls none2 0 ∧ Sm L K F [] none1
theorem KS.keep {w w' : World} {kb b : Nat} {L : List Tm} {K : Nat → Prop} {Z S : List Nat} (h : KS w kb b L K Z) (hf : Fr S w w') (hd : ∀ x ∈ Z, x ∉ S) : KS w' kb b L K Z := by
  obtain ⟨fv, tv, lv, F, fs, ls, rfl, h1, h2, h3⟩ := h
  exact ⟨fv, tv, lv, F, fs, ls, rfl, h1.keep hf hd, h2, h3⟩
theorem KS.lt {w : World} {kb b : Nat} {L : List Tm} {K : Nat → Prop} {Z : List Nat} (h : KS w kb b L K Z) : ∀ x ∈ Z, x < w.heap.size := by
  obtain ⟨fv, tv, lv, F, fs, ls, rfl, h1, h2, h3⟩ := h
  exact h1.lt
def resK (kb b : Nat) (L : List Tm) (K : Nat → Prop) (Z : List Nat) : Res := ⟨Z, fun w => KS w kb b L K Z, fun _ _ _ h hf hd => h.keep hf hd, fun _ h => h.lt⟩
end Go.Proofs.Ytokdflbajnecpaa.Tn
