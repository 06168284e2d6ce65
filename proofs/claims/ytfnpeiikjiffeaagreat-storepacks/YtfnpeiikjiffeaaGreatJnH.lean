/- What save keeps beside a disk: blocks as they are, the loop's own blocks; what its writes come to, plainly. -/
import Derived.Test.YtfnpeiikjiffeaaGreatJnG
namespace Go.Proofs.YtfnpeiikjiffeaaGreat
open Go.RowKit Go.Maps

/-- Blocks as they are. -/
def resBs (l : List (Nat × Obj)) : Res := ⟨l.map (·.1), fun w => ∀ p ∈ l, w.heap[p.1]? = some p.2, fun w w' S h hf hd p hp => (hf.block p.1 (lt_of_blk (h p hp)) (hd p.1 (List.mem_map.2 ⟨p, hp, rfl⟩))).trans (h p hp), fun w h x hx => by obtain ⟨p, hp, rfl⟩ := List.mem_map.1 hx; exact lt_of_blk (h p hp)⟩
def Solid (r : Res) : Prop := ∀ W, r.P W → ∀ x ∈ r.Z, ∀ o, W.heap[x]? = some o → isLp o = false
theorem solid_D (d : Nat) (S : DS) (Z : List Nat) : Solid (resD d S Z) := by
  intro W hP x hx o ho
  obtain ⟨nb, sb, cb, fv, cv, rfl, h1⟩ := hP
  rcases mem_dfoot.1 hx with rfl | rfl | rfl | hx | ⟨rfl, h2, h3⟩
  · rw [h1.blk] at ho; cases ho; rfl
  · obtain ⟨e, c, hm⟩ := h1.now.block; rw [hm] at ho; cases ho; rfl
  · obtain ⟨e, c, hm⟩ := h1.syn.block; rw [hm] at ho; cases ho; rfl
  · obtain ⟨c, hc⟩ := own_kind h1.row hx; rw [hc] at ho; cases ho; rfl
  · obtain ⟨_, _, _, _, _, hb⟩ := h1.come.cut h2 h3; rw [hb] at ho; cases ho; rfl
theorem solid_Bs {l : List (Nat × Obj)} (h : ∀ p ∈ l, isLp p.2 = false) : Solid (resBs l) := by
  intro W hP x hx o ho
  obtain ⟨p, hp, rfl⟩ := List.mem_map.1 hx
  rw [hP p hp] at ho; cases ho; exact h p hp
theorem Env.addOld {w wr : World} {rs : List Res} (h : Env w wr rs) (r : Res) (hP : r.P wr) (hlow : ∀ x ∈ r.Z, w.heap.size ≤ x) (hdis : ∀ s ∈ rs, ∀ x ∈ r.Z, x ∉ s.Z) : Env w wr (r :: rs) := by
  refine ⟨h.bel, ?_, ?_, List.Pairwise.cons hdis h.dis⟩
  · intro s hs
    rcases List.mem_cons.1 hs with rfl | hs
    · exact hP
    · exact h.hold s hs
  · intro s hs x hx
    rcases List.mem_cons.1 hs with rfl | hs
    · exact hlow x hx
    · exact h.low s hs x hx
theorem ED.addBs {w W W' : World} {d : Nat} {S : DS} {rs : List Res} (h : ED w W d S rs) (l : List (Nat × Obj)) (hb : Below W.heap.size W W') (hP : ∀ p ∈ l, W'.heap[p.1]? = some p.2) (hn : ∀ p ∈ l, W.heap.size ≤ p.1) : ED w W' d S (resBs l :: rs) := by
  obtain ⟨Z, h⟩ := h
  refine ⟨Z, (h.add (resBs l) hb hP (fun x hx => ?_)).swap⟩
  obtain ⟨p, hp, rfl⟩ := List.mem_map.1 hx
  exact hn p hp
theorem ED.bs {w W : World} {d : Nat} {S : DS} {rs : List Res} {l : List (Nat × Obj)} (h : ED w W d S (resBs l :: rs)) : ∀ p ∈ l, W.heap[p.1]? = some p.2 := by obtain ⟨Z, h⟩ := h; exact h.sd
theorem ED.drop1 {w W : World} {d : Nat} {S : DS} {rs : List Res} {r : Res} (h : ED w W d S (r :: rs)) : ED w W d S rs := by obtain ⟨Z, h⟩ := h; exact ⟨Z, h.swap.drop⟩
theorem ED.setBs {w W W' : World} {d : Nat} {S : DS} {rs : List Res} {l l' : List (Nat × Obj)} (h : ED w W d S (resBs l :: rs)) (hz : l'.map (·.1) = l.map (·.1)) (hf : Fr (l.map (·.1)) W W') (hP : ∀ p ∈ l', W'.heap[p.1]? = some p.2) : ED w W' d S (resBs l' :: rs) := by
  obtain ⟨Z, h⟩ := h
  exact ⟨Z, (h.swap.step (r' := resBs l') ⟨hf, fun x hx => Or.inl (by show x ∈ l.map (·.1); rw [← hz]; exact hx)⟩ hP).swap⟩
/-- The loop's own two blocks, beside the rest. -/
theorem ED.addL {w W : World} {d : Nat} {S : DS} {rs : List Res} (h : ED w W d S rs) (hs : ∀ r ∈ rs, Solid r) {D l : Nat} {o1 o2 : Obj} (h1 : W.heap[D]? = some o1) (h2 : W.heap[l]? = some o2) (i1 : isLp o1 = true) (i2 : isLp o2 = true) (hD : w.heap.size ≤ D) (hl : w.heap.size ≤ l) : ED w W d S (resBs [(D, o1), (l, o2)] :: rs) := by
  obtain ⟨Z, h⟩ := h
  refine ⟨Z, (h.addOld (resBs [(D, o1), (l, o2)]) ?_ ?_ ?_).swap⟩
  · intro p hp; simp at hp; rcases hp with rfl | rfl <;> assumption
  · intro x hx; simp [resBs] at hx; rcases hx with rfl | rfl <;> assumption
  · intro r hr x hx c
    have hsr : Solid r := by
      rcases List.mem_cons.1 hr with rfl | hr
      · exact solid_D _ _ _
      · exact hs r hr
    have hp := h.hold r hr
    simp [resBs] at hx
    rcases hx with rfl | rfl
    · have := hsr W hp _ c _ h1; rw [i1] at this; cases this
    · have := hsr W hp _ c _ h2; rw [i2] at this; cases this
/-- A turn of the loop's own blocks leaves a disk as it is. -/
theorem ED.putL {w W : World} {d : Nat} {S : DS} {rs : List Res} (h : ED w W d S rs) (hs : ∀ r ∈ rs, Solid r) {b : Nat} {o o' : Obj} (hb : W.heap[b]? = some o) (hi : isLp o = true) (hw : w.heap.size ≤ b) : ED w (W.putObj b o') d S rs := by
  obtain ⟨Z, h⟩ := h
  have hf : Fr [b] W (W.putObj b o') := ⟨rfl, rfl, rfl, by simp, fun k _ hk => World.putObj_heap_other (by simpa using hk)⟩
  have hno : ∀ r ∈ resD d S Z :: rs, b ∉ r.Z := fun r hr c => by
    have hsr : Solid r := by
      rcases List.mem_cons.1 hr with rfl | hr
      · exact solid_D _ _ _
      · exact hs r hr
    have := hsr W (h.hold r hr) _ c _ hb; rw [hi] at this; cases this
  refine ⟨Z, ⟨Fr.toBase (S := [b]) h.bel hf (by simpa using hw), fun r hr => r.keep W _ [b] (h.hold r hr) hf (fun x hx c => by simp at c; subst c; exact hno r hr hx), h.low, h.dis⟩⟩

/-! What the writes come to. -/
theorem write_bound (S : DS) (x : Int) (s : ByteArray) : (S.write x s).1.cnt ≤ S.cnt + 1 ∧ (S.write x s).1.since.length ≤ S.since.length + 1 ∧ (S.write x s).1.N = S.N := by
  unfold DS.write
  split
  · exact ⟨by simp, by simp, rfl⟩
  · split
    · exact ⟨by simp, by simp, rfl⟩
    · unfold DS.come
      split
      · exact ⟨Nat.le_refl _, by simp [DS.did, DS.put], rfl⟩
      · exact ⟨by simp [DS.fall], by simp [DS.fall], rfl⟩
      · exact ⟨Nat.le_refl _, by simp [DS.did, DS.put], rfl⟩
theorem sync_bound (S : DS) : S.sync.1.cnt ≤ S.cnt + 1 ∧ S.sync.1.since.length ≤ S.since.length ∧ S.sync.1.N = S.N := by
  unfold DS.sync
  split
  · exact ⟨by simp, by simp, rfl⟩
  · unfold DS.come
    split
    · exact ⟨Nat.le_refl _, by simp [DS.did, DS.settle], rfl⟩
    · exact ⟨by simp [DS.fall], by simp [DS.fall], rfl⟩
    · exact ⟨Nat.le_refl _, by simp [DS.did, DS.settle], rfl⟩
/-- The bytes of the sector number i of a text. -/
def chk (s : ByteArray) (i : Nat) : ByteArray := fill (s.data.toList.drop (64 * i))
theorem chk_size (s : ByteArray) (i : Nat) : (chk s i).size = 64 := fill_size _
/-- The disk behind the first i sectors. -/
def wrI (S : DS) (A : Nat) (s : ByteArray) : Nat → DS
  | 0 => S
  | i + 1 => ((wrI S A s i).write ((A + i : Nat) : Int) (chk s i)).1
/-- What the write of the sector number i answers. -/
def wrE (S : DS) (A : Nat) (s : ByteArray) (i : Nat) : Int := ((wrI S A s i).write ((A + i : Nat) : Int) (chk s i)).2
theorem wrI_bound (S : DS) (A : Nat) (s : ByteArray) (i : Nat) : (wrI S A s i).cnt ≤ S.cnt + i ∧ (wrI S A s i).since.length ≤ S.since.length + i ∧ (wrI S A s i).N = S.N := by
  induction i with
  | zero => exact ⟨by simp [wrI], by simp [wrI], rfl⟩
  | succ i ih =>
    have := write_bound (wrI S A s i) ((A + i : Nat) : Int) (chk s i)
    simp only [wrI]
    exact ⟨by omega, by omega, this.2.2.trans ih.2.2⟩
/-- save, plainly: what it leaves, and what it answers. -/
inductive Saved (S : DS) (n : Nat) (s : ByteArray) : DS → Int → Prop
  | text (i : Nat) (hi : i < rnds s.size) (h0 : ∀ j, j < i → wrE S (at0 S.N n) s j = 0) (he : wrE S (at0 S.N n) s i ≠ 0) : Saved S n s (wrI S (at0 S.N n) s (i + 1)) (wrE S (at0 S.N n) s i)
  | sync (h0 : ∀ j, j < rnds s.size → wrE S (at0 S.N n) s j = 0) (he : (wrI S (at0 S.N n) s (rnds s.size)).sync.2 ≠ 0) : Saved S n s (wrI S (at0 S.N n) s (rnds s.size)).sync.1 (wrI S (at0 S.N n) s (rnds s.size)).sync.2
  | head (h0 : ∀ j, j < rnds s.size → wrE S (at0 S.N n) s j = 0) (h1 : (wrI S (at0 S.N n) s (rnds s.size)).sync.2 = 0) (he : ((wrI S (at0 S.N n) s (rnds s.size)).sync.1.write (((n + 1) % 2 : Nat) : Int) (hd n s.size)).2 ≠ 0) :
      Saved S n s ((wrI S (at0 S.N n) s (rnds s.size)).sync.1.write (((n + 1) % 2 : Nat) : Int) (hd n s.size)).1 ((wrI S (at0 S.N n) s (rnds s.size)).sync.1.write (((n + 1) % 2 : Nat) : Int) (hd n s.size)).2
  | last (h0 : ∀ j, j < rnds s.size → wrE S (at0 S.N n) s j = 0) (h1 : (wrI S (at0 S.N n) s (rnds s.size)).sync.2 = 0) (h2 : ((wrI S (at0 S.N n) s (rnds s.size)).sync.1.write (((n + 1) % 2 : Nat) : Int) (hd n s.size)).2 = 0) :
      Saved S n s ((wrI S (at0 S.N n) s (rnds s.size)).sync.1.write (((n + 1) % 2 : Nat) : Int) (hd n s.size)).1.sync.1 ((wrI S (at0 S.N n) s (rnds s.size)).sync.1.write (((n + 1) % 2 : Nat) : Int) (hd n s.size)).1.sync.2

end Go.Proofs.YtfnpeiikjiffeaaGreat
