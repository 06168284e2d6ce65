/- Texts joined: DkLawP DkEnv DkEnvB. -/
import Derived.Test.YtfnpeiikjiffeaaGreatBaC
import Derived.Test.YtfnpeiikjiffeaaGreatDkFrame
import Derived.Test.YtfnpeiikjiffeaaGreatBaE
/- Disks, plainly: rows of writes, falls with no bits and with the bits 0101.., halves, cuts. No program is in this text. -/
namespace Go.Proofs.YtfnpeiikjiffeaaGreat

theorem DS.write_plain {S : DS} (hu : S.up = true) (hc : S.cut = none) (a : Int) (s : ByteArray) : S.write a s = if a < 0 ∨ (S.N : Int) ≤ a ∨ s.size ≠ 64 then (S, 1) else ((S.put a.toNat s).did, 0) := by
  unfold DS.write
  rw [hu]
  simp only [Bool.true_eq_false, if_false]
  split
  · rfl
  · simp [DS.come, hc]
/-- The writes of a list, one behind the other. -/
def wrs (S : DS) (l : List Wr) : DS := l.foldl (fun S x => (S.write x.at_ x.s).1) S
theorem wrs_take {S : DS} {l : List Wr} {i : Nat} {x : Wr} (h : l[i]? = some x) : wrs S (l.take (i + 1)) = ((wrs S (l.take i)).write x.at_ x.s).1 := by
  unfold wrs
  rw [List.take_add_one, h]
  simp [List.foldl_append]
theorem wrs_snoc (S : DS) (l : List Wr) (x : Wr) : wrs S (l ++ [x]) = ((wrs S l).write x.at_ x.s).1 := by simp [wrs, List.foldl_append]
/-- What a row of writes leaves as it is, and what it adds. -/
structure Wrote (S T : DS) (l : List Wr) : Prop where
  up : T.up = true
  cut : T.cut = none
  N : T.N = S.N
  base : T.base = S.base
  cnt : T.cnt ≤ S.cnt + l.length
  len : T.since.length ≤ S.since.length + l.length
  mem : ∀ p ∈ T.since, p ∈ S.since ∨ ∃ x ∈ l, x.at_ = (p.1 : Int) ∧ x.s = p.2 ∧ x.s.size = 64
theorem wrote {S : DS} (hu : S.up = true) (hc : S.cut = none) (l : List Wr) : Wrote S (wrs S l) l := by
  induction l generalizing S with
  | nil => exact ⟨hu, hc, rfl, rfl, by simp [wrs], by simp [wrs], fun p hp => Or.inl hp⟩
  | cons x l ih =>
    have e : wrs S (x :: l) = wrs (S.write x.at_ x.s).1 l := rfl
    rw [e, DS.write_plain hu hc]
    split
    · have h := ih hu hc
      exact ⟨h.up, h.cut, h.N, h.base, by have := h.cnt; simp; omega, by have := h.len; simp; omega, fun p hp => (h.mem p hp).imp id (fun ⟨y, h1, h2⟩ => ⟨y, by simp [h1], h2⟩)⟩
    · rename_i hx
      have h := ih (S := (S.put x.at_.toNat x.s).did) hu hc
      refine ⟨h.up, h.cut, h.N, h.base, by have := h.cnt; simp [DS.did, DS.put] at this ⊢; omega, by have := h.len; simp [DS.did, DS.put] at this ⊢; omega, fun p hp => ?_⟩
      rcases h.mem p hp with hp | ⟨y, h1, h2⟩
      · simp only [DS.did, DS.put, List.mem_append, List.mem_singleton] at hp
        rcases hp with hp | rfl
        · exact Or.inl hp
        · exact Or.inr ⟨x, by simp, by simp only; omega, rfl, by omega⟩
      · exact Or.inr ⟨y, by simp [h1], h2⟩
theorem wrs_size {S : DS} (hu : S.up = true) (hc : S.cut = none) (l : List Wr) : (wrs S l).up = true ∧ (wrs S l).cut = none := ⟨(wrote hu hc l).up, (wrote hu hc l).cut⟩

theorem fate_zero (i : Nat) : fate 0 i = 0 := by unfold fate; rw [Int.zero_ediv]; decide
theorem upd_id (f : Nat → ByteArray) (k : Nat) : upd f k (f k) = f := by funext j; unfold upd; split <;> simp_all
theorem fl_zero (l : List (Nat × ByteArray)) (i : Nat) (f : Nat → ByteArray) : fl 0 i f l = f := by
  induction l generalizing i f with
  | nil => rfl
  | cons p l ih => simp only [fl, ih, fate_zero]; exact upd_id f p.1
theorem fall_zero (S : DS) : (S.fall 0).base = S.base := by simp [DS.fall, fl_zero]
theorem fate_kept : ∀ i, i < 31 → fate 6148914691236517205 i = 1 := by decide
theorem fl_kept (l : List (Nat × ByteArray)) (i : Nat) (f : Nat → ByteArray) (h : i + l.length ≤ 31) : fl 6148914691236517205 i f l = cur f l := by
  induction l generalizing i f with
  | nil => rfl
  | cons p l ih =>
    simp only [List.length_cons] at h
    simp only [fl, cur_cons]
    rw [ih _ _ (by omega), fate_kept i (by omega)]
    simp [torn]
theorem fall_kept (S : DS) (h : S.since.length ≤ 31) : (S.fall 6148914691236517205).base = S.now := by
  simp only [DS.fall, DS.now]
  rw [List.take_of_length_le h, fl_kept _ _ _ (by omega)]

/-! Halves. -/
def Half (a b : Nat) (l : List (Nat × ByteArray)) (f : Nat → ByteArray) (k : Nat) (s : ByteArray) : Prop := s.extract a b = (f k).extract a b ∨ ∃ p ∈ l, p.1 = k ∧ s.extract a b = p.2.extract a b
theorem ext_app1 {x y : ByteArray} (h : x.size = 32) : (x ++ y).extract 0 32 = x := by
  cases x with | mk x => cases y with | mk y =>
  have h : x.size = 32 := h
  apply ByteArray.ext
  simp [ByteArray.data_extract, ByteArray.data_append, ← h]
theorem ext_app2 {x y : ByteArray} (h : x.size = 32) (h2 : y.size = 32) : (x ++ y).extract 32 64 = y := by
  cases x with | mk x => cases y with | mk y =>
  have h : x.size = 32 := h
  have h2 : y.size = 32 := h2
  apply ByteArray.ext
  apply Array.ext'
  have e1 : x.toList.length = 32 := by simpa using h
  have e2 : y.toList.length = 32 := by simpa using h2
  simp only [ByteArray.data_extract, ByteArray.data_append, Array.toList_extract, List.extract_eq_take_drop, Array.toList_append]
  rw [List.drop_append_of_le_length (by omega), List.drop_of_length_le (by omega), List.nil_append, List.take_of_length_le (by omega)]
theorem ext_size {s : ByteArray} (h : s.size = 64) : (s.extract 0 32).size = 32 ∧ (s.extract 32 64).size = 32 := by simp [ByteArray.size_extract, h]
theorem torn_half1 {b s : ByteArray} (hb : b.size = 64) (hs : s.size = 64) (h : Int) : (torn b s h).extract 0 32 = b.extract 0 32 ∨ (torn b s h).extract 0 32 = s.extract 0 32 := by
  unfold torn
  split
  · exact Or.inr rfl
  · split
    · exact Or.inr (ext_app1 (ext_size hs).1)
    · split
      · exact Or.inl (ext_app1 (ext_size hb).1)
      · exact Or.inl rfl
theorem torn_half2 {b s : ByteArray} (hb : b.size = 64) (hs : s.size = 64) (h : Int) : (torn b s h).extract 32 64 = b.extract 32 64 ∨ (torn b s h).extract 32 64 = s.extract 32 64 := by
  unfold torn
  split
  · exact Or.inr rfl
  · split
    · exact Or.inl (ext_app2 (ext_size hs).1 (ext_size hb).2)
    · split
      · exact Or.inr (ext_app2 (ext_size hb).1 (ext_size hs).2)
      · exact Or.inl rfl
theorem fl_half {a b : Nat} (ht : ∀ (x s : ByteArray) (h : Int), x.size = 64 → s.size = 64 → (torn x s h).extract a b = x.extract a b ∨ (torn x s h).extract a b = s.extract a b) (bits : Int) (l : List (Nat × ByteArray)) (i : Nat) (f : Nat → ByteArray) (hf : ∀ k, (f k).size = 64) (hl : ∀ p ∈ l, p.2.size = 64) (k : Nat) : Half a b l f k (fl bits i f l k) := by
  induction l generalizing i f with
  | nil => exact Or.inl rfl
  | cons p l ih =>
    have hp := hl p (by simp)
    have hq : ∀ k, (upd f p.1 (torn (f p.1) p.2 (fate bits i)) k).size = 64 := by
      intro j; unfold upd; split
      · exact torn_size _ (hf _) hp
      · exact hf j
    rcases ih (i + 1) _ hq (fun q hh => hl q (by simp [hh])) with h | ⟨q, h1, h2, h3⟩
    · simp only [fl]
      by_cases hk : k = p.1
      · subst hk
        rw [upd_same] at h
        rcases ht (f p.1) p.2 (fate bits i) (hf _) hp with c | c
        · exact Or.inl (h.trans c)
        · exact Or.inr ⟨p, by simp, rfl, h.trans c⟩
      · rw [upd_other _ _ hk] at h
        exact Or.inl h
    · exact Or.inr ⟨q, by simp [h1], h2, h3⟩
theorem fall_half {S : DS} (h : S.ok) (bits : Int) (k : Nat) : Half 0 32 S.since S.base k ((S.fall bits).base k) ∧ Half 32 64 S.since S.base k ((S.fall bits).base k) := by
  have hm : ∀ p ∈ S.since.take 31, p.2.size = 64 := fun p hp => (h.ats p (List.mem_of_mem_take hp)).2
  constructor
  · rcases fl_half (a := 0) (b := 32) (fun x s h hx hs => torn_half1 hx hs h) bits (S.since.take 31) 0 S.base h.sz hm k with c | ⟨p, c1, c2⟩
    · exact Or.inl c
    · exact Or.inr ⟨p, List.mem_of_mem_take c1, c2⟩
  · rcases fl_half (a := 32) (b := 64) (fun x s h hx hs => torn_half2 hx hs h) bits (S.since.take 31) 0 S.base h.sz hm k with c | ⟨p, c1, c2⟩
    · exact Or.inl c
    · exact Or.inr ⟨p, List.mem_of_mem_take c1, c2⟩

end Go.Proofs.YtfnpeiikjiffeaaGreat

/- Disks beside other resources: the contracts of package disk, as the laws use them; a row of texts. -/
namespace Go.Proofs.YtfnpeiikjiffeaaGreat
open Go.RowKit Go.Maps

theorem bw_alloc (w : World) (o : Obj) : Below w.heap.size w (w.alloc o) := (Below.refl _ _).alloc (Nat.le_refl _) _
theorem bw_drew (w : World) : Below w.heap.size w w.drew := ⟨rfl, rfl, rfl, Nat.le_refl _, fun _ _ => rfl⟩
/-- A disk, and beside it what lies apart of it. -/
def ED (w W : World) (d : Nat) (S : DS) (rs : List Res) : Prop := ∃ Z, Env w W (resD d S Z :: rs)
theorem ED.bel {w W : World} {d : Nat} {S : DS} {rs : List Res} (h : ED w W d S rs) : Below w.heap.size w W := by obtain ⟨Z, h⟩ := h; exact h.bel
theorem ED.ok {w W : World} {d : Nat} {S : DS} {rs : List Res} (h : ED w W d S rs) : S.ok := by obtain ⟨Z, h⟩ := h; exact DkS.ok h.hd
theorem ED.new {w W W1 : World} {d : Nat} {S : DS} {rs : List Res} (h : ED w W d S rs) (hb : Below W.heap.size W W1) : ED w W1 d S rs := by obtain ⟨Z, h⟩ := h; exact ⟨Z, h.new hb⟩
theorem ED.drew {w W : World} {d : Nat} {S : DS} {rs : List Res} (h : ED w W d S rs) : ED w W.drew d S rs := h.new ⟨rfl, rfl, rfl, Nat.le_refl _, fun _ _ => rfl⟩
theorem ED.start {w W : World} {rs : List Res} (h : Env w W rs) (N : Nat) (h1 : 1 ≤ N) (h2 : N ≤ 4096) :
    Calls Tryz.prog 13 #[.int .i64 (N : Int)] W fun e W' => ∃ d, e = .returned (.tuple #[.pointer (some ⟨d, 0, none⟩), .int .i64 0]) ∧ ED w W' d (DS.new N) rs := by
  refine (new_any N W h1 h2).mono ?_
  rintro e W' ⟨d, Z, rfl, hd, hb, hn⟩
  exact ⟨d, rfl, Z, h.add (resD d (DS.new N) Z) hb hd hn⟩
theorem ED.write {w W : World} {d : Nat} {S : DS} {rs : List Res} (h : ED w W d S rs) (hn : S.cnt < 4611686018427387904) (hq : S.since.length < 4611686018427387904) (x : Int) (s : ByteArray) (hsl : s.size ≤ 140737488355328) :
    Calls Tryz.prog 121 #[.pointer (some ⟨d, 0, none⟩), .int .i64 x, .string s] W fun e W' => e = .returned (.int .i64 (S.write x s).2) ∧ ED w W' d (S.write x s).1 rs := by
  obtain ⟨Z, h⟩ := h
  refine (write_any (h.hd : DkS W d S Z) hn hq x s hsl).mono ?_
  rintro e W' ⟨rfl, Z', hd, hm⟩
  exact ⟨rfl, Z', h.step (r' := resD d _ Z') hm hd⟩
theorem ED.sync {w W : World} {d : Nat} {S : DS} {rs : List Res} (h : ED w W d S rs) (hn : S.cnt < 4611686018427387904) :
    Calls Tryz.prog 122 #[.pointer (some ⟨d, 0, none⟩)] W fun e W' => e = .returned (.int .i64 S.sync.2) ∧ ED w W' d S.sync.1 rs := by
  obtain ⟨Z, h⟩ := h
  refine (sync_any (h.hd : DkS W d S Z) hn).mono ?_
  rintro e W' ⟨rfl, Z', hd, hm⟩
  exact ⟨rfl, Z', h.step (r' := resD d _ Z') hm hd⟩
theorem ED.crash {w W : World} {d : Nat} {S : DS} {rs : List Res} (h : ED w W d S rs) (bits : Int) :
    Calls Tryz.prog 19 #[.pointer (some ⟨d, 0, none⟩), .int .i64 bits] W fun e W' => e = .returned (.int .i64 (S.crash bits).2) ∧ ED w W' d (S.crash bits).1 rs := by
  obtain ⟨Z, h⟩ := h
  refine (crash_any (h.hd : DkS W d S Z) bits).mono ?_
  rintro e W' ⟨rfl, Z', hd, hm⟩
  exact ⟨rfl, Z', h.step (r' := resD d _ Z') hm hd⟩
theorem ED.begin {w W : World} {d : Nat} {S : DS} {rs : List Res} (h : ED w W d S rs) :
    Calls Tryz.prog 20 #[.pointer (some ⟨d, 0, none⟩)] W fun e W' => e = .returned (.int .i64 S.start.2) ∧ ED w W' d S.start.1 rs := by
  obtain ⟨Z, h⟩ := h
  refine (start_any (h.hd : DkS W d S Z)).mono ?_
  rintro e W' ⟨rfl, Z', hd, hm⟩
  exact ⟨rfl, Z', h.step (r' := resD d _ Z') hm hd⟩
theorem ED.cut {w W : World} {d : Nat} {S : DS} {rs : List Res} (h : ED w W d S rs) (n bits : Int) (hn : n ≤ 9223372036854775807) :
    Calls Tryz.prog 17 #[.pointer (some ⟨d, 0, none⟩), .int .i64 n, .int .i64 bits] W fun e W' => e = .returned (.int .i64 (S.doCut n bits).2) ∧ ED w W' d (S.doCut n bits).1 rs := by
  obtain ⟨Z, h⟩ := h
  refine (cut_any (h.hd : DkS W d S Z) n bits hn).mono ?_
  rintro e W' ⟨rfl, Z', hd, hm⟩
  exact ⟨rfl, Z', h.step (r' := resD d _ Z') hm hd⟩
theorem ED.read {w W : World} {d : Nat} {S : DS} {rs : List Res} (h : ED w W d S rs) (x : Int) :
    Calls Tryz.prog 62 #[.pointer (some ⟨d, 0, none⟩), .int .i64 x] W fun e W' => e = .returned (.tuple #[.string (S.read x).1, .int .i64 (S.read x).2]) ∧ ED w W' d S rs ∧ Below W.heap.size W W' := by
  obtain ⟨Z, h⟩ := h
  refine (read_any (h.hd : DkS W d S Z) x).mono ?_
  rintro e W' ⟨rfl, hb⟩
  exact ⟨rfl, ⟨Z, h.new hb⟩, hb⟩
theorem ED.up {w W : World} {d : Nat} {S : DS} {rs : List Res} (h : ED w W d S rs) :
    Calls Tryz.prog 18 #[.pointer (some ⟨d, 0, none⟩)] W fun e W' => e = .returned (.bool S.up) ∧ W' = W := by
  obtain ⟨Z, h⟩ := h
  exact up_any (h.hd : DkS W d S Z)
theorem ED.len {w W : World} {d : Nat} {S : DS} {rs : List Res} (h : ED w W d S rs) :
    Calls Tryz.prog 63 #[.pointer (some ⟨d, 0, none⟩)] W fun e W' => e = .returned (.int .i64 (S.N : Int)) ∧ W' = W := by
  obtain ⟨Z, h⟩ := h
  exact len_any (h.hd : DkS W d S Z)
def SRow (w : World) (v : Value) (l : List ByteArray) : Prop := w.ownsRow 0 9 1 v l.length (l.map Value.string)
def resT (v : Value) (l : List ByteArray) : Res := ⟨v.ownBlock.toList, fun w => SRow w v l, fun _ _ _ h hf hd => own_keep h (fun k hk => hf.block k (World.ownsRow.lt h k hk).2 (hd k (by simpa using hk))), fun _ h x hx => (World.ownsRow.lt h x (by simpa using hx)).2⟩
theorem ED.rows {w W : World} {d : Nat} {S : DS} {rs : List Res} (h : ED w W d S rs) : ED w W d S (resT (.slice none 0 0) [] :: rs) := by
  obtain ⟨Z, h⟩ := h
  exact ⟨Z, (h.add (resT (.slice none 0 0) []) (Below.refl _ _) (World.ownsRow_nil _ _ _ _) (by simp [resT, Value.ownBlock])).swap⟩
theorem ED.row {w W : World} {d : Nat} {S : DS} {rs : List Res} {v : Value} {l : List ByteArray} (h : ED w W d S (resT v l :: rs)) : SRow W v l := by obtain ⟨Z, h⟩ := h; exact h.sd
theorem ED.push {w W W2 : World} {d : Nat} {S : DS} {rs : List Res} {v v' : Value} {l : List ByteArray} {s : ByteArray} {ob : Obj} (h : ED w W d S (resT v l :: rs)) (hown : W2.ownsRow 0 9 1 v' (l.length + 1) (l.map Value.string ++ [.string s])) (hg : (W.alloc ob).grownBy W2 v.ownBlock) (hat : v'.ownBlock = v.ownBlock ∨ v'.ownBlock = some (W.heap.size + 1)) : ED w W2 d S (resT v' (l ++ [s]) :: rs) := by
  obtain ⟨Z, h⟩ := h
  have hr : SRow W v l := h.sd
  have hlt : ∀ k, v.ownBlock = some k → k < W.heap.size := fun k hk => (World.ownsRow.lt hr k hk).2
  refine ⟨Z, (h.swap.step (r' := resT v' (l ++ [s])) ⟨?_, fun x hx => ?_⟩ ?_).swap⟩
  · have h1 : Fr v.ownBlock.toList (W.alloc ob) W2 := Fr.ofGrown hg
    exact ((Fr.refl _ W).alloc ob).tr h1
  · have hx : v'.ownBlock = some x := by simpa [resT] using hx
    rcases hat with c | c
    · left; simpa [resT] using c.symm.trans hx
    · right; rw [c] at hx; cases hx; omega
  · show SRow W2 v' (l ++ [s])
    unfold SRow
    simpa using hown
theorem SRow.cell {w : World} {v : Value} {l : List ByteArray} (h : SRow w v l) {i : Nat} {s : ByteArray} (hi : l[i]? = some s) : ∃ g cap, v = .slice (some ⟨g, 0, none⟩) l.length cap ∧ w.cell? ⟨g, i, none⟩ = some (.string s) ∧ l.length ≤ cap ∧ w.frozen? ⟨g, i, none⟩ = false := by
  have hl : 0 < l.length := by have := (List.getElem?_eq_some_iff.1 hi).1; omega
  obtain ⟨g, cap, hv, _, hc, _⟩ := own_open h hl
  refine ⟨g, cap, hv, own_cell h (by rw [hv]; rfl) (by simp [List.getElem?_map, hi]), hc, own_frozen h (by rw [hv]; rfl) i⟩

end Go.Proofs.YtfnpeiikjiffeaaGreat

/- What the laws of layer 5 share: answers of plain disks. -/
namespace Go.Proofs.YtfnpeiikjiffeaaGreat
open Go.RowKit Go.Maps

theorem synced_read {S : DS} {f : Nat → ByteArray} (hu : S.up = true) (hs : S.since = []) (hb : S.base = f) {k : Nat} (hk : k < S.N) : S.read (k : Int) = (f k, 0) := by
  have : ¬ ((k : Int) < 0 ∨ (S.N : Int) ≤ (k : Int)) := by omega
  simp only [DS.read, hu, Bool.true_eq_false, if_false, this, DS.now, hs, cur_nil, hb, Int.toNat_natCast]
theorem now_read {S : DS} (hu : S.up = true) {k : Nat} (hk : k < S.N) : S.read (k : Int) = (S.now k, 0) := by
  have : ¬ ((k : Int) < 0 ∨ (S.N : Int) ≤ (k : Int)) := by omega
  simp only [DS.read, hu, Bool.true_eq_false, if_false, this, Int.toNat_natCast]
theorem DS.sync_plain {S : DS} (hu : S.up = true) (hc : S.cut = none) : S.sync = (S.settle.did, 0) := by simp [DS.sync, hu, DS.come, hc]
theorem DS.crash_plain {S : DS} (hu : S.up = true) (bits : Int) : S.crash bits = (S.fall bits, 0) := by simp [DS.crash, hu]
theorem DS.start_down {S : DS} (hu : S.up = false) : S.start = ({ S with up := true, cut := none }, 0) := by simp [DS.start, hu]
theorem Tryz.infoStrF : (Tryz.prog.info? 9).map (fun i => (i.zero, i.size, i.bytes)) = some (some (.string ByteArray.empty), 1, 16) := by kernel_rfl
theorem info_str : ∃ i, Tryz.prog.info? 9 = some i ∧ i.zero = some (.string ByteArray.empty) ∧ i.size = 1 ∧ i.bytes = 16 := by
  have h := Tryz.infoStrF
  cases e : Tryz.prog.info? 9 with
  | none => rw [e] at h; cases h
  | some i => rw [e] at h; simp at h; exact ⟨i, rfl, h.1, h.2.1, h.2.2⟩
theorem cell_one5 (w : World) (v : Value) (t : TypeId) : (w.alloc (.cells #[v] t)).cell? ⟨w.heap.size, 0, none⟩ = some v := by simp [go_sem]
theorem cell_one_new5 (w : World) (v : Value) (t : TypeId) : ∀ j u, [v][j]? = some u → (w.alloc (.cells #[v] t)).cell? ((⟨w.heap.size, 0, none⟩ : Addr).add j) = some u := by
  intro j u hj
  cases j with
  | zero => simp at hj; subst hj; simp [go_sem, Addr.add]
  | succ j => simp at hj
theorem own_alloc {w : World} {e : TypeId} {c : Nat} {v : Value} {n : Nat} {xs : List Value} (h : w.ownsRow 0 e c v n xs) (o : Obj) : (w.alloc o).ownsRow 0 e c v n xs :=
  own_keep h (fun k hk => Below.heap_alloc _ _ _ (World.ownsRow.lt h k hk).2)
/-- A text comes behind a row of texts. -/
theorem wpList_push {w0 W : World} {d : Nat} {S : DS} {rs : List Res} {v : Value} {l : List ByteArray} {s : ByteArray} {ops : Array Oper} {rest : List Oper} {o : Oper} {a : Act} {Q : Exit → Act → World → Prop} (hgd : o.guard = none) (p x : Operand)
    (ho : o.op = .call { callee := .builtin .append, args := #[p, x], argTypes := #[71, 71] }) (hs : a.eval p = v) (hx : a.eval x = .slice (some ⟨W.heap.size, 0, none⟩) 1 1) (h : ED w0 W d S (resT v l :: rs)) (hl : l.length ≤ 1000000)
    (hk : ∀ v' w', ED w0 w' d S (resT v' (l ++ [s]) :: rs) → wpList Tryz.prog ops Q rest (a.put o.dst v') w') : wpList Tryz.prog ops Q (o :: rest) a (W.alloc (.cells #[.string s] 9)) := by
  obtain ⟨i0, hi, hz0, hz1, hz2⟩ := info_str
  have hrow := h.row
  refine wpList_append_own_at _ hgd p x 71 ho 0 9 i0 (.string ByteArray.empty) 1 16 Tryz.underlying71 hi hz0 hz1 hz2 rfl (by decide) v l.length (l.map Value.string) hs (own_alloc hrow _) ⟨W.heap.size, 0, none⟩ 1 1 [.string s] hx rfl (cell_one_new5 _ _ _) (by simp [Value.oneCell']) (by unfold maxLen; omega) (by omega) (Nat.zero_le _) ?_
  intro v' w' h1 h2 _ h4
  refine hk v' w' (h.push h1 h2 ?_)
  rcases h4 with c | c
  · exact Or.inl c
  · exact Or.inr (by rw [c]; simp)

end Go.Proofs.YtfnpeiikjiffeaaGreat
