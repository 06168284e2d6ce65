/- Disks, plainly: what was synced, what was written since, what a fall leaves. No program is in this text. -/
import Derived.WalkKit
namespace Go.Proofs.Ytimhjheigejjmab

def upd (f : Nat → ByteArray) (k : Nat) (s : ByteArray) : Nat → ByteArray := fun j => if j = k then s else f j
theorem upd_same (f : Nat → ByteArray) (k : Nat) (s : ByteArray) : upd f k s k = s := by simp [upd]
theorem upd_other (f : Nat → ByteArray) {k j : Nat} (s : ByteArray) (h : j ≠ k) : upd f k s j = f j := by simp [upd, h]
def nought : ByteArray := ⟨(List.replicate 64 (0 : UInt8)).toArray⟩
theorem nought_size : nought.size = 64 := by decide
/-- What stands in the sectors behind the writes. -/
def cur (f : Nat → ByteArray) (l : List (Nat × ByteArray)) : Nat → ByteArray := l.foldl (fun f p => upd f p.1 p.2) f
theorem cur_nil (f : Nat → ByteArray) : cur f [] = f := rfl
theorem cur_snoc (f : Nat → ByteArray) (l : List (Nat × ByteArray)) (k : Nat) (s : ByteArray) : cur f (l ++ [(k, s)]) = upd (cur f l) k s := by simp [cur, List.foldl_append]
theorem cur_cons (f : Nat → ByteArray) (p : Nat × ByteArray) (l : List (Nat × ByteArray)) : cur f (p :: l) = cur (upd f p.1 p.2) l := rfl
def torn (b s : ByteArray) (how : Int) : ByteArray := if how = 1 then s else if how = 2 then s.extract 0 32 ++ b.extract 32 64 else if how = 3 then b.extract 0 32 ++ s.extract 32 64 else b
/-- What the bits say of the write number i. -/
def fate (bits : Int) (i : Nat) : Int := Go.bits BinOp.and IntKind.i64 (bits / 2 ^ (2 * (i : Int)).toNat) 3
def fl (bits : Int) : Nat → (Nat → ByteArray) → List (Nat × ByteArray) → Nat → ByteArray
  | _, f, [] => f
  | i, f, p :: l => fl bits (i + 1) (upd f p.1 (torn (f p.1) p.2 (fate bits i))) l
theorem fl_snoc (bits : Int) (l : List (Nat × ByteArray)) (p : Nat × ByteArray) (i : Nat) (f : Nat → ByteArray) : fl bits i f (l ++ [p]) = upd (fl bits i f l) p.1 (torn (fl bits i f l p.1) p.2 (fate bits (i + l.length))) := by
  induction l generalizing i f with
  | nil => simp [fl]
  | cons q l ih => simp only [List.cons_append, fl, ih, List.length_cons]; rw [show i + 1 + l.length = i + (l.length + 1) by omega]
theorem torn_size {b s : ByteArray} (h : Int) (hb : b.size = 64) (hs : s.size = 64) : (torn b s h).size = 64 := by
  unfold torn
  split
  · exact hs
  · split
    · simp [ByteArray.size_append, ByteArray.size_extract, hb, hs]
    · split
      · simp [ByteArray.size_append, ByteArray.size_extract, hb, hs]
      · exact hb
theorem cur_size {f : Nat → ByteArray} {l : List (Nat × ByteArray)} (hf : ∀ k, (f k).size = 64) (hl : ∀ p ∈ l, p.2.size = 64) : ∀ k, (cur f l k).size = 64 := by
  induction l generalizing f with
  | nil => exact hf
  | cons p l ih =>
    rw [cur_cons]
    refine ih (fun k => ?_) (fun q hq => hl q (by simp [hq]))
    unfold upd
    split
    · exact hl p (by simp)
    · exact hf k
theorem fl_size {bits : Int} {l : List (Nat × ByteArray)} {i : Nat} {f : Nat → ByteArray} (hf : ∀ k, (f k).size = 64) (hl : ∀ p ∈ l, p.2.size = 64) : ∀ k, (fl bits i f l k).size = 64 := by
  induction l generalizing f i with
  | nil => exact hf
  | cons p l ih =>
    refine ih (fun k => ?_) (fun q hq => hl q (by simp [hq]))
    unfold upd
    split
    · exact torn_size _ (hf _) (hl p (by simp))
    · exact hf k
/-- Where nothing was written all is as it was. -/
theorem cur_other {f : Nat → ByteArray} {l : List (Nat × ByteArray)} {k : Nat} (h : (l.any fun p => p.1 == k) = false) : cur f l k = f k := by
  induction l generalizing f with
  | nil => rfl
  | cons p l ih =>
    simp only [List.any_cons, Bool.or_eq_false_iff, beq_eq_false_iff_ne] at h
    rw [cur_cons, ih h.2, upd_other _ _ (Ne.symm h.1)]

/-- A disk: how many sectors, what was synced, what was written since, whether it is up, how many writes and syncs were done, the cut. -/
structure DS where
  N : Nat
  base : Nat → ByteArray
  since : List (Nat × ByteArray)
  up : Bool
  cnt : Nat
  cut : Option (Nat × Int)
structure DS.ok (S : DS) : Prop where
  n1 : 1 ≤ S.N
  n2 : S.N ≤ 4096
  sz : ∀ k, (S.base k).size = 64
  ats : ∀ p ∈ S.since, p.1 < S.N ∧ p.2.size = 64
def DS.now (S : DS) : Nat → ByteArray := cur S.base S.since
theorem DS.ok.now {S : DS} (h : S.ok) : ∀ k, (S.now k).size = 64 := cur_size h.sz (fun p hp => (h.ats p hp).2)
def DS.put (S : DS) (k : Nat) (s : ByteArray) : DS := { S with since := S.since ++ [(k, s)] }
def DS.settle (S : DS) : DS := { S with base := S.now, since := [] }
def DS.fall (S : DS) (bits : Int) : DS := { S with base := fl bits 0 S.base (S.since.take 31), since := [], up := false, cut := none }
def DS.did (S : DS) : DS := { S with cnt := S.cnt + 1 }
/-- A write or a sync comes: what is done with it, if it is done. -/
def DS.come (S : DS) (f : DS → DS) : DS × Int :=
  match S.cut with
  | none => ((f S).did, 0)
  | some (0, bits) => (S.fall bits, 6)
  | some (n + 1, bits) => ((f { S with cut := some (n, bits) }).did, 0)
def DS.write (S : DS) (at_ : Int) (s : ByteArray) : DS × Int :=
  if S.up = false then (S, 6) else if at_ < 0 ∨ (S.N : Int) ≤ at_ ∨ s.size ≠ 64 then (S, 1) else S.come (fun S => S.put at_.toNat s)
def DS.sync (S : DS) : DS × Int := if S.up = false then (S, 6) else S.come DS.settle
def DS.read (S : DS) (at_ : Int) : ByteArray × Int := if S.up = false then (ByteArray.empty, 6) else if at_ < 0 ∨ (S.N : Int) ≤ at_ then (ByteArray.empty, 1) else (S.now at_.toNat, 0)
def DS.doCut (S : DS) (n bits : Int) : DS × Int := if S.up = false then (S, 6) else if n < 0 then (S, 1) else ({ S with cut := some (n.toNat, bits) }, 0)
def DS.crash (S : DS) (bits : Int) : DS × Int := if S.up = false then (S, 6) else (S.fall bits, 0)
def DS.start (S : DS) : DS × Int := if S.up = false then ({ S with up := true, cut := none }, 0) else (S, 8)
def DS.new (N : Nat) : DS := ⟨N, fun _ => nought, [], true, 0, none⟩
theorem DS.new_ok {N : Nat} (h1 : 1 ≤ N) (h2 : N ≤ 4096) : (DS.new N).ok := ⟨h1, h2, fun _ => nought_size, by simp [DS.new]⟩
theorem DS.ok.fall {S : DS} (h : S.ok) (bits : Int) : (S.fall bits).ok :=
  ⟨h.n1, h.n2, fl_size h.sz (fun p hp => (h.ats p (List.mem_of_mem_take hp)).2), by simp [DS.fall]⟩
theorem DS.ok.put {S : DS} (h : S.ok) {k : Nat} {s : ByteArray} (hk : k < S.N) (hs : s.size = 64) : (S.put k s).ok :=
  ⟨h.n1, h.n2, h.sz, fun p hp => by
    simp only [DS.put, List.mem_append, List.mem_singleton] at hp
    rcases hp with hp | rfl
    · exact h.ats p hp
    · exact ⟨hk, hs⟩⟩
theorem DS.ok.did {S : DS} (h : S.ok) : S.did.ok := ⟨h.n1, h.n2, h.sz, h.ats⟩
theorem DS.ok.cutTo {S : DS} (h : S.ok) (c : Option (Nat × Int)) : ({ S with cut := c } : DS).ok := ⟨h.n1, h.n2, h.sz, h.ats⟩
theorem DS.ok.settle {S : DS} (h : S.ok) : S.settle.ok := ⟨h.n1, h.n2, h.now, by simp [DS.settle]⟩

/-! Bytes as cells. -/
def blkC (s : ByteArray) : List Value := s.data.toList.map fun b => .int .u8 (b.toNat : Int)
def blkV (s : ByteArray) : Value := .agg (blkC s).toArray
theorem blkC_len (s : ByteArray) : (blkC s).length = s.size := by unfold blkC; rw [List.length_map]; rfl
theorem blkC_one (s : ByteArray) : ∀ v ∈ blkC s, v.oneCell' = true := by
  intro v hv; obtain ⟨b, _, rfl⟩ := List.mem_map.1 hv; rfl
theorem blkC_app (s t : ByteArray) : blkC (s ++ t) = blkC s ++ blkC t := by
  simp [blkC, ByteArray.data_append]
theorem blkC_ext (s : ByteArray) (a b : Nat) : blkC (s.extract a b) = ((blkC s).take b).drop a := by
  simp [blkC, ByteArray.data_extract, Array.toList_extract, List.map_take, List.map_drop, List.drop_take]
theorem blkC_inj {s t : ByteArray} (h : blkC s = blkC t) : s = t := by
  cases s with | mk s => cases t with | mk t =>
  congr 1
  apply Array.ext'
  have : ∀ (a b : List UInt8), a.map (fun b => Value.int .u8 (b.toNat : Int)) = b.map (fun b => Value.int .u8 (b.toNat : Int)) → a = b := by
    intro a
    induction a with
    | nil => intro b h; cases b with | nil => rfl | cons _ _ => simp at h
    | cons x a ih =>
      intro b h
      cases b with
      | nil => simp at h
      | cons y b =>
        simp only [List.map_cons, List.cons.injEq, Value.int.injEq, true_and] at h
        have e : x = y := UInt8.toNat_inj.1 (by omega)
        rw [ih b h.2, e]
  exact this _ _ h
/-- How a block of bytes reads, as an element of a map. -/
def unB : Value → UInt8
  | .int .u8 n => UInt8.ofNat n.toNat
  | _ => 0
def isB : Value → Bool
  | .int .u8 n => decide (0 ≤ n ∧ n ≤ 255)
  | _ => false
def R5 : Value → Option (DataW Unit × List MemPlace)
  | .agg cs => if cs.size = 64 ∧ cs.toList.all isB = true then some (.lit (.string (cs.toList.map unB)), []) else none
  | _ => none
theorem isB_of {v : Value} (h : isB v = true) : v = .int .u8 ((unB v).toNat : Int) := by
  match v, h with
  | .int .u8 n, h =>
    simp only [isB, decide_eq_true_eq] at h
    simp only [unB]
    congr 1
    have : (UInt8.ofNat n.toNat).toNat = n.toNat := by rw [UInt8.toNat_ofNat']; omega
    rw [this]; omega
theorem unB_of (b : UInt8) : unB (.int .u8 (b.toNat : Int)) = b := by simp [unB]
theorem isB_mk (b : UInt8) : isB (.int .u8 (b.toNat : Int)) = true := by
  have := b.toNat_lt
  simp only [isB, decide_eq_true_eq]; omega
theorem R5_mk {s : ByteArray} (h : s.size = 64) : R5 (blkV s) = some (.lit (.string s.data.toList), []) := by
  have h1 : (blkC s).toArray.size = 64 := by simp [blkC_len, h]
  have h2 : (blkC s).all isB = true := by
    rw [List.all_eq_true]; intro v hv; obtain ⟨b, _, rfl⟩ := List.mem_map.1 hv; exact isB_mk b
  have h3 : (blkC s).map unB = s.data.toList := by
    unfold blkC
    rw [List.map_map]
    conv => rhs; rw [← List.map_id s.data.toList]
    exact List.map_congr_left (fun b _ => unB_of b)
  simp [blkV, R5, blkC_len, h, h2, h3]
theorem R5_inv {v : Value} {z : DataW Unit × List MemPlace} (h : R5 v = some z) : ∃ s : ByteArray, s.size = 64 ∧ v = blkV s ∧ z = (.lit (.string s.data.toList), []) := by
  match v, h with
  | .agg cs, h =>
    simp only [R5] at h
    split at h
    · rename_i hc
      obtain ⟨h1, h2⟩ := hc
      cases h
      refine ⟨⟨(cs.toList.map unB).toArray⟩, by simp [ByteArray.size, h1], ?_, by simp⟩
      unfold blkV blkC
      congr 1
      apply Array.ext'
      simp only [List.map_map]
      conv => lhs; rw [← List.map_id cs.toList]
      refine List.map_congr_left (fun v hv => ?_)
      exact isB_of (List.all_eq_true.1 h2 v hv)
    · cases h

end Go.Proofs.Ytimhjheigejjmab
