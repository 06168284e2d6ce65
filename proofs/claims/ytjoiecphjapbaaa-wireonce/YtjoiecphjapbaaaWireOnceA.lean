/- WireOnce, its first part: what is taken of bytes, numbers and lists' heads is written with the same bytes. -/
import Derived.Test.YtjoiecphjapbaaaRows
import Derived.Test.YtjoiecphjapbaaaItems
namespace Go.Proofs.Ytjoiecphjapbaaa
open Go.ChangeShapes Go.WideShapes Go.ChangeAt Go.RowKit
open Go.ChangeMaps (open_string shut_string)

/-- What stands in memory while the law goes: the Reader, the Writer, the item. -/
structure On (w wr : World) (s : ByteArray) (k : Nat) (kd n : Int) (tx : ByteArray) : Prop where
  rd : RD wr w.heap.size s k
  pw : WR wr (w.heap.size + 1) (.slice none 0 0) []
  it : wr.heap[w.heap.size + 2]? = some (.cells #[.int .i64 kd, .int .i64 n, .string tx] 32 (0, 0))
  bel : Below w.heap.size w wr
theorem On.fresh (w : World) (s : ByteArray) (kd : Int) : On w (((w.alloc (.cells #[.bool true, .string s, .int .i64 0] 56)).alloc (.cells #[.bool true, .slice none 0 0] 54)).alloc (.cells #[.int .i64 kd, .int .i64 0, .string ⟨#[]⟩] 32)) s 0 kd 0 ⟨#[]⟩ := by
  have H3 := heap3 w (.cells #[.bool true, .string s, .int .i64 0] 56) (.cells #[.bool true, .slice none 0 0] 54) (.cells #[.int .i64 kd, .int .i64 0, .string ⟨#[]⟩] 32)
  exact ⟨H3.1, ⟨H3.2.1, World.ownsRow_nil _ _ _ _⟩, H3.2.2, (((Below.refl _ _).alloc (Nat.le_refl _) _).alloc (by simp) _).alloc (by simp; omega) _⟩
theorem On.read {w wr w' : World} {s : ByteArray} {k j : Nat} {kd n : Int} {tx : ByteArray} (h : On w wr s k kd n tx) (hf : Fr [w.heap.size] wr w') (hr : RD w' w.heap.size s j) : On w w' s j kd n tx := by
  refine ⟨hr, h.pw.keep hf (by simp) (fun k hk => by cases hk), ?_, ?_⟩
  · rw [hf.block _ (lt_of_blk h.it) (by simp)]; exact h.it
  · exact h.bel.trans ⟨hf.os, hf.tape, hf.output, hf.size, fun x hx => hf.block x (by have := h.bel.size; omega) (by simp; omega)⟩
theorem On.cells {w wr : World} {s : ByteArray} {k : Nat} {kd n : Int} {tx : ByteArray} (h : On w wr s k kd n tx) :
    wr.cell? ⟨w.heap.size + 2, 0, none⟩ = some (.int .i64 kd) ∧ wr.cell? ⟨w.heap.size + 2, 1, none⟩ = some (.int .i64 n) ∧ wr.cell? ⟨w.heap.size + 2, 2, none⟩ = some (.string tx) ∧
    wr.frozen? ⟨w.heap.size + 2, 1, none⟩ = false ∧ wr.frozen? ⟨w.heap.size + 2, 2, none⟩ = false := by
  simp [World.cell?, World.frozen?, h.it]
theorem On.setN {w wr : World} {s : ByteArray} {k : Nat} {kd n : Int} {tx : ByteArray} (h : On w wr s k kd n tx) (m : Int) : On w (wr.setCell ⟨w.heap.size + 2, 1, none⟩ (.int .i64 m)) s k kd m tx := by
  have hf : Fr [w.heap.size + 2] wr (wr.setCell ⟨w.heap.size + 2, 1, none⟩ (.int .i64 m)) := (Fr.refl _ _).setCell (Or.inr (by simp)) _
  exact ⟨h.rd.keep hf (by simp), h.pw.keep hf (by simp) (fun k hk => by cases hk), by simp [World.setCell, Array.getElem?_modify, h.it], h.bel.setCell (by simp) _⟩
theorem On.setS {w wr : World} {s : ByteArray} {k : Nat} {kd n : Int} {tx : ByteArray} (h : On w wr s k kd n tx) (t : ByteArray) : On w (wr.setCell ⟨w.heap.size + 2, 2, none⟩ (.string t)) s k kd n t := by
  have hf : Fr [w.heap.size + 2] wr (wr.setCell ⟨w.heap.size + 2, 2, none⟩ (.string t)) := (Fr.refl _ _).setCell (Or.inr (by simp)) _
  exact ⟨h.rd.keep hf (by simp), h.pw.keep hf (by simp) (fun k hk => by cases hk), by simp [World.setCell, Array.getElem?_modify, h.it], h.bel.setCell (by simp) _⟩
/-- Behind the writing of the item: the Reader is where it was, and the Writer has its bytes. -/
theorem On.write {w wr w' : World} {s : ByteArray} {k : Nat} {kd n : Int} {tx : ByteArray} {sv : Value} {bs : List UInt8} (h : On w wr s k kd n tx) (hst : WStep wr w' (w.heap.size + 1) (.slice none 0 0) sv bs) :
    RD w' w.heap.size s k ∧ WR w' (w.heap.size + 1) sv bs ∧ Below w.heap.size w w' := by
  refine ⟨h.rd.keep hst.fr (by simp [Value.ownBlock]), hst.wr, (hst.belowOf h.bel (by omega) (fun x hx => by cases hx) h.bel.size).1⟩

theorem take_first (l : List UInt8) (c : UInt8) (h : l[0]? = some c) : l.take 1 = [c] := by
  cases l with
  | nil => simp at h
  | cons a r => simp at h; simp [h]

theorem once0 (l : List UInt8) (c : UInt8) (h : l[0]? = some c) : itE ⟨0, c.toNat, ⟨#[]⟩⟩ = 0 ∧ itB ⟨0, c.toNat, ⟨#[]⟩⟩ = l.take 1 := by
  have hc := c.toNat_lt
  have hE : itE ⟨0, c.toNat, ⟨#[]⟩⟩ = 0 := by unfold itE; rw [if_pos rfl, if_neg (by simp only; omega)]
  refine ⟨hE, ?_⟩
  rw [itB_ok hE, take_first l c h]
  unfold itR; rw [if_pos rfl]; simp
theorem once1 (l : List UInt8) (n : Int) (j : Nat) (h : tnum l 0 = some (n, j)) : itE ⟨1, n, ⟨#[]⟩⟩ = 0 ∧ itB ⟨1, n, ⟨#[]⟩⟩ = l.take j := by
  have hE : itE ⟨1, n, ⟨#[]⟩⟩ = 0 := by simp [itE]
  refine ⟨hE, ?_⟩
  rw [itB_ok hE]
  have := enc_of_tnum h
  simp at this
  simp [itR, this]
theorem once2 (l : List UInt8) (y : Bool) (j : Nat) (h : tflag l 0 = some (y, j)) : itE ⟨2, if y then 1 else 0, ⟨#[]⟩⟩ = 0 ∧ itB ⟨2, if y then 1 else 0, ⟨#[]⟩⟩ = l.take j := by
  have hE : itE ⟨2, if y then 1 else 0, ⟨#[]⟩⟩ = 0 := by simp [itE]
  refine ⟨hE, ?_⟩
  rw [itB_ok hE]
  unfold tflag at h
  cases hc : l[0]? with
  | none => rw [hc] at h; cases h
  | some c =>
    rw [hc] at h
    simp only at h
    split at h
    · cases h
    · rename_i h1
      simp at h
      rw [← h.2, take_first l c hc, ← h.1]
      have hv : c.toNat = 0 ∨ c.toNat = 1 := by omega
      rcases hv with hv | hv
      · have : c = 0 := UInt8.toNat.inj (by simpa using hv)
        subst this; rfl
      · have : c = 1 := UInt8.toNat.inj (by simpa using hv)
        subst this; rfl
theorem cnt_enc (l : List UInt8) (n : Int) (j : Nat) (h : tcnt l 0 = some (n, j)) : enc n = l.take j ∧ 0 ≤ n ∧ n ≤ 65536 := by
  have hp := tcnt_place h
  unfold tcnt at h
  cases ho : tnum l 0 with
  | none => rw [ho] at h; cases h
  | some p =>
    obtain ⟨m, i⟩ := p
    rw [ho] at h
    simp only at h
    split at h
    · cases h
    · simp at h
      obtain ⟨rfl, rfl⟩ := h
      have := enc_of_tnum ho
      simp at this
      exact ⟨this, hp.2.2.2⟩
theorem once4 (l : List UInt8) (kd n : Int) (j : Nat) (k0 : ¬ kd = 0) (k1 : ¬ kd = 1) (k2 : ¬ kd = 2) (k3 : ¬ kd = 3) (h : tcnt l 0 = some (n, j)) : itE ⟨kd, n, ⟨#[]⟩⟩ = 0 ∧ itB ⟨kd, n, ⟨#[]⟩⟩ = l.take j := by
  obtain ⟨e1, e2, e3⟩ := cnt_enc l n j h
  have hE : itE ⟨kd, n, ⟨#[]⟩⟩ = 0 := by unfold itE; rw [if_neg k0, if_neg k1, if_neg k2, if_neg k3, if_neg (by simp only; omega), if_neg (by simp only; omega)]
  refine ⟨hE, ?_⟩
  rw [itB_ok hE]
  unfold itR; rw [if_neg k0, if_neg k1, if_neg k2, if_neg k3]; exact e1
theorem once3 (l t : List UInt8) (j : Nat) (h : ttext l 0 = some (t, j)) : itE ⟨3, 0, str t⟩ = 0 ∧ itB ⟨3, 0, str t⟩ = l.take j := by
  unfold ttext at h
  cases ho : tcnt l 0 with
  | none => rw [ho] at h; cases h
  | some p =>
    obtain ⟨n, i⟩ := p
    rw [ho] at h
    simp only at h
    split at h
    · cases h
    · rename_i hb
      obtain ⟨e1, e2, e3⟩ := cnt_enc l n i ho
      simp at h
      obtain ⟨rfl, rfl⟩ := h
      have hl : (str ((l.drop i).take n.toNat)).size = n.toNat := by rw [size_str]; simp; omega
      have hE : itE ⟨3, 0, str ((l.drop i).take n.toNat)⟩ = 0 := by unfold itE; simp [hl]; omega
      refine ⟨hE, ?_⟩
      rw [itB_ok hE]
      have hR : itR ⟨3, 0, str ((l.drop i).take n.toNat)⟩ = enc ((str ((l.drop i).take n.toNat)).size : Nat) ++ (str ((l.drop i).take n.toNat)).data.toList := by simp [itR]
      rw [hR, hl, show ((n.toNat : Nat) : Int) = n from by omega, e1, List.take_add]
      rfl

set_option maxRecDepth 100000 in
set_option maxHeartbeats 2000000 in
theorem WireOnce_walk0 (s : ByteArray) (w : World) (hs : s.size ≤ 140737488355328)  :
    Calls Try.prog 6 #[.string s, .int .i64 0] w fun e w' => e = .returned (.bool true) ∧ Below w.heap.size w w' := by
  have N0 := On.fresh w s 0
  have K1 := rByte_any w.heap.size 0 s _ N0.rd hs
  cases ho : (s.data.toList[0]?) with
  | some c =>
    have ho2 : tbyte s.data.toList 0 = some (.int .i64 c.toNat, 0 + 1) := by unfold tbyte; rw [ho]; rfl
    rw [ho2] at K1
    obtain ⟨hE, hB⟩ := once0 s.data.toList c ho
    have HB := hide hB
    have hJ : 1 ≤ s.size := by
      rcases Nat.lt_or_ge 0 s.size with q | q
      · omega
      · exfalso; rw [byte_past s 0 q] at ho; cases ho
    clear hB ho ho2
    have Kw : ∀ (W : World), On w W s 1 0 ((c.toNat : Int)) ⟨#[]⟩ → Calls Try.prog 13 #[.pointer (some ⟨w.heap.size + 1, 0, none⟩), .agg #[.int .i64 0, .int .i64 ((c.toNat : Int)), .string ⟨#[]⟩]] W fun e w' => e = .returned (.int .i64 0) ∧ ∃ sv, WStep W w' (w.heap.size + 1) (.slice none 0 0) sv (s.data.toList.take 1) := by
      intro W hW
      have := write_any (w.heap.size + 1) ⟨0, (c.toNat : Int), ⟨#[]⟩⟩ (.slice none 0 0) [] W (by simp only; omega) (by simp only; have := c.toNat_lt; omega) hW.pw (by simp)
      rw [hE, unhide HB, List.nil_append] at this
      exact this
    have HKw := hide Kw
    have heq : ((str (s.data.toList.take 1)).toList == (s.extract 0 1).toList) = true := by rw [beq_iff_eq, toList_str, extract_upto]
    clear Kw hE
    go_enter Try.func6, Try.ntmps6
    go_wp2_with (first | (go_at_call 16; refine (newReader_any _ _).mono ?_; rintro e w9 ⟨rfl, rfl⟩) | (go_at_call 11; refine (newWriter_any _).mono ?_; rintro e w9 ⟨rfl, rfl⟩))
    refine K1.mono ?_
    rintro e w1 ⟨hf1, rfl, hr1⟩
    have N1 := N0.read hf1 hr1
    clear N0 K1
    obtain ⟨c0, c1, c2, f1, f2⟩ := N1.cells
    have N2 := N1.setN (c.toNat : Int)
    clear N1
    go_wp2_with fail
    refine (unhide HKw _ N2).mono ?_
    rintro e w3 ⟨rfl, sv, hst⟩
    obtain ⟨hr3, hw3, hb3⟩ := N2.write hst
    go_wp2_with fail
    refine (wBytes_any _ _ _ _ hw3).mono ?_
    rintro e w4 ⟨rfl, rfl⟩
    go_wp2_with fail
    refine (at_any _ _ _ _ hr3).mono ?_
    rintro e w4 ⟨rfl, rfl⟩
    go_wp2_with fail
    refine (alive_any _).mono ?_
    rintro e w5 ⟨rfl, hb5⟩
    go_wp2
    go_ret
    exact ⟨rfl, hb3.trans (hb5.mono hb3.size)⟩
  | none =>
    have ho2 : tbyte s.data.toList 0 = none := by unfold tbyte; rw [ho]; rfl
    rw [ho2] at K1
    clear ho ho2
    go_enter Try.func6, Try.ntmps6
    go_wp2_with (first | (go_at_call 16; refine (newReader_any _ _).mono ?_; rintro e w9 ⟨rfl, rfl⟩) | (go_at_call 11; refine (newWriter_any _).mono ?_; rintro e w9 ⟨rfl, rfl⟩))
    refine K1.mono ?_
    rintro e w1 ⟨hf1, rfl, hr1⟩
    have N1 := N0.read hf1 hr1
    clear N0 K1
    obtain ⟨c0, c1, c2, f1, f2⟩ := N1.cells
    have N2 := N1.setN (0)
    clear N1
    go_wp2_with fail
    refine (at_any _ _ _ _ N2.rd).mono ?_
    rintro e w4 ⟨rfl, rfl⟩
    go_wp2_with fail
    refine (alive_any _).mono ?_
    rintro e w5 ⟨rfl, hb5⟩
    go_wp2
    go_ret
    exact ⟨rfl, N2.bel.trans (hb5.mono N2.bel.size)⟩

set_option maxRecDepth 100000 in
set_option maxHeartbeats 2000000 in
theorem WireOnce_walk1 (s : ByteArray) (w : World) (hs : s.size ≤ 140737488355328)  :
    Calls Try.prog 6 #[.string s, .int .i64 1] w fun e w' => e = .returned (.bool true) ∧ Below w.heap.size w w' := by
  have N0 := On.fresh w s 1
  have K1 := rNumber_any w.heap.size 0 s _ N0.rd hs
  cases ho : (tnum s.data.toList 0) with
  | some p =>
    obtain ⟨n, j⟩ := p
    have ho2 : numO (tnum s.data.toList 0) = some (.int .i64 n, j) := by rw [ho]; rfl
    have hfit := tnum_bound ho
    have hpl := tnum_place ho
    rw [ho2] at K1
    obtain ⟨hE, hB⟩ := once1 _ _ _ ho
    have HB := hide hB
    have hJ : j ≤ s.size := by have := hpl; simp at this; omega
    clear hB ho ho2
    have Kw : ∀ (W : World), On w W s j 1 (n) ⟨#[]⟩ → Calls Try.prog 13 #[.pointer (some ⟨w.heap.size + 1, 0, none⟩), .agg #[.int .i64 1, .int .i64 (n), .string ⟨#[]⟩]] W fun e w' => e = .returned (.int .i64 0) ∧ ∃ sv, WStep W w' (w.heap.size + 1) (.slice none 0 0) sv (s.data.toList.take j) := by
      intro W hW
      have := write_any (w.heap.size + 1) ⟨1, n, ⟨#[]⟩⟩ (.slice none 0 0) [] W (by simp only; omega) (by simp only; omega) hW.pw (by simp)
      rw [hE, unhide HB, List.nil_append] at this
      exact this
    have HKw := hide Kw
    have heq : ((str (s.data.toList.take j)).toList == (s.extract 0 j).toList) = true := by rw [beq_iff_eq, toList_str, extract_upto]
    clear Kw hE
    go_enter Try.func6, Try.ntmps6
    go_wp2_with (first | (go_at_call 16; refine (newReader_any _ _).mono ?_; rintro e w9 ⟨rfl, rfl⟩) | (go_at_call 11; refine (newWriter_any _).mono ?_; rintro e w9 ⟨rfl, rfl⟩))
    refine K1.mono ?_
    rintro e w1 ⟨hf1, rfl, hr1⟩
    have N1 := N0.read hf1 hr1
    clear N0 K1
    obtain ⟨c0, c1, c2, f1, f2⟩ := N1.cells
    have N2 := N1.setN (n)
    clear N1
    go_wp2_with fail
    refine (unhide HKw _ N2).mono ?_
    rintro e w3 ⟨rfl, sv, hst⟩
    obtain ⟨hr3, hw3, hb3⟩ := N2.write hst
    go_wp2_with fail
    refine (wBytes_any _ _ _ _ hw3).mono ?_
    rintro e w4 ⟨rfl, rfl⟩
    go_wp2_with fail
    refine (at_any _ _ _ _ hr3).mono ?_
    rintro e w4 ⟨rfl, rfl⟩
    go_wp2_with fail
    refine (alive_any _).mono ?_
    rintro e w5 ⟨rfl, hb5⟩
    go_wp2
    go_ret
    exact ⟨rfl, hb3.trans (hb5.mono hb3.size)⟩
  | none =>
    have ho2 : numO (tnum s.data.toList 0) = none := by rw [ho]; rfl
    rw [ho2] at K1
    clear ho ho2
    go_enter Try.func6, Try.ntmps6
    go_wp2_with (first | (go_at_call 16; refine (newReader_any _ _).mono ?_; rintro e w9 ⟨rfl, rfl⟩) | (go_at_call 11; refine (newWriter_any _).mono ?_; rintro e w9 ⟨rfl, rfl⟩))
    refine K1.mono ?_
    rintro e w1 ⟨hf1, rfl, hr1⟩
    have N1 := N0.read hf1 hr1
    clear N0 K1
    obtain ⟨c0, c1, c2, f1, f2⟩ := N1.cells
    have N2 := N1.setN (0)
    clear N1
    go_wp2_with fail
    refine (at_any _ _ _ _ N2.rd).mono ?_
    rintro e w4 ⟨rfl, rfl⟩
    go_wp2_with fail
    refine (alive_any _).mono ?_
    rintro e w5 ⟨rfl, hb5⟩
    go_wp2
    go_ret
    exact ⟨rfl, N2.bel.trans (hb5.mono N2.bel.size)⟩

set_option maxRecDepth 100000 in
set_option maxHeartbeats 2000000 in
theorem WireOnce_walk4 (s : ByteArray) (w : World) (hs : s.size ≤ 140737488355328) (kd : Int) (k0 : ¬ kd = 0) (k1 : ¬ kd = 1) (k2 : ¬ kd = 2) (k3 : ¬ kd = 3) :
    Calls Try.prog 6 #[.string s, .int .i64 kd] w fun e w' => e = .returned (.bool true) ∧ Below w.heap.size w w' := by
  have t0 : (kd == 0) = false := by simp; omega
  have t1 : (kd == 1) = false := by simp; omega
  have t2 : (kd == 2) = false := by simp; omega
  have t3 : (kd == 3) = false := by simp; omega
  have N0 := On.fresh w s kd
  have K1 := rList_any w.heap.size 0 s _ N0.rd hs
  cases ho : (tcnt s.data.toList 0) with
  | some p =>
    obtain ⟨n, j⟩ := p
    have ho2 : numO (tcnt s.data.toList 0) = some (.int .i64 n, j) := by rw [ho]; rfl
    have hfit := (cnt_enc _ _ _ ho).2
    have hpl := tcnt_place ho
    rw [ho2] at K1
    obtain ⟨hE, hB⟩ := once4 _ kd _ _ k0 k1 k2 k3 ho
    have HB := hide hB
    have hJ : j ≤ s.size := by have := hpl; simp at this; omega
    clear hB ho ho2
    have Kw : ∀ (W : World), On w W s j kd (n) ⟨#[]⟩ → Calls Try.prog 13 #[.pointer (some ⟨w.heap.size + 1, 0, none⟩), .agg #[.int .i64 kd, .int .i64 (n), .string ⟨#[]⟩]] W fun e w' => e = .returned (.int .i64 0) ∧ ∃ sv, WStep W w' (w.heap.size + 1) (.slice none 0 0) sv (s.data.toList.take j) := by
      intro W hW
      have := write_any (w.heap.size + 1) ⟨kd, n, ⟨#[]⟩⟩ (.slice none 0 0) [] W (by simp only; omega) (by simp only; omega) hW.pw (by simp)
      rw [hE, unhide HB, List.nil_append] at this
      exact this
    have HKw := hide Kw
    have heq : ((str (s.data.toList.take j)).toList == (s.extract 0 j).toList) = true := by rw [beq_iff_eq, toList_str, extract_upto]
    clear Kw hE
    go_enter Try.func6, Try.ntmps6
    go_wp2_with (first | (go_at_call 16; refine (newReader_any _ _).mono ?_; rintro e w9 ⟨rfl, rfl⟩) | (go_at_call 11; refine (newWriter_any _).mono ?_; rintro e w9 ⟨rfl, rfl⟩))
    refine K1.mono ?_
    rintro e w1 ⟨hf1, rfl, hr1⟩
    have N1 := N0.read hf1 hr1
    clear N0 K1
    obtain ⟨c0, c1, c2, f1, f2⟩ := N1.cells
    have N2 := N1.setN (n)
    clear N1
    go_wp2_with fail
    refine (unhide HKw _ N2).mono ?_
    rintro e w3 ⟨rfl, sv, hst⟩
    obtain ⟨hr3, hw3, hb3⟩ := N2.write hst
    go_wp2_with fail
    refine (wBytes_any _ _ _ _ hw3).mono ?_
    rintro e w4 ⟨rfl, rfl⟩
    go_wp2_with fail
    refine (at_any _ _ _ _ hr3).mono ?_
    rintro e w4 ⟨rfl, rfl⟩
    go_wp2_with fail
    refine (alive_any _).mono ?_
    rintro e w5 ⟨rfl, hb5⟩
    go_wp2
    go_ret
    exact ⟨rfl, hb3.trans (hb5.mono hb3.size)⟩
  | none =>
    have ho2 : numO (tcnt s.data.toList 0) = none := by rw [ho]; rfl
    rw [ho2] at K1
    clear ho ho2
    go_enter Try.func6, Try.ntmps6
    go_wp2_with (first | (go_at_call 16; refine (newReader_any _ _).mono ?_; rintro e w9 ⟨rfl, rfl⟩) | (go_at_call 11; refine (newWriter_any _).mono ?_; rintro e w9 ⟨rfl, rfl⟩))
    refine K1.mono ?_
    rintro e w1 ⟨hf1, rfl, hr1⟩
    have N1 := N0.read hf1 hr1
    clear N0 K1
    obtain ⟨c0, c1, c2, f1, f2⟩ := N1.cells
    have N2 := N1.setN (0)
    clear N1
    go_wp2_with fail
    refine (at_any _ _ _ _ N2.rd).mono ?_
    rintro e w4 ⟨rfl, rfl⟩
    go_wp2_with fail
    refine (alive_any _).mono ?_
    rintro e w5 ⟨rfl, hb5⟩
    go_wp2
    go_ret
    exact ⟨rfl, N2.bel.trans (hb5.mono N2.bel.size)⟩

theorem once2f (l : List UInt8) (j : Nat) (h : tflag l 0 = some (false, j)) : itE ⟨2, 0, ⟨#[]⟩⟩ = 0 ∧ itB ⟨2, 0, ⟨#[]⟩⟩ = l.take j := by simpa using once2 l false j h
theorem once2t (l : List UInt8) (j : Nat) (h : tflag l 0 = some (true, j)) : itE ⟨2, 1, ⟨#[]⟩⟩ = 0 ∧ itB ⟨2, 1, ⟨#[]⟩⟩ = l.take j := by simpa using once2 l true j h
theorem flag_le {s : ByteArray} {y : Bool} {j : Nat} (h : tflag s.data.toList 0 = some (y, j)) : j ≤ s.size := by
  unfold tflag at h
  rcases Nat.lt_or_ge 0 s.size with q | q
  · rw [byte_at s 0 q] at h
    simp only at h
    split at h
    · cases h
    · simp at h; omega
  · rw [byte_past s 0 q] at h; cases h
theorem text_le {s : ByteArray} {t : List UInt8} {j : Nat} (h : ttext s.data.toList 0 = some (t, j)) : j ≤ s.size := by
  unfold ttext at h
  cases ho : tcnt s.data.toList 0 with
  | none => rw [ho] at h; cases h
  | some p =>
    rw [ho] at h
    simp only at h
    split at h
    · cases h
    · rename_i hb
      simp at h hb
      omega

end Go.Proofs.Ytjoiecphjapbaaa
