/- Texts joined: PaD PaE PaS NTmAcW NTmAcX PcS NTmRL NTmLs. -/
import Derived.Test.YtpcpcgagiapinaaGreatDoorZ18
import Derived.Test.YtpcpcgagiapinaaGreatDoorZ17
/- The contracts of AllOrNone of a pair and of path.Node; what path.Secrets and path.Node refuse. -/
namespace Go.Proofs.YtpcpcgagiapinaaGreatDoor.Tn.Pa
open Go.RowKit Go.Maps
set_option maxRecDepth 100000 in
set_option maxHeartbeats 4000000 in
theorem aon2 {b : Nat} {sv : Value} {mb : Nat} {L L' : List Tm} {x y : Nat} {w : World} (h : St w b sv mb L) (m : Int) (hm : 0 ≤ m) (hl : (L.length : Int) + m ≤ 1048575) (p1 : Nat)
    (K : ∀ W, Below w.heap.size w W → Calls Tryz.prog 41 #[.func (.func 22) #[.pointer (some ⟨b, 0, none⟩)] #[], .pointer (some ⟨p1, 0, none⟩)] W fun e w' => e = .returned (.tuple #[.agg #[.int .i64 (x : Int), .int .i64 (y : Int)], .int .i64 0]) ∧ ∃ sv', SStep W w' b sv sv' mb L') :
    Calls Tryz.prog 40 #[.pointer (some ⟨b, 0, none⟩), .int .i64 m, .func (.func 41) #[] #[.pointer (some ⟨p1, 0, none⟩)]] w fun e w' => e = .returned (.tuple #[.agg #[.int .i64 (x : Int), .int .i64 (y : Int)], .int .i64 0]) ∧ ∃ sv', SStep w w' b sv sv' mb L' := by
  obtain ⟨w0, hw0⟩ : ∃ w0, w0 = w.alloc (.cells #[.int .i64 0, .int .i64 0] 91) := ⟨_, rfl⟩
  have x0 : Below w.heap.size w w0 := by rw [hw0]; exact bwA' _ _
  have r0 : w0.heap[w.heap.size]? = some (.cells #[.int .i64 0, .int .i64 0] 91 (0, 0)) := by rw [hw0]; exact heap_alloc_new _ _
  have HW := hide hw0
  have S0 : Hid (SStep w w0 b sv sv mb L) := SStep.same h x0
  have KL := hide (len_any b sv mb L w0 (unhide S0).st)
  have KF := hide (K w0 x0)
  obtain ⟨N, hN⟩ : ∃ N : Int, N = (L.length : Int) := ⟨_, rfl⟩
  rw [← hN] at KL
  obtain ⟨R, hR⟩ : ∃ R : Int, R = 1048576 - N := ⟨_, rfl⟩
  have q0 : (1048576 : Int) - N = R := hR.symm
  have q1 : IntKind.i64.wrap R = R := by rw [IntKind.wrap_i64]; omega
  have q2 : 0 < R := by omega
  have q3 : decide (R < m) = false := decide_eq_false (by omega)
  have q4 : m ≤ R := by omega
  clear h hl hw0 x0 hN hR K hm
  go_enter Tryz.func40, Tryz.ntmps40
  go_wp2_with fail
  rw [← unhide HW]
  refine (unhide KL).mono ?_
  rintro e w0 ⟨rfl, rfl⟩
  clear KL HW
  go_wp2_with fail
  refine (unhide KF).mono ?_
  rintro e w4 ⟨rfl, sv4, s4⟩
  have S4 := hide ((unhide S0).trans s4)
  have r4 := kept_fr r0 (unhide S0).st s4.fr (by decide) (by decide)
  have HT := hide (two_put (unhide S4) r4 (by decide) (by decide) (Nat.le_refl _) (.int .i64 (x : Int)) (.int .i64 (y : Int)))
  have h0 : w4.cell? ⟨w.heap.size, 0, none⟩ = some (.int .i64 0) := blk_cell r4 rfl
  have h1 : w4.cell? ⟨w.heap.size, 1, none⟩ = some (.int .i64 0) := blk_cell r4 rfl
  have hf := fun j => blk_froz (i := j) r4
  clear s4 KF q0 q1 q2 q3 q4 r0 r4 S0 S4
  go_wp2_with fail
  obtain ⟨T2, rb2⟩ := unhide HT
  generalize (w4.setCell ⟨w.heap.size, 0, none⟩ (.int .i64 (x : Int))).setCell ⟨w.heap.size, 1, none⟩ (.int .i64 (y : Int)) = V at T2 rb2 ⊢
  have g0 := blk_cell (i := 0) rb2 rfl
  have g1 := blk_cell (i := 1) rb2 rfl
  have HT2 := hide T2
  clear T2 rb2 HT h0 h1 hf
  exact bodyPost_ret (v := .tuple #[.agg #[.int .i64 (x : Int), .int .i64 (y : Int)], .int .i64 0]) (by simp [results, Tryz.results40, go_sem, g0, g1]) rfl ⟨rfl, sv4, unhide HT2⟩
set_option maxRecDepth 100000 in
set_option maxHeartbeats 4000000 in
theorem pNode_ok {b : Nat} {sv : Value} {mb : Nat} {w : World} (p : List Tm × Nat) (h : St w b sv mb p.1) (hg : Gd p) (hl : p.1.length + 100 ≤ 1048575) :
    Calls Tryz.prog 10 #[.pointer (some ⟨b, 0, none⟩), .int .i64 (p.2 : Nat)] w fun e w' => e = .returned (.tuple #[.int .i64 ((key p).2 : Nat), .int .i64 ((pub p).2 : Nat), .int .i64 0]) ∧ ∃ sv', SStep w w' b sv sv' mb (pub p).1 := by
  obtain ⟨w0, hw0⟩ : ∃ w0, w0 = w.alloc (.cells #[.int .i64 (p.2 : Nat)] 3) := ⟨_, rfl⟩
  have x0 : Below w.heap.size w w0 := by rw [hw0]; exact bwA' _ _
  have y0 : w0.heap[w.heap.size]? = some (.cells #[.int .i64 (p.2 : Nat)] 3 (0, 0)) := by rw [hw0]; exact heap_alloc_new _ _
  have HW := hide hw0
  have S0 : Hid (SStep w w0 b sv sv mb p.1) := SStep.same h x0
  have KMi := hide (hmissing_any (unhide S0).st)
  have KH := hide (hhas_any (unhide S0).st (p.2 : Nat))
  rw [hg.thr] at KH
  have KA : Hid (∀ W, Below w0.heap.size w0 W → Calls Tryz.prog 40 #[.pointer (some ⟨b, 0, none⟩), .int .i64 64, .func (.func 41) #[] #[.pointer (some ⟨w.heap.size, 0, none⟩)]] W fun e w' => e = .returned (.tuple #[.agg #[.int .i64 ((key p).2 : Nat), .int .i64 ((pub p).2 : Nat)], .int .i64 0]) ∧ ∃ sv', SStep w w' b sv sv' mb (pub p).1) := fun W hW => by
    have hst := (unhide S0).after hW
    refine (aon2 (L := p.1) hst.st 64 (by omega) (by omega) _ (fun W2 hW2 => nod1_any p (hst.after hW2).st hg (by omega) _ (kept_blk (kept_blk y0 hW) hW2))).mono ?_
    rintro e w' ⟨h1, sv', h2⟩
    exact ⟨h1, sv', hst.trans h2⟩
  have z0 : w0.cell? ⟨w.heap.size, 0, none⟩ = some (.int .i64 (p.2 : Nat)) := blk_cell y0 rfl
  clear h hg hl hw0 y0 S0 x0
  generalize (key p).2 = k1 at *
  generalize (pub p).1 = L2 at *
  generalize (pub p).2 = k2 at *
  generalize p.2 = x at *
  generalize p.1 = L0 at *
  go_enter Tryz.func10, Tryz.ntmps10
  go_upto_region 1 with fail
  rw [← unhide HW]
  clear HW
  go_wp2_with fail
  refine (unhide KMi).mono ?_
  rintro e w1 ⟨rfl, rfl⟩
  clear KMi
  go_wp2_with fail
  refine (unhide KH).mono ?_
  rintro e w2 ⟨rfl, b2⟩
  have K2 := hide (unhide KA _ b2)
  clear KH KA b2 z0
  go_wp2_with fail
  refine (unhide K2).mono ?_
  rintro e w4 ⟨rfl, sv4, s4⟩
  obtain ⟨W5, hW5⟩ : ∃ W5, W5 = w4.alloc (.cells #[.int .i64 (k1 : Nat), .int .i64 (k2 : Nat)] 91) := ⟨_, rfl⟩
  have T5 : SStep w W5 b sv sv4 mb L2 ∧ W5.heap[w4.heap.size]? = some (.cells #[.int .i64 (k1 : Nat), .int .i64 (k2 : Nat)] 91 (0, 0)) := by rw [hW5]; exact ⟨s4.after (bwA' _ _), heap_alloc_new _ _⟩
  have HS5 : Hid (SStep w W5.drew b sv sv4 mb L2) := T5.1.after (Below.refl _ _).drew
  have g0 : W5.cell? ⟨w4.heap.size, 0, none⟩ = some (.int .i64 (k1 : Nat)) := blk_cell T5.2 rfl
  have g1 : W5.cell? ⟨w4.heap.size, 1, none⟩ = some (.int .i64 (k2 : Nat)) := blk_cell T5.2 rfl
  have g2 : W5.drew.cell? ⟨w4.heap.size, 0, none⟩ = some (.int .i64 (k1 : Nat)) := g0
  have g3 : W5.drew.cell? ⟨w4.heap.size, 1, none⟩ = some (.int .i64 (k2 : Nat)) := g1
  have HW5 := hide hW5
  clear s4 K2 T5 hW5
  go_upto_region 6 with fail
  rw [← unhide HW5]
  clear HW5
  go_region
  all_goals
    go_wp2
    exact bodyPost_ret (v := .tuple #[.int .i64 (k1 : Int), .int .i64 (k2 : Int), .int .i64 0]) (by simp [results, Tryz.results10, go_sem]) rfl ⟨rfl, sv4, unhide HS5⟩
end Go.Proofs.YtpcpcgagiapinaaGreatDoor.Tn.Pa

/- What path.Secrets and path.Node refuse. -/
namespace Go.Proofs.YtpcpcgagiapinaaGreatDoor.Tn.Pa
open Go.RowKit Go.Maps
set_option maxRecDepth 100000 in
set_option maxHeartbeats 4000000 in
theorem pSecrets_err {b : Nat} {sv : Value} {mb : Nat} {L : List Tm} {w : World} (h : St w b sv mb L) (x n : Int) (hx : (decide (0 ≤ n) && decide (n ≤ 16) && thr L.length x) = false) :
    Calls Tryz.prog 8 #[.pointer (some ⟨b, 0, none⟩), .int .i64 x, .int .i64 n] w fun e w' => e = .returned (.tuple #[.slice none 0 0, .int .i64 1]) ∧ Below w.heap.size w w' := by
  obtain ⟨w0, hw0⟩ : ∃ w0, w0 = (w.alloc (.cells #[.int .i64 x] 3)).alloc (.cells #[.int .i64 n] 3) := ⟨_, rfl⟩
  obtain ⟨y0, y1, x0⟩ := blk2c w (.cells #[.int .i64 x] 3) (.cells #[.int .i64 n] 3)
  rw [← hw0] at y0 y1 x0
  have HW := hide hw0
  have S0 := hide (h.bw x0)
  have KMi := hide (hmissing_any (unhide S0))
  have KH := hide (hhas_any (unhide S0) x)
  generalize thr L.length x = tt at *
  have z0 : w0.cell? ⟨w.heap.size, 0, none⟩ = some (.int .i64 x) := blk_cell y0 rfl
  have z1 : w0.cell? ⟨w.heap.size + 1, 0, none⟩ = some (.int .i64 n) := blk_cell y1 rfl
  have HX := hide x0
  clear h hw0 y0 y1 S0 x0
  have fin : (n < 0 ∨ ¬ n < 0 ∧ 16 < n ∨ ¬ n < 0 ∧ ¬ 16 < n ∧ tt = false) := by
    by_cases c1 : n < 0
    · exact Or.inl c1
    · by_cases c2 : 16 < n
      · exact Or.inr (Or.inl ⟨c1, c2⟩)
      · refine Or.inr (Or.inr ⟨c1, c2, ?_⟩)
        rw [decide_eq_true (show (0 : Int) ≤ n by omega), decide_eq_true (show n ≤ 16 by omega)] at hx
        simpa using hx
  clear hx
  rcases fin with c1 | ⟨c1, c2⟩ | ⟨c1, c2, rfl⟩
  all_goals
    first
    | have d1 : decide (n < 0) = true := decide_eq_true c1
    | have d1 : decide (n < 0) = false := decide_eq_false c1
    try first
    | have d2 : decide (16 < n) = true := decide_eq_true c2
    | have d2 : decide (16 < n) = false := decide_eq_false c2
    go_enter Tryz.func8, Tryz.ntmps8
    go_upto_region 1 with fail
    rw [← unhide HW]
    clear HW
    go_wp2_with fail
    refine (unhide KMi).mono ?_
    rintro e w1 ⟨rfl, rfl⟩
    clear KMi
    go_wp2_with fail
    first
    | (refine (unhide KH).mono ?_
       rintro e w2 ⟨rfl, b2⟩
       have B2 := hide (bw_tr (unhide HX) b2)
       clear KH b2 z0 z1
       go_wp2
       go_ret2
       exact ⟨rfl, unhide B2⟩)
    | (go_ret2
       exact ⟨rfl, unhide HX⟩)
set_option maxRecDepth 100000 in
set_option maxHeartbeats 4000000 in
theorem pNode_err {b : Nat} {sv : Value} {mb : Nat} {L : List Tm} {w : World} (h : St w b sv mb L) (x : Int) (hx : thr L.length x = false) :
    Calls Tryz.prog 10 #[.pointer (some ⟨b, 0, none⟩), .int .i64 x] w fun e w' => e = .returned (.tuple #[.int .i64 0, .int .i64 0, .int .i64 1]) ∧ Below w.heap.size w w' := by
  obtain ⟨w0, hw0⟩ : ∃ w0, w0 = w.alloc (.cells #[.int .i64 x] 3) := ⟨_, rfl⟩
  have x0 : Below w.heap.size w w0 := by rw [hw0]; exact bwA' _ _
  have z0 : w0.cell? ⟨w.heap.size, 0, none⟩ = some (.int .i64 x) := by rw [hw0]; exact blk_cell (heap_alloc_new _ _) rfl
  have HW := hide hw0
  have S0 := hide (h.bw x0)
  have KMi := hide (hmissing_any (unhide S0))
  have KH := hide (hhas_any (unhide S0) x)
  rw [hx] at KH
  have HX := hide x0
  clear h hw0 S0 x0 hx
  go_enter Tryz.func10, Tryz.ntmps10
  go_upto_region 1 with fail
  rw [← unhide HW]
  clear HW
  go_wp2_with fail
  refine (unhide KMi).mono ?_
  rintro e w1 ⟨rfl, rfl⟩
  clear KMi
  go_wp2_with fail
  refine (unhide KH).mono ?_
  rintro e w2 ⟨rfl, b2⟩
  have B2 := hide (bw_tr (unhide HX) b2)
  clear KH b2 z0
  go_wp2
  exact bodyPost_ret (v := .tuple #[.int .i64 0, .int .i64 0, .int .i64 1]) (by simp [results, Tryz.results10, go_sem]) rfl ⟨rfl, unhide B2⟩
end Go.Proofs.YtpcpcgagiapinaaGreatDoor.Tn.Pa

/- What the document's Secrets and Node refuse; path.Secrets without a store. -/
namespace Go.Proofs.YtpcpcgagiapinaaGreatDoor.Tn.Pa
open Go.RowKit Go.Maps
set_option maxRecDepth 100000 in
set_option maxHeartbeats 4000000 in
theorem qSecrets_err {b : Nat} {sv : Value} {L : List Tm} {w : World} (h : Rs w b sv L) (x n : Int) (hx : (decide (0 ≤ n) && decide (n ≤ 16) && thr L.length x) = false) :
    Calls Tryz.prog 9 #[.pointer (some ⟨b, 0, none⟩), .int .i64 x, .int .i64 n] w fun e w' => e = .returned (.tuple #[.slice none 0 0, .int .i64 1]) ∧ Below w.heap.size w w' := by
  have KI := hide (ris h x)
  generalize thr L.length x = tt at *
  clear h
  have fin : (n < 0 ∨ ¬ n < 0 ∧ 16 < n ∨ ¬ n < 0 ∧ ¬ 16 < n ∧ tt = false) := by
    by_cases c1 : n < 0
    · exact Or.inl c1
    · by_cases c2 : 16 < n
      · exact Or.inr (Or.inl ⟨c1, c2⟩)
      · refine Or.inr (Or.inr ⟨c1, c2, ?_⟩)
        rw [decide_eq_true (show (0 : Int) ≤ n by omega), decide_eq_true (show n ≤ 16 by omega)] at hx
        simpa using hx
  clear hx
  rcases fin with c1 | ⟨c1, c2⟩ | ⟨c1, c2, rfl⟩
  all_goals
    first
    | have d1 : decide (n < 0) = true := decide_eq_true c1
    | have d1 : decide (n < 0) = false := decide_eq_false c1
    try first
    | have d2 : decide (16 < n) = true := decide_eq_true c2
    | have d2 : decide (16 < n) = false := decide_eq_false c2
    go_enter Tryz.func9, Tryz.ntmps9
    go_wp2_with fail
    first
    | (refine (unhide KI).mono ?_
       rintro e w2 ⟨rfl, b2⟩
       have B2 := hide b2
       clear KI b2
       go_wp2
       go_ret2
       exact ⟨rfl, unhide B2⟩)
    | (go_ret2
       exact ⟨rfl, Below.refl _ _⟩)
set_option maxRecDepth 100000 in
set_option maxHeartbeats 4000000 in
theorem qNode_err {b : Nat} {sv : Value} {L : List Tm} {w : World} (h : Rs w b sv L) (x : Int) (hx : thr L.length x = false) :
    Calls Tryz.prog 11 #[.pointer (some ⟨b, 0, none⟩), .int .i64 x] w fun e w' => e = .returned (.tuple #[.int .i64 0, .int .i64 0, .int .i64 1]) ∧ Below w.heap.size w w' := by
  have KI := hide (ris h x)
  rw [hx] at KI
  clear h hx
  go_enter Tryz.func11, Tryz.ntmps11
  go_wp2_with fail
  refine (unhide KI).mono ?_
  rintro e w2 ⟨rfl, b2⟩
  have B2 := hide b2
  clear KI b2
  go_wp2
  exact bodyPost_ret (v := .tuple #[.int .i64 0, .int .i64 0, .int .i64 1]) (by simp [results, Tryz.results11, go_sem]) rfl ⟨rfl, unhide B2⟩
set_option maxRecDepth 100000 in
set_option maxHeartbeats 4000000 in
theorem pSecrets_nil (x n : Int) (w : World) : Calls Tryz.prog 8 #[.pointer none, .int .i64 x, .int .i64 n] w fun e w' => e = .returned (.tuple #[.slice none 0 0, .int .i64 2]) ∧ Below w.heap.size w w' := by
  obtain ⟨w0, hw0⟩ : ∃ w0, w0 = (w.alloc (.cells #[.int .i64 x] 3)).alloc (.cells #[.int .i64 n] 3) := ⟨_, rfl⟩
  obtain ⟨-, -, x0⟩ := blk2c w (.cells #[.int .i64 x] 3) (.cells #[.int .i64 n] 3)
  rw [← hw0] at x0
  have HW := hide hw0
  have HX := hide x0
  have K := hide (hmissing_nil w0)
  clear x0 hw0
  go_enter Tryz.func8, Tryz.ntmps8
  go_upto_region 1 with fail
  rw [← unhide HW]
  clear HW
  go_wp2_with fail
  refine (unhide K).mono ?_
  rintro e w1 ⟨rfl, rfl⟩
  go_wp2
  go_ret2
  exact ⟨rfl, unhide HX⟩
end Go.Proofs.YtpcpcgagiapinaaGreatDoor.Tn.Pa

/- The contract of Across. -/
namespace Go.Proofs.YtpcpcgagiapinaaGreatDoor.Tn
open Go.RowKit Go.Maps
theorem mapT_ok {ph : List Nat} {t : Tm} (h : t.ok) (hb : ∀ i, ph.getD i 0 ≤ 1048576) : (mapT ph t).ok :=
  ⟨h.k1, h.k2, h.n1, h.n2, by have := hb t.a.toNat; simp only [mapT]; omega, by have := hb t.a.toNat; simp only [mapT]; omega, by have := hb t.b.toNat; simp only [mapT]; omega, by have := hb t.b.toNat; simp only [mapT]; omega⟩
theorem Acr.bound {L : List Tm} {i : Nat} {R : List Tm} {ph : List Nat} (h : Acr L i R ph) (k : Nat) : ph.getD k 0 ≤ 1048576 := by
  have hl := h.good.len
  have hlen := h.len
  by_cases c : k < ph.length
  · by_cases c0 : k = 0
    · subst c0; rw [h.zero]; omega
    · have := h.rng k (by omega) (by omega); omega
  · simp [List.getD, List.getElem?_eq_none (Nat.le_of_not_lt c)]
end Go.Proofs.YtpcpcgagiapinaaGreatDoor.Tn

/- The contract of Across, with what it leaves alone. -/
namespace Go.Proofs.YtpcpcgagiapinaaGreatDoor.Tn
open Go.RowKit Go.Maps
structure Ex (w0 wr : World) (rb : Nat) (rv rv' : Value) (mp : Nat) (lv : Value) : Prop where
  fr : Fr (rfoot rb rv) w0 wr
  place : ∀ k, rv'.ownBlock = some k → rv.ownBlock = some k ∨ w0.heap.size ≤ k
  mlow : w0.heap.size ≤ mp
  llow : ∀ k, lv.ownBlock = some k → w0.heap.size ≤ k
theorem Ex.new {w0 wr w' : World} {rb : Nat} {rv rv' : Value} {mp : Nat} {lv : Value} (h : Ex w0 wr rb rv rv' mp lv) (hb : Below wr.heap.size wr w') : Ex w0 w' rb rv rv' mp lv := ⟨h.fr.below hb, h.place, h.mlow, h.llow⟩
theorem Ex.stepR {w0 wr w' : World} {rb : Nat} {rv rv' rv2 : Value} {mp : Nat} {lv : Value} {R : List Tm} (h : Ex w0 wr rb rv rv' mp lv) (s : RStep wr w' rb rv' rv2 R) : Ex w0 w' rb rv rv2 mp lv := by
  refine ⟨h.fr.trans s.fr (fun _ _ c => c) (fun x hx c => ?_), fun x hx => ?_, h.mlow, h.llow⟩
  · rcases mem_rfoot.1 c with c | c
    · exact mem_rfoot.2 (Or.inl c)
    · rcases h.place x c with c | c
      · exact mem_rfoot.2 (Or.inr c)
      · omega
  · rcases s.place x hx with c | c
    · exact h.place x c
    · exact Or.inr (Nat.le_trans h.fr.size c)
theorem Ex.push {w0 w1 w2 : World} {rb : Nat} {rv rv' : Value} {mp : Nat} {lv v' : Value} {ob : Obj} (h : Ex w0 w1 rb rv rv' mp lv) (hg : (w1.alloc ob).grownBy w2 lv.ownBlock) (hat : v'.ownBlock = lv.ownBlock ∨ v'.ownBlock = some (w1.alloc ob).heap.size) : Ex w0 (w2.setCell ⟨mp, 0, none⟩ v') rb rv rv' mp v' := by
  have f1 : Fr (rfoot rb rv) w0 w2 := (h.fr.alloc ob).trans (Fr.ofGrown hg) (fun _ _ c => c) (fun x hx c => by have := h.llow x (by simpa using c); omega)
  refine ⟨f1.setCell (Or.inl h.mlow) _, h.place, h.mlow, fun k hk => ?_⟩
  rcases hat with c | c
  · exact h.llow k (by rw [← c]; exact hk)
  · rw [c] at hk; have := h.fr.size; simp at hk; omega
theorem Ex.start (wr : World) (rb : Nat) (rv : Value) : Ex wr ((wr.alloc (.cells #[.int .i64 0] 3)).alloc (.cells #[.slice (some ⟨wr.heap.size, 0, none⟩) 1 1] 98)) rb rv rv (wr.heap.size + 1) (.slice (some ⟨wr.heap.size, 0, none⟩) 1 1) :=
  ⟨((Fr.refl _ _).alloc _).alloc _, fun _ h => Or.inl h, by omega, fun k hk => by simp [Value.ownBlock] at hk; omega⟩
set_option maxRecDepth 100000 in
set_option maxHeartbeats 8000000 in
theorem acrossx_any (w wr : World) (b : Nat) (sv : Value) (mb rb : Nat) (rv : Value) (L R : List Tm) (h : Two w wr b sv mb rb rv L R) (hL : L.length ≤ 3000) (hR : R.length ≤ 3000) :
    Calls Tryz.prog 12 #[.pointer (some ⟨b, 0, none⟩), .pointer (some ⟨rb, 0, none⟩)] wr fun e w' => ∃ mp lv rv' R' ph, e = .returned (.tuple #[.pointer (some ⟨mp, 0, none⟩), .bool true]) ∧ Ac w w' b sv mb rb rv' L R' mp lv ph ∧ Acr L L.length R' ph ∧ (∃ x, R' = R ++ x) ∧ Fr (rfoot rb rv) wr w' := by
  have S0 := Ac.start h
  have X0 := Ex.start wr rb rv
  obtain ⟨wr0, hwr0⟩ : ∃ wr0, wr0 = wr := ⟨_, rfl⟩
  have hG := h.st.good
  have A0 := acr_start h.rs.good L
  obtain ⟨j0, hj, hy0, hy1, hy2⟩ := info_parts Tryz.infoInt
  obtain ⟨N, hN⟩ : ∃ N, N = L.length := ⟨_, rfl⟩
  have hNb : (N : Int) ≤ 3000 := by omega
  have KL : ∀ W rv' R' mp lv ph, Ac w W b sv mb rb rv' L R' mp lv ph → Calls Tryz.prog 44 #[.pointer (some ⟨b, 0, none⟩)] W fun e w' => e = .returned (.int .i64 (N : Int)) ∧ w' = W := fun W rv' R' mp lv ph hA => by
    rw [hN]; exact len_any b sv mb L W hA.two.st
  have HH := hide (And.intro hN (And.intro hG (And.intro hR (And.intro S0 (And.intro A0 X0)))))
  have HKL := hide KL
  have KL0 := KL _ _ _ _ _ _ S0
  have HW := hide hwr0
  clear hG hN h hL hR S0 A0 KL X0 hwr0
  go_enter Tryz.func12, Tryz.ntmps12
  go_wp2_with fail
  refine KL0.mono ?_
  rintro e w1 ⟨rfl, rfl⟩
  have HS : Hid (Ac w ((wr.alloc (.cells #[.int .i64 0] 3)).alloc (.cells #[.slice (some ⟨wr.heap.size, 0, none⟩) 1 1] 98)) b sv mb rb rv L R (wr.heap.size + 1) (.slice (some ⟨wr.heap.size, 0, none⟩) 1 1) [0] ∧ Acr L 0 R [0] ∧ R.length ≤ 3000 + 0 ∧ (∃ x, R = R ++ x) ∧ Ex wr ((wr.alloc (.cells #[.int .i64 0] 3)).alloc (.cells #[.slice (some ⟨wr.heap.size, 0, none⟩) 1 1] 98)) rb rv rv (wr.heap.size + 1) (.slice (some ⟨wr.heap.size, 0, none⟩) 1 1)) := ⟨(unhide HH).2.2.2.1, (unhide HH).2.2.2.2.1, (unhide HH).2.2.1, ⟨[], by simp⟩, (unhide HH).2.2.2.2.2⟩
  clear KL0
  obtain ⟨mp, hmp⟩ : ∃ mp, mp = wr.heap.size + 1 := ⟨_, rfl⟩
  rw [← hmp] at HS ⊢
  have HS' : Hid (Ac w ((wr.alloc (.cells #[.int .i64 0] 3)).alloc (.cells #[.slice (some ⟨wr.heap.size, 0, none⟩) 1 1] 98)) b sv mb rb rv L R mp (.slice (some ⟨wr.heap.size, 0, none⟩) 1 1) [0] ∧ Acr L 0 R [0] ∧ R.length ≤ 3000 + 0 ∧ (∃ x, R = R ++ x) ∧ Ex wr0 ((wr.alloc (.cells #[.int .i64 0] 3)).alloc (.cells #[.slice (some ⟨wr.heap.size, 0, none⟩) 1 1] 98)) rb rv rv mp (.slice (some ⟨wr.heap.size, 0, none⟩) 1 1)) := by rw [unhide HW]; exact HS
  clear hmp HS
  go_wp2_with fail
  go_loopw [7] (fun iv wq => ∃ (i : Nat) (rv' lv : Value) (R' : List Tm) (ph : List Nat), i ≤ N ∧ iv = .int .i64 ((i : Int) + 1) ∧ Hid (Ac w wq b sv mb rb rv' L R' mp lv ph ∧ Acr L i R' ph ∧ R'.length ≤ 3000 + i ∧ (∃ x, R' = R ++ x) ∧ Ex wr0 wq rb rv rv' mp lv)) (fun iv _ => (N + 1 - intOf iv).toNat)
  case atStart => exact ⟨0, rv, _, R, [0], by omega, rfl, HS'⟩
  case round =>
    clear HS'
    obtain ⟨i, rv', lv, R', ph, hi, rfl, HS⟩ := hrel
    have KLw := unhide HKL wr _ _ _ _ _ (unhide HS).1
    by_cases hlt : i < N
    · obtain ⟨hAc, hAr, hRl, hx, hEx⟩ := unhide HS
      have HEX := hide hEx
      clear hEx
      obtain ⟨hN, hG, _⟩ := unhide HH
      have hi1 : 1 ≤ i + 1 := by omega
      have hi2 : i + 1 ≤ L.length := by omega
      obtain ⟨p1, p2⟩ := hG.parts hi1 hi2
      obtain ⟨ta, tb⟩ := hG.tmAt_parts hi1 hi2
      have hth : thr L.length ((i : Int) + 1) = true := thr_iff.2 (by omega)
      have eg : getT L ((i : Int) + 1) = tmAt L (i + 1) := by
        have : ((i : Int) + 1).toNat = i + 1 := by omega
        simp [getT, hth, this]
      have KG := get_any b sv mb L ((i : Int) + 1) wr hAc.two.st
      rw [hth, eg, ta, tb] at KG
      have hst := hAr.step hG (by omega) (by omega)
      have htok : (tmAt L (i + 1)).ok := hAc.two.st.fit _ (by
        have : L[i]? = some (tmAt L (i + 1)) := by simp [tmAt, List.getD, List.getElem?_eq_getElem (show i < L.length by omega)]
        exact List.mem_of_getElem? this)
      have hmok := mapT_ok (ph := ph) htok hAr.bound
      have emap : mapT ph (tmAt L (i + 1)) = ⟨(tmAt L (i + 1)).kd, (tmAt L (i + 1)).n, (ph.getD (pA L (i + 1)) 0 : Nat), (ph.getD (pB L (i + 1)) 0 : Nat)⟩ := rfl
      rw [emap] at hst hmok
      have hlen := hAr.len
      obtain ⟨g, cp, rfl, hgw⟩ := hAc.form (by omega)
      have hA1 : pA L (i + 1) < ph.length := by omega
      have hB1 : pB L (i + 1) < ph.length := by omega
      have HP := hide (And.intro hst (And.intro hmok (And.intro hlen (And.intro hA1 (And.intro hB1 (And.intro hx hRl))))))
      have HA := hide hAc
      have hphb : (ph.length : Int) ≤ 3001 := by omega
      have hlt' : (i : Int) < (N : Int) := by omega
      have eA : (pA L (i + 1) : Int) < (i : Int) + 1 := by omega
      have eB : (pB L (i + 1) : Int) < (i : Int) + 1 := by omega
      have eA2 : (pA L (i + 1) : Int) < (ph.length : Int) := by omega
      have eB2 : (pB L (i + 1) : Int) < (ph.length : Int) := by omega
      clear hN hG hi1 hi2 p1 p2 ta tb hth eg hst htok hmok emap hlen hA1 hB1 hx hAc hAr hRl HS hgw
      generalize (tmAt L (i + 1)).kd = kd at *
      generalize (tmAt L (i + 1)).n = nn at *
      generalize pA L (i + 1) = A at *
      generalize pB L (i + 1) = B at *
      generalize hfa : ph.getD A 0 = fa at *
      generalize hfb : ph.getD B 0 = fb at *
      have HF := hide (And.intro hfa hfb)
      clear hfa hfb
      go_wp2_with fail
      refine KLw.mono ?_
      rintro e w1 ⟨rfl, rfl⟩
      go_wp2_with fail
      refine KG.mono ?_
      rintro e w2 ⟨rfl, hb2⟩
      have A2 := (unhide HA).new hb2
      have HEX2 := hide ((unhide HEX).new hb2)
      clear HEX
      have HA2 := hide A2
      have cm := A2.cells.1
      have hmw := lt_of_blk A2.blk
      have cA := A2.at (unhide HP).2.2.2.1
      have cB := A2.at (unhide HP).2.2.2.2.1
      rw [(unhide HF).1] at cA
      rw [(unhide HF).2] at cB
      have hgw := lt_of_cell cA
      clear A2 KG KLw hb2 HA
      have zA : ¬ ((A : Int) < 0) := by omega
      have zB : ¬ ((B : Int) < 0) := by omega
      have dA : decide ((i : Int) + 1 ≤ (A : Int)) = false := decide_eq_false (by omega)
      have dB : decide ((i : Int) + 1 ≤ (B : Int)) = false := decide_eq_false (by omega)
      go_upto_region 10 with fail
      go_cut [54] from 54 to 62 (fun s54 wx => s54 = .pointer (some ⟨mp, 0, none⟩) ∧ Hid (Ac w wx b sv mb rb rv' L R' mp (.slice (some ⟨g, 0, none⟩) ph.length cp) ph ∧ wx.heap[w2.heap.size]? = some (.cells #[.int .u8 kd, .int .i64 nn, .int .i64 (fa : Int), .int .i64 (B : Int)] 64 (0, 0)) ∧ w2.heap.size < wx.heap.size ∧ Below w2.heap.size w2 wx))
      case first =>
        go_region_with fail
        all_goals
          go_wp2_with fail
          go_meet
          case rel =>
            exact ⟨rfl, (unhide HA2).new ((bw_alloc w2 _).drew), heap_alloc_new w2 _, by simp, (bw_alloc w2 _).drew⟩
      case rest =>
        obtain ⟨rfl, HC⟩ := hcut
        obtain ⟨hAc, hbk, hsz, hbl⟩ := unhide HC
        have y0 : wc.cell? ⟨w2.heap.size, 0, none⟩ = some (.int .u8 kd) := by simp [World.cell?, hbk]
        have y1 : wc.cell? ⟨w2.heap.size, 1, none⟩ = some (.int .i64 nn) := by simp [World.cell?, hbk]
        have y2 : wc.cell? ⟨w2.heap.size, 2, none⟩ = some (.int .i64 (fa : Int)) := by simp [World.cell?, hbk]
        have y3 : wc.cell? ⟨w2.heap.size, 3, none⟩ = some (.int .i64 (B : Int)) := by simp [World.cell?, hbk]
        have yf : ∀ j, wc.frozen? ⟨w2.heap.size, j, none⟩ = false := fun j => by simp [World.frozen?, hbk]
        have cm2 := hAc.cells.1
        have cB2 : wc.cell? ⟨g, B, none⟩ = some (.int .i64 (fb : Int)) := by
          have := hAc.at (unhide HP).2.2.2.2.1
          rw [(unhide HF).2] at this; exact this
        have hsb : (wc.setCell ⟨w2.heap.size, 3, none⟩ (.int .i64 (fb : Int))).heap[w2.heap.size]? = some (.cells #[.int .u8 kd, .int .i64 nn, .int .i64 (fa : Int), .int .i64 (fb : Int)] 64 (0, 0)) := by
          simp [World.setCell, Array.getElem?_modify, hbk]
        have HSB := hide hsb
        clear hAc hbk hsb cm cA cB dA dB zA zB eA eB hmw hgw
        go_upto_region 11 with fail
        go_cut [63] from 63 to 71 (fun s63 wx => s63 = .pointer (some ⟨mp, 0, none⟩) ∧ Hid (Ac w wx b sv mb rb rv' L R' mp (.slice (some ⟨g, 0, none⟩) ph.length cp) ph ∧ Below w2.heap.size w2 wx) ∧ wx.cell? ⟨w2.heap.size, 0, none⟩ = some (.int .u8 kd) ∧ wx.cell? ⟨w2.heap.size, 1, none⟩ = some (.int .i64 nn) ∧ wx.cell? ⟨w2.heap.size, 2, none⟩ = some (.int .i64 (fa : Int)) ∧ wx.cell? ⟨w2.heap.size, 3, none⟩ = some (.int .i64 (fb : Int)))
        case first =>
          go_region_with fail
          all_goals
            go_wp2_with fail
            go_meet
            case rel =>
              have hb9 : Below w2.heap.size w2 (wc.setCell ⟨w2.heap.size, 3, none⟩ (.int .i64 (fb : Int))).drew := ((unhide HC).2.2.2.setCell (by simp) _).drew
              have hk : ∀ W : World, W.heap = (wc.setCell ⟨w2.heap.size, 3, none⟩ (.int .i64 (fb : Int))).heap → W.cell? ⟨w2.heap.size, 0, none⟩ = some (.int .u8 kd) ∧ W.cell? ⟨w2.heap.size, 1, none⟩ = some (.int .i64 nn) ∧ W.cell? ⟨w2.heap.size, 2, none⟩ = some (.int .i64 (fa : Int)) ∧ W.cell? ⟨w2.heap.size, 3, none⟩ = some (.int .i64 (fb : Int)) := fun W e => by
                simp [World.cell?, e, unhide HSB]
              exact ⟨rfl, ⟨(unhide HA2).new hb9, hb9⟩, hk _ rfl⟩
        case rest =>
          clear y0 y1 y2 y3 yf cm2 cB2 HSB HC hsz hbl HA2
          obtain ⟨rfl, HD, y0, y1, y2, y3⟩ := hcut
          have hD := (unhide HD).1
          have HE3 := hide ((unhide HEX2).new (unhide HD).2)
          have KM := rmake_any rb rv' R' ⟨kd, nn, fa, fb⟩ _ hD.two.rs (unhide HP).2.1
          rw [(unhide HP).1.1] at KM
          simp only at KM
          have hnb := mkN_bd hD.two.rs.good ⟨kd, nn, fa, fb⟩
          obtain ⟨hst, _, hlen, _, _, hx, hRl⟩ := unhide HP
          have hR2 : (mkL R' ⟨kd, nn, fa, fb⟩).length ≤ 3000 + (i + 1) := by have := mkL_len R' ⟨kd, nn, fa, fb⟩; omega
          have hx2 : ∃ x, mkL R' ⟨kd, nn, fa, fb⟩ = R ++ x := by
            obtain ⟨x, hx⟩ := hx
            obtain ⟨r, hr⟩ := mkL_prefix R' ⟨kd, nn, fa, fb⟩
            exact ⟨x ++ r, by rw [hr, hx, List.append_assoc]⟩
          have HP2 := hide (And.intro hst.2 (And.intro hR2 hx2))
          have hnb2 : 0 ≤ ((mkN R' ⟨kd, nn, fa, fb⟩ : Nat) : Int) := by omega
          clear hD hst hlen hx hRl hR2 hx2 HP
          generalize mkN R' ⟨kd, nn, fa, fb⟩ = kn at *
          generalize mkL R' ⟨kd, nn, fa, fb⟩ = R2 at *
          go_wp2_with fail
          refine KM.mono ?_
          rintro e w5 ⟨rfl, rv2, s5⟩
          have A5 := (unhide HD).1.stepR s5
          have HE5 := hide ((unhide HE3).stepR s5)
          have cm5 := A5.cells.1
          have hmw := lt_of_blk A5.blk
          have hrow : w5.ownsRow 0 3 1 (.slice (some ⟨g, 0, none⟩) ph.length cp) ph.length (ph.map (fun m => .int .i64 ((m : Nat) : Int))) := A5.row
          have HA5 := hide A5
          clear A5 s5 KM HD y0 y1 y2 y3
          go_wp2_with (at_builtin; refine wpList_append_own_at _ rfl (.tmp 84) (.tmp 86) 27 rfl 0 3 j0 (.int .i64 0) 1 8 Tryz.underlying27 hj hy0 hy1 hy2 rfl (by decide) _ ph.length _ rfl (World.ownsRow.alloc hrow _) ⟨w5.heap.size, 0, none⟩ 1 1 [_] rfl rfl (cell_one_new _ _ _) ?c2 ?c3 ?c4 ?c5 ?nx)
          case c2 => intro u hu; simp at hu; subst hu; rfl
          case c3 => unfold maxLen; omega
          case c4 => omega
          case c5 => exact Nat.zero_le _
          case nx =>
            intro v' w6 hown' hgrow _ hat
            obtain ⟨q1, q2, A6⟩ := (unhide HA5).push hown' hgrow (by simpa using hat)
            have E6 := (unhide HE5).push hgrow (by simpa using hat)
            obtain ⟨g', cap', rfl⟩ := own_form hown'
            have HR : Hid (Ac w (w6.setCell ⟨mp, 0, none⟩ (.slice (some ⟨g', 0, none⟩) (ph.length + 1) cap')) b sv mb rb rv2 L R2 mp (.slice (some ⟨g', 0, none⟩) (ph.length + 1) cap') (ph ++ [kn]) ∧ Acr L (i + 1) R2 (ph ++ [kn]) ∧ R2.length ≤ 3000 + (i + 1) ∧ (∃ x, R2 = R ++ x) ∧ Ex wr0 (w6.setCell ⟨mp, 0, none⟩ (.slice (some ⟨g', 0, none⟩) (ph.length + 1) cap')) rb rv rv2 mp (.slice (some ⟨g', 0, none⟩) (ph.length + 1) cap')) := ⟨A6, (unhide HP2).1, (unhide HP2).2.1, (unhide HP2).2.2, E6⟩
            clear A6 E6 hown' hgrow hat HA5 HP2 hrow
            go_wp2_with fail
            go_roundw
            case rel => exact ⟨i + 1, rv2, _, R2, ph ++ [kn], by omega, by go_num, HR⟩
            case measure => simp only [intOf]; omega
    · obtain rfl : i = N := by omega
      clear hlt hi
      go_wp2_with fail
      refine KLw.mono ?_
      rintro e w1 ⟨rfl, rfl⟩
      go_wp2_with fail
      go_ret2
      obtain ⟨hAc, hAr, hRl, hx, hEx⟩ := unhide HS
      rw [(unhide HH).1] at hAr
      exact ⟨mp, lv, rv', R', ph, rfl, hAc, hAr, hx, by have := hEx.fr; rw [unhide HW] at this; exact this⟩
end Go.Proofs.YtpcpcgagiapinaaGreatDoor.Tn

/- Map.Numbers of equal rows. -/
namespace Go.Proofs.YtpcpcgagiapinaaGreatDoor.Tn.Pa
open Go.RowKit Go.Maps
set_option maxRecDepth 100000 in
set_option maxHeartbeats 4000000 in
theorem mnumbers_same {W : World} {mp : Nat} {a1 a2 : Option Addr} {n c1 c2 B1 B2 : Nat} {ks : List Nat} (h1 : NRow B1 W (.slice a1 n c1) ks) (h2 : NRow B2 W (.slice a2 n c2) ks) (hn : n = ks.length) (hb : n ≤ 1000)
    (hS : ∀ W', Below W.heap.size W W' → ∀ k ∈ ks, Calls Tryz.prog 14 #[.pointer (some ⟨mp, 0, none⟩), .int .i64 (k : Int), .int .i64 (k : Int)] W' fun e w' => e = .returned (.bool true) ∧ w' = W') :
    Calls Tryz.prog 13 #[.pointer (some ⟨mp, 0, none⟩), .slice a1 n c1, .slice a2 n c2] W fun e w' => e = .returned (.bool true) ∧ Below W.heap.size W w' := by
  have HJ : Hid (∀ (j : Nat), j < n → ∃ (g1 g2 k : Nat), a1 = some ⟨g1, 0, none⟩ ∧ a2 = some ⟨g2, 0, none⟩ ∧ k ∈ ks ∧ ∀ W', Below W.heap.size W W' → W'.cell? ⟨g1, j, none⟩ = some (.int .i64 (k : Int)) ∧ W'.cell? ⟨g2, j, none⟩ = some (.int .i64 (k : Int))) := fun j hj => by
    obtain ⟨k, hk⟩ : ∃ k, ks[j]? = some k := ⟨_, List.getElem?_eq_getElem (by omega)⟩
    obtain ⟨g1, cp1, e1, -⟩ := own_open h1 (by omega)
    obtain ⟨g2, cp2, e2, -⟩ := own_open h2 (by omega)
    simp only [Value.slice.injEq] at e1 e2
    obtain ⟨rfl, -, -⟩ := e1
    obtain ⟨rfl, -, -⟩ := e2
    refine ⟨g1, g2, k, rfl, rfl, List.mem_of_getElem? hk, fun W' hb => ?_⟩
    have r1 : NRow B1 W' (.slice (some ⟨g1, 0, none⟩) n c1) ks := h1.keep (fun k hk => hb.block k (h1.lt k hk).2)
    have r2 : NRow B2 W' (.slice (some ⟨g2, 0, none⟩) n c2) ks := h2.keep (fun k hk => hb.block k (h2.lt k hk).2)
    exact ⟨r1.at rfl hk, r2.at rfl hk⟩
  have HS := hide hS
  have hnI : (n : Int) ≤ 1000 := by omega
  clear h1 h2 hn hb hS
  go_enter Tryz.func13, Tryz.ntmps13
  go_wp2_with fail
  go_loopw [7] (fun iv wr => ∃ j : Nat, iv = .int .i64 (j : Int) ∧ j ≤ n ∧ Hid (Below W.heap.size W wr)) (fun iv _ => (n - intOf iv).toNat)
  case atStart => exact ⟨0, rfl, by omega, Below.refl _ _⟩
  case round =>
    obtain ⟨j, rfl, hj, HB⟩ := hrel
    by_cases hlt : j < n
    · obtain ⟨g1, g2, k, rfl, rfl, hk, hc⟩ := unhide HJ j hlt
      have b1 : Below W.heap.size W wr.drew := (unhide HB).drew
      obtain ⟨x1, x2⟩ := hc _ (unhide HB)
      obtain ⟨y1, y2⟩ := hc _ b1
      have K := hide (unhide HS _ b1 k hk)
      have HB1 := hide b1
      have qj : (j : Int) < (n : Int) := by omega
      have qj0 : (0 : Int) ≤ (j : Int) := by omega
      clear hc hk HB b1
      go_upto_region 6 with fail
      go_region_law ((go_simp; go_wp2_with (first | (go_at_call 14; refine (unhide K).mono ?_; rintro e_ zz ⟨rfl, rfl⟩))))
      all_goals
        go_wp2_with fail
        go_roundw
        case rel => exact ⟨j + 1, by go_num, by omega, HB1⟩
        case measure => simp only [intOf]; omega
    · have hje : j = n := by omega
      subst hje
      clear HJ HS hlt hj
      go_wp2
      go_ret
      exact ⟨rfl, unhide HB⟩
end Go.Proofs.YtpcpcgagiapinaaGreatDoor.Tn.Pa

/- Contracts of the document's List and Data. -/
namespace Go.Proofs.YtpcpcgagiapinaaGreatDoor.Tn
open Go.RowKit Go.Maps
end Go.Proofs.YtpcpcgagiapinaaGreatDoor.Tn

/- What List and Data leave, as plain lists; the terms of one store among those of another that began alike; the contract of Same. -/
namespace Go.Proofs.YtpcpcgagiapinaaGreatDoor.Tn
open Go.RowKit Go.Maps
structure Gro (L L' : List Tm) (n : Int) (k : Nat) : Prop where
  good : Good L'
  pre : ∃ x, L' = L ++ x
  lo : 0 ≤ n
  hi : n ≤ (L'.length : Int)
  len : L'.length ≤ L.length + k
theorem Gro.made {L L' : List Tm} {t : Tm} {n : Int} {k : Nat} (h : Gro (mkL L t) L' n k) : Gro L L' n (k + 1) := by
  obtain ⟨x, hx⟩ := h.pre
  obtain ⟨r, hr⟩ := mkL_prefix L t
  exact ⟨h.good, ⟨r ++ x, by rw [hx, hr, List.append_assoc]⟩, h.lo, h.hi, by have := h.len; have := mkL_len L t; omega⟩
theorem Gro.none {L : List Tm} (h : Good L) (k : Nat) : Gro L L 0 k := ⟨h, ⟨[], by simp⟩, by omega, by omega, by omega⟩
theorem Gro.mono {L L' : List Tm} {n : Int} {k k' : Nat} (h : Gro L L' n k) (hk : k ≤ k') : Gro L L' n k' := ⟨h.good, h.pre, h.lo, h.hi, by have := h.len; omega⟩
theorem Acr.ident {L R : List Tm} {ph : List Nat} (h : Acr L L.length R ph) (hG : Good L) (hp : ∃ x, R = L ++ x) : ∀ m, m ≤ L.length → ph.getD m 0 = m := by
  obtain ⟨x, hx⟩ := hp
  have hle : L.length ≤ R.length := by rw [hx]; simp
  intro m
  induction m using Nat.strongRecOn with
  | _ m ih =>
    intro hm
    by_cases m0 : m = 0
    · subst m0; exact h.zero
    · obtain ⟨p1, p2⟩ := hG.parts (m := m) (by omega) hm
      obtain ⟨s1, s2⟩ := hG.tmAt_parts (m := m) (by omega) hm
      have e := h.at_ m (by omega) hm
      have hr := h.rng m (by omega) hm
      have e2 : mapT ph (tmAt L m) = tmAt L m := by
        have a1 := ih (pA L m) p1 (by omega)
        have a2 := ih (pB L m) p2 (by omega)
        unfold mapT
        have b1 : (tmAt L m).a.toNat = pA L m := rfl
        have b2 : (tmAt L m).b.toNat = pB L m := rfl
        rw [b1, b2, a1, a2]
        cases hy : tmAt L m with
        | mk y1 y2 y3 y4 =>
          rw [hy] at s1 s2
          simp only at s1 s2
          rw [s1, s2]
      have e3 : tmAt R m = tmAt L m := by
        rw [hx]
        simp [tmAt, List.getD, List.getElem?_append_left (show m - 1 < L.length by omega)]
      rw [e2, ← e3] at e
      exact h.good.tmAt_inj hr.1 hr.2 (by omega) (by omega) e
set_option maxRecDepth 100000 in
set_option maxHeartbeats 2000000 in
theorem msame_any (mp g np cp k : Nat) (W : World) (hk : k < np) (hn : np ≤ 4000) (h0 : W.cell? ⟨mp, 0, none⟩ = some (.slice (some ⟨g, 0, none⟩) np cp)) (h1 : W.cell? ⟨g, k, none⟩ = some (.int .i64 (k : Int))) :
    Calls Tryz.prog 14 #[.pointer (some ⟨mp, 0, none⟩), .int .i64 (k : Int), .int .i64 (k : Int)] W fun e w' => e = .returned (.bool true) ∧ w' = W := by
  have a1 : (k : Int) < (np : Int) := by omega
  have a2 : (np : Int) ≤ 4000 := by omega
  have a3 : ¬ ((k : Int) < 0) := by omega
  clear hk hn
  go_enter Tryz.func14, Tryz.ntmps14
  go_wp2
  go_ret
  exact ⟨ret_bool (by simp), rfl⟩
end Go.Proofs.YtpcpcgagiapinaaGreatDoor.Tn
