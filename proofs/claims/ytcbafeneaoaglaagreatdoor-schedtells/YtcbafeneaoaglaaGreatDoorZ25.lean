/- Texts joined: ScW ScX. -/
import Derived.Test.YtcbafeneaoaglaaGreatDoorScV
import Derived.Test.YtcbafeneaoaglaaGreatDoorZ23
import Derived.Test.YtcbafeneaoaglaaGreatDoorTtE
import Derived.Test.YtcbafeneaoaglaaGreatDoorZ14
/- Map.Secrets: both lists of six are the same terms. -/
namespace Go.Proofs.YtcbafeneaoaglaaGreatDoor.Tn
open Go.RowKit Go.Maps

theorem blk2 (w : World) (o1 o2 : Obj) : ((w.alloc o1).alloc o2).heap[w.heap.size]? = some o1 ∧ ((w.alloc o1).alloc o2).heap[w.heap.size + 1]? = some o2 ∧ Below w.heap.size w ((w.alloc o1).alloc o2) := by
  have h1 := heap_alloc_new w o1
  have h2 := heap_alloc_new (w.alloc o1) o2
  simp only [heap_size_alloc] at h1 h2
  exact ⟨blk_before h1, h2, (bwA' _ _).alloc (by simp) _⟩
set_option maxRecDepth 100000 in
set_option maxHeartbeats 4000000 in
theorem msecrets_any (mp : Nat) (w : World) (z0 z1 z2 z3 z4 z5 : Int)
    (KS : ∀ W, Below w.heap.size w W → ∀ z, z ∈ [z0, z1, z2, z3, z4, z5] → Calls Tryz.prog 16 #[.pointer (some ⟨mp, 0, none⟩), .int .i64 z, .int .i64 z] W fun e w' => e = .returned (.bool true) ∧ w' = W) :
    Calls Tryz.prog 17 #[.pointer (some ⟨mp, 0, none⟩), .agg #[.int .i64 z0, .int .i64 z1, .int .i64 z2, .int .i64 z3, .int .i64 z4, .int .i64 z5], .agg #[.int .i64 z0, .int .i64 z1, .int .i64 z2, .int .i64 z3, .int .i64 z4, .int .i64 z5]] w fun e w' => e = .returned (.bool true) ∧ Below w.heap.size w w' := by
  obtain ⟨y0, y1, x0⟩ := blk2 w (.cells #[.int .i64 z0, .int .i64 z1, .int .i64 z2, .int .i64 z3, .int .i64 z4, .int .i64 z5] 38) (.cells #[.int .i64 z0, .int .i64 z1, .int .i64 z2, .int .i64 z3, .int .i64 z4, .int .i64 z5] 38)
  obtain ⟨w0, hw0⟩ : ∃ w0, w0 = (w.alloc (.cells #[.int .i64 z0, .int .i64 z1, .int .i64 z2, .int .i64 z3, .int .i64 z4, .int .i64 z5] 38)).alloc (.cells #[.int .i64 z0, .int .i64 z1, .int .i64 z2, .int .i64 z3, .int .i64 z4, .int .i64 z5] 38) := ⟨_, rfl⟩
  rw [← hw0] at y0 y1 x0
  have HW := hide hw0
  have K0 := hide (KS w0 x0 z0 (by simp))
  have K1 := hide (KS w0 x0 z1 (by simp))
  have K2 := hide (KS w0 x0 z2 (by simp))
  have K3 := hide (KS w0 x0 z3 (by simp))
  have K4 := hide (KS w0 x0 z4 (by simp))
  have K5 := hide (KS w0 x0 z5 (by simp))
  have a0 := blk_cell (i := 0) y0 rfl
  have a1 := blk_cell (i := 1) y0 rfl
  have a2 := blk_cell (i := 2) y0 rfl
  have a3 := blk_cell (i := 3) y0 rfl
  have a4 := blk_cell (i := 4) y0 rfl
  have a5 := blk_cell (i := 5) y0 rfl
  have b0 := blk_cell (i := 0) y1 rfl
  have b1 := blk_cell (i := 1) y1 rfl
  have b2 := blk_cell (i := 2) y1 rfl
  have b3 := blk_cell (i := 3) y1 rfl
  have b4 := blk_cell (i := 4) y1 rfl
  have b5 := blk_cell (i := 5) y1 rfl
  clear hw0 y0 y1 KS
  go_enter Tryz.func17, Tryz.ntmps17
  go_upto_region 1 with fail
  rw [← unhide HW]
  go_wp2_with fail
  refine (unhide K0).mono ?_
  rintro e v0 ⟨rfl, rfl⟩
  go_wp2_with fail
  refine (unhide K1).mono ?_
  rintro e v1 ⟨rfl, rfl⟩
  go_wp2_with fail
  refine (unhide K2).mono ?_
  rintro e v2 ⟨rfl, rfl⟩
  go_wp2_with fail
  refine (unhide K3).mono ?_
  rintro e v3 ⟨rfl, rfl⟩
  go_wp2_with fail
  refine (unhide K4).mono ?_
  rintro e v4 ⟨rfl, rfl⟩
  go_wp2_with fail
  refine (unhide K5).mono ?_
  rintro e v5 ⟨rfl, rfl⟩
  go_wp2
  go_ret
  exact ⟨rfl, x0⟩
end Go.Proofs.YtcbafeneaoaglaaGreatDoor.Tn

/- What SchedTells keeps. -/
namespace Go.Proofs.YtcbafeneaoaglaaGreatDoor.Tn
open Go.RowKit Go.Maps

theorem trd_rfix {w0 w : World} {b : Nat} {sv : Value} {v : Value} {T : List Nd} (h : Trd w0 v T) (hb : Below w0.heap.size w0 w) (hlow : ∀ x ∈ rfoot b sv, w0.heap.size ≤ x) : Tfix (fun W => Fr (rfoot b sv) w W) v T := by
  rcases h.form with ⟨h1, h2⟩ | ⟨g, o, c, hv, hg, hc⟩
  · exact Or.inl ⟨h1, h2⟩
  · have hex : ∀ i, ∃ u, i < T.length → NdC w0 g (o + i * 4) (ndAt T i) u ∧ Nums w0 u (ndAt T i).un := fun i => by
      by_cases hi : i < T.length
      · obtain ⟨u, q⟩ := hc i _ (ndAt_of hi)
        exact ⟨u, fun _ => q⟩
      · exact ⟨default, fun c => absurd c hi⟩
    refine Or.inr ⟨g, o, c, fun i => Classical.choose (hex i), hv, fun W hW i hi => ?_⟩
    obtain ⟨q1, q2⟩ := Classical.choose_spec (hex i) hi
    have hbW : Below w0.heap.size w0 W := Fr.toBase hb hW hlow
    exact ⟨q1.bw hg hbW, q2.bw hbW⟩
theorem twt_keep {B : Nat} {W W' : World} {G : Nat} {T : List Nd} {us : List Value} (h : TwT B W G T us) (hk : ∀ (k : Nat) (cs : Array Value) (t : TypeId), W.heap[k]? = some (.cells cs t (0, 0)) → (t = 62 ∨ t = 3) → W'.heap[k]? = W.heap[k]?) : TwT B W' G T us :=
  ⟨h.low, h.ul, own_keep h.own (fun k hk' => by obtain ⟨cur, e⟩ := own_kind h.own hk'; exact hk k _ _ e (Or.inl rfl)),
   fun j n u hn hu => by obtain ⟨g, h1, h2, h3⟩ := h.un j n u hn hu; exact ⟨g, h1, h2, h3.keep (hk g _ _ h3 (Or.inr rfl))⟩, h.apart⟩
/-- Two stores, a copy of a tree, and blocks beside them. -/
structure ST (w W : World) (b : Nat) (sv : Value) (mb rb : Nat) (rv : Value) (L R : List Tm) (B G : Nat) (T : List Nd) (us : List Value) (bs : List (Nat × Array Value × TypeId)) : Prop where
  two : Two w W b sv mb rb rv L R
  tw : TwT B W G T us
  bl : ∀ x ∈ bs, W.heap[x.1]? = some (.cells x.2.1 x.2.2 (0, 0)) ∧ (x.2.2 = 25 ∨ x.2.2 = 38)
section
variable {w W W' : World} {b : Nat} {sv sv' : Value} {mb rb : Nat} {rv rv' : Value} {L R L' R' : List Tm} {B G : Nat} {T : List Nd} {us : List Value} {bs : List (Nat × Array Value × TypeId)}
theorem ST.stepS (h : ST w W b sv mb rb rv L R B G T us bs) (s : SStep W W' b sv sv' mb L') : ST w W' b sv' mb rb rv L' R B G T us bs :=
  ⟨h.two.stepS s, twt_keep h.tw (fun k cs t e ht => s.fr.block k (lt_of_blk e) (h.two.st.notin e (by rcases ht with rfl | rfl <;> decide) (by rcases ht with rfl | rfl <;> decide))),
   fun x hx => ⟨kept_fr (h.bl x hx).1 h.two.st s.fr (by rcases (h.bl x hx).2 with q | q <;> rw [q] <;> decide) (by rcases (h.bl x hx).2 with q | q <;> rw [q] <;> decide), (h.bl x hx).2⟩⟩
theorem ST.stepR (h : ST w W b sv mb rb rv L R B G T us bs) (s : RStep W W' rb rv rv' R') : ST w W' b sv mb rb rv' L R' B G T us bs :=
  ⟨h.two.stepR s, twt_keep h.tw (fun k cs t e ht => s.fr.block k (lt_of_blk e) (h.two.rs.notin e (by rcases ht with rfl | rfl <;> decide) (by rcases ht with rfl | rfl <;> decide))),
   fun x hx => ⟨kept_rfr (h.bl x hx).1 h.two.rs s.fr (by rcases (h.bl x hx).2 with q | q <;> rw [q] <;> decide) (by rcases (h.bl x hx).2 with q | q <;> rw [q] <;> decide), (h.bl x hx).2⟩⟩
theorem ST.new (h : ST w W b sv mb rb rv L R B G T us bs) (hb : Below W.heap.size W W') : ST w W' b sv mb rb rv L R B G T us bs :=
  ⟨h.two.new hb, h.tw.bw hb, fun x hx => ⟨kept_blk (h.bl x hx).1 hb, (h.bl x hx).2⟩⟩
theorem ST.put (h : ST w W b sv mb rb rv L R B G T us bs) (cs : Array Value) (t : TypeId) (ht : t = 25 ∨ t = 38) : ST w (W.alloc (.cells cs t)) b sv mb rb rv L R B G T us ((W.heap.size, cs, t) :: bs) := by
  have h1 := h.new (bwA' W (.cells cs t))
  refine ⟨h1.two, h1.tw, fun x hx => ?_⟩
  rcases List.mem_cons.1 hx with rfl | hx
  · exact ⟨heap_alloc_new _ _, ht⟩
  · exact h1.bl x hx
end
/-! How great the stores are, and that the numbers are numbers of terms. -/
theorem sec_rng {L : List Tm} {j x : Int} (hj : thr L.length j = true) (hx : x = 0 ∨ thr L.length x = true) (hl : L.length + 8 ≤ 1048576) : (∀ z ∈ secV L j x, 0 ≤ z ∧ z ≤ ((secL L j x).length : Int)) ∧ (secL L j x).length ≤ L.length + 5 ∧ L.length ≤ (secL L j x).length := by
  have m0 := may_kdf (l := 4) (by omega) hj hx
  have t0 := thr_iff.1 (mkN_thr m0 (by omega)).1
  have a0 := mkL_len L ⟨4, 4, j, x⟩
  have b0 := mkL_le L ⟨4, 4, j, x⟩
  have hj' := thr_iff.1 hj
  obtain ⟨E, hE⟩ : ∃ E : Nat, E = secE L j x := ⟨_, rfl⟩
  obtain ⟨L1, hL1⟩ : ∃ L1, L1 = mkL L ⟨4, 4, j, x⟩ := ⟨_, rfl⟩
  have t0' : 1 ≤ (E : Int) ∧ (E : Int) ≤ (L1.length : Int) := by rw [hE, hL1]; exact t0
  rw [← hL1] at a0 b0
  have m5 : may L1.length ⟨4, 5, (E : Int), 0⟩ = true := may_kdf (by omega) (thr_iff.2 t0') (Or.inl rfl)
  have t5 := thr_iff.1 (mkN_thr m5 (by omega)).1
  have a5 := mkL_len L1 ⟨4, 5, (E : Int), 0⟩
  have b5 := mkL_le L1 ⟨4, 5, (E : Int), 0⟩
  obtain ⟨L5, hL5⟩ : ∃ L5, L5 = s5 L1 (E : Int) := ⟨_, rfl⟩
  have e5 : mkL L1 ⟨4, 5, (E : Int), 0⟩ = L5 := by rw [hL5]; rfl
  rw [e5] at t5 a5 b5
  have m6 : may L5.length ⟨4, 6, (E : Int), 0⟩ = true := may_kdf (by omega) (thr_iff.2 (by omega)) (Or.inl rfl)
  have t6 := thr_iff.1 (mkN_thr m6 (by omega)).1
  have a6 := mkL_len L5 ⟨4, 6, (E : Int), 0⟩
  have b6 := mkL_le L5 ⟨4, 6, (E : Int), 0⟩
  obtain ⟨L6, hL6⟩ : ∃ L6, L6 = s6 L1 (E : Int) := ⟨_, rfl⟩
  have e6 : mkL L5 ⟨4, 6, (E : Int), 0⟩ = L6 := by rw [hL6, hL5]; rfl
  rw [e6] at t6 a6 b6
  have m7 : may L6.length ⟨4, 7, (E : Int), 0⟩ = true := may_kdf (by omega) (thr_iff.2 (by omega)) (Or.inl rfl)
  have t7 := thr_iff.1 (mkN_thr m7 (by omega)).1
  have a7 := mkL_len L6 ⟨4, 7, (E : Int), 0⟩
  have b7 := mkL_le L6 ⟨4, 7, (E : Int), 0⟩
  obtain ⟨L7, hL7⟩ : ∃ L7, L7 = s7 L1 (E : Int) := ⟨_, rfl⟩
  have e7 : mkL L6 ⟨4, 7, (E : Int), 0⟩ = L7 := by rw [hL7, hL6]; rfl
  rw [e7] at t7 a7 b7
  have m8 : may L7.length ⟨4, 8, (E : Int), 0⟩ = true := may_kdf (by omega) (thr_iff.2 (by omega)) (Or.inl rfl)
  have t8 := thr_iff.1 (mkN_thr m8 (by omega)).1
  have a8 := mkL_len L7 ⟨4, 8, (E : Int), 0⟩
  have b8 := mkL_le L7 ⟨4, 8, (E : Int), 0⟩
  obtain ⟨L8, hL8⟩ : ∃ L8, L8 = s8 L1 (E : Int) := ⟨_, rfl⟩
  have e8 : mkL L7 ⟨4, 8, (E : Int), 0⟩ = L8 := by rw [hL8, hL7]; rfl
  rw [e8] at t8 a8 b8
  have es : secL L j x = L8 := by unfold secL; rw [← hE, ← hL1, hL8]
  have ev : secV L j x = [j, (E : Int), (mkN L1 ⟨4, 5, (E : Int), 0⟩ : Nat), (mkN L5 ⟨4, 6, (E : Int), 0⟩ : Nat), (mkN L6 ⟨4, 7, (E : Int), 0⟩ : Nat), (mkN L7 ⟨4, 8, (E : Int), 0⟩ : Nat)] := by
    unfold secV; rw [← hE, ← hL1, hL5, hL6, hL7]
  rw [es, ev]
  refine ⟨fun z hz => ?_, by omega, by omega⟩
  simp only [List.mem_cons, List.not_mem_nil, or_false] at hz
  rcases hz with rfl | rfl | rfl | rfl | rfl | rfl <;> omega
theorem nxt_rng {L : List Tm} (i c x : Int) (hl : L.length + 40 ≤ 1048576) : (∀ z ∈ nxtV L i c x, 0 ≤ z ∧ z ≤ ((nxtL L i c x).length : Int)) ∧ (nxtL L i c x).length ≤ L.length + 7 ∧ L.length ≤ (nxtL L i c x).length := by
  unfold nxtV nxtL
  split
  · next h =>
    unfold nx3 at h
    simp only [Bool.and_eq_true] at h
    obtain ⟨ti, tc, tx⟩ := h
    have m1 := may_pair ti tc
    have t1 := mkN_thr m1 (by omega)
    have m2 : may (mkL L ⟨3, 0, i, c⟩).length ⟨4, 3, (nxP L i c : Nat), 0⟩ = true := may_kdf (by omega) t1.1 (Or.inl rfl)
    have a1 := mkL_len L ⟨3, 0, i, c⟩
    have b1 := mkL_le L ⟨3, 0, i, c⟩
    have t2 := mkN_thr m2 (by omega)
    have a2 := mkL_len (mkL L ⟨3, 0, i, c⟩) ⟨4, 3, (nxP L i c : Nat), 0⟩
    have b2 := mkL_le (mkL L ⟨3, 0, i, c⟩) ⟨4, 3, (nxP L i c : Nat), 0⟩
    have e : mkL (mkL L ⟨3, 0, i, c⟩) ⟨4, 3, (nxP L i c : Nat), 0⟩ = nxL L i c := rfl
    rw [e] at a2 b2
    have t2' : thr (nxL L i c).length (nxJ L i c : Nat) = true := t2.1
    have := sec_rng t2' (Or.inr (thr_mono tx (by omega))) (by omega)
    exact ⟨this.1, by omega, by omega⟩
  · exact ⟨fun z hz => by simp at hz; subst hz; omega, by omega, by omega⟩
theorem fr_rng {L : List Tm} (j x : Int) (hl : L.length + 40 ≤ 1048576) : (∀ z ∈ frV L j x, 0 ≤ z ∧ z ≤ ((frL L j x).length : Int)) ∧ (frL L j x).length ≤ L.length + 5 ∧ L.length ≤ (frL L j x).length := by
  unfold frV frL
  split
  · next h =>
    unfold fr2 at h
    simp only [Bool.and_eq_true] at h
    have := sec_rng h.1 (Or.inr h.2) (by omega)
    exact this
  · exact ⟨fun z hz => by simp at hz; subst hz; omega, by omega, by omega⟩
theorem cx_rng {L : List Tm} (g e : Int) {T : List Nd} (hr : Trng T) (hl : L.length + 400 ≤ 1048576) : cxN L g e T ≤ (cxL L g e T).length ∧ (cxL L g e T).length ≤ L.length + 300 ∧ L.length ≤ (cxL L g e T).length := by
  unfold cxN cxL
  split
  · next h =>
    obtain ⟨tb, hx⟩ := held_tb h hr
    obtain ⟨q1, q2, q3, q4⟩ := pub_ok (g := g) (e := e) tb hx hl
    have h0 := dats_len [g, e] (L, [])
    simp only [List.length_cons, List.length_nil] at h0
    have h1 := pubK_len T tb.un (dats (L, []) [g, e]) T.length (Nat.le_refl _)
    have hp : pubP L g e T = pubK T (dats (L, []) [g, e]) T.length := rfl
    rw [← hp] at h1
    have h15 := tb.len
    have hd := digP_ok q1 q2 q3
    have hd2 : (digP (pubP L g e T).1 (pubP L g e T).2).1.length ≤ (pubP L g e T).1.length + (pubP L g e T).2.length ∧ (pubP L g e T).1.length ≤ (digP (pubP L g e T).1 (pubP L g e T).2).1.length := digP_len q1 q2 q3
    have hm : may (digP (pubP L g e T).1 (pubP L g e T).2).1.length ⟨7, 0, ((digP (pubP L g e T).1 (pubP L g e T).2).2 : Int), 0⟩ = true := may_hash (thr_iff.2 (by omega))
    have ht := thr_iff.1 (mkN_thr hm (by omega)).1
    have a := mkL_len (digP (pubP L g e T).1 (pubP L g e T).2).1 ⟨7, 0, ((digP (pubP L g e T).1 (pubP L g e T).2).2 : Int), 0⟩
    have b := mkL_le (digP (pubP L g e T).1 (pubP L g e T).2).1 ⟨7, 0, ((digP (pubP L g e T).1 (pubP L g e T).2).2 : Int), 0⟩
    unfold ctx dig
    simp only
    omega
  · omega
end Go.Proofs.YtcbafeneaoaglaaGreatDoor.Tn
