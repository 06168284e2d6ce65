/- Package account: change. -/
import Derived.Test.YtokdflbajnecpaaAcC
namespace Go.Proofs.Ytokdflbajnecpaa.Tn.Ax
open Go.RowKit Go.Maps

/-- Blocks of other kinds stay. -/
def Kp (W W' : World) : Prop := ∀ (k : Nat) (cs : Array Value) (t : TypeId), W.heap[k]? = some (.cells cs t (0, 0)) → t ≠ 101 → t ≠ 55 → t ≠ 77 → t ≠ 3 → W'.heap[k]? = some (.cells cs t (0, 0))
theorem AS.kp {W W' : World} {b : Nat} {sv sv1 : Value} {mb : Nat} {L L1 : List Tm} {p : Nat} {lv lv1 : Value} {acc acc1 : List Nat} (h : AS W W' b sv sv1 mb L1 p lv lv1 acc1) (hs : St W b sv mb L) (hb : W.heap[p]? = some (.cells #[.pointer (some ⟨b, 0, none⟩), lv, .int .i64 0] 77 (0, 0))) (hr : NRow 0 W lv acc) : Kp W W' := fun k cs t hk h1 h2 h3 h4 => by
  rw [h.fr.block k (lt_of_blk hk) (fun c => ?_)]; exact hk
  rcases List.mem_append.1 c with c | c
  · exact hs.notin hk h1 h2 c
  · rcases List.mem_cons.1 c with c | c
    · subst c; rw [hb] at hk; injection hk with hk; injection hk with _ hk; exact h3 hk.symm
    · obtain ⟨cur, hc⟩ := hr.block (k := k) (by simpa using c)
      rw [hc] at hk; injection hk with hk; injection hk with _ hk; exact h4 hk.symm
theorem AS.lts {w W : World} {b : Nat} {sv sv1 : Value} {mb : Nat} {L : List Tm} {p : Nat} {lv lv1 : Value} {acc : List Nat} (A : AS w W b sv sv1 mb L p lv lv1 acc) : ∀ x ∈ foot b sv1 mb ++ p :: lv1.ownBlock.toList, x < W.heap.size := fun x hx => by
  rcases List.mem_append.1 hx with c | c
  · exact A.st.lt x c
  · rcases List.mem_cons.1 c with c | c
    · subst c; exact lt_of_blk A.blk
    · exact (A.row.lt x (by simpa using c)).2
def iC (ns : List Int) : Array Value := (ns.map fun z => Value.int .i64 z).toArray
theorem nis_new (W : World) (t : TypeId) (ns : List Int) (hz : ∀ z ∈ ns, i64r z) (hl : ns.length ≤ 100) : NIs (W.alloc (.cells (iC ns) t)) (.slice (some ⟨W.heap.size, 0, none⟩) ns.length ns.length) ns := by
  refine ⟨_, _, rfl, by omega, hz, Or.inr ⟨W.heap.size, 0, rfl, fun j u hj => ?_⟩⟩
  refine blk_cell (heap_alloc_new W (.cells (iC ns) t)) ?_
  simp [iC, hj]
theorem AS.data_new {w W : World} {b : Nat} {sv sv1 : Value} {mb : Nat} {L : List Tm} {p : Nat} {lv lv1 : Value} {acc : List Nat} (A : AS w W b sv sv1 mb L p lv lv1 acc) (ns : List Int) (hz : ∀ z ∈ ns, i64r z) (hl : L.length + ns.length ≤ 1048576) (hns : ns.length ≤ 100) (hac : acc.length ≤ 500) :
    Calls Try.prog 41 #[.pointer (some ⟨p, 0, none⟩), .slice (some ⟨W.heap.size, 0, none⟩) ns.length ns.length] (W.alloc (.cells (iC ns) 3)) fun e w' => e = .returned (.tuple #[]) ∧ Kp (W.alloc (.cells (iC ns) 3)) w' ∧ ∃ sv' lv', AS w w' b sv sv' mb (dats (L, acc) ns).1 p lv lv' (dats (L, acc) ns).2 := by
  have B := A.bw (bwA' W (.cells (iC ns) 3))
  refine (data_all B.st p lv1 acc B.blk B.row _ ns (fun V hV => (nis_new W 3 ns hz hns).fr hV (fun k hk c => ?_)) hl hns hac).mono ?_
  · cases hk; exact absurd (A.lts _ c) (Nat.lt_irrefl _)
  · rintro e w' ⟨h1, sv', lv', h2⟩
    exact ⟨h1, h2.kp B.st B.blk B.row, sv', lv', B.trans h2⟩
theorem AS.data_old {w W : World} {b : Nat} {sv sv1 : Value} {mb : Nat} {L : List Tm} {p : Nat} {lv lv1 : Value} {acc : List Nat} (A : AS w W b sv sv1 mb L p lv lv1 acc) (nv : Value) (ns : List Int) (hn : ∀ V, Fr (foot b sv mb ++ p :: lv.ownBlock.toList) w V → NIs V nv ns) (hl : L.length + ns.length ≤ 1048576) (hns : ns.length ≤ 100) (hac : acc.length ≤ 500) :
    Calls Try.prog 41 #[.pointer (some ⟨p, 0, none⟩), nv] W fun e w' => e = .returned (.tuple #[]) ∧ ∃ sv' lv', AS w w' b sv sv' mb (dats (L, acc) ns).1 p lv lv' (dats (L, acc) ns).2 := by
  refine (data_all A.st p lv1 acc A.blk A.row _ ns (fun V hV => hn V (A.frs hV)) hl hns hac).mono ?_
  rintro e w' ⟨h1, sv', lv', h2⟩
  exact ⟨h1, sv', lv', A.trans h2⟩
theorem AS.terms_new {w W : World} {b : Nat} {sv sv1 : Value} {mb : Nat} {L : List Tm} {p : Nat} {lv lv1 : Value} {acc : List Nat} (A : AS w W b sv sv1 mb L p lv lv1 acc) (n : Nat) (hac : acc.length ≤ 1000) :
    Calls Try.prog 42 #[.pointer (some ⟨p, 0, none⟩), .slice (some ⟨W.heap.size, 0, none⟩) 1 1] (W.alloc (.cells #[.int .i64 (n : Int)] 3)) fun e w' => e = .returned (.tuple #[]) ∧ Kp (W.alloc (.cells #[.int .i64 (n : Int)] 3)) w' ∧ ∃ lv', AS w w' b sv sv1 mb L p lv lv' (acc ++ [n]) := by
  have B := A.bw (bwA' W (.cells #[.int .i64 (n : Int)] 3))
  refine (terms_any B.st p lv1 acc B.blk B.row W.heap.size n (blk_cell (heap_alloc_new W _) rfl) hac).mono ?_
  rintro e w' ⟨h1, lv2, h2⟩
  exact ⟨h1, h2.kp B.st B.blk B.row, lv2, B.trans h2⟩
theorem AS.far {w W V : World} {b : Nat} {sv sv1 : Value} {mb : Nat} {L1 : List Tm} {lv1 : Value} {acc : List Nat} {ob : Obj} (h : AS (w.alloc ob) W b sv sv1 mb L1 w.heap.size (.slice none 0 0) lv1 acc) (k : Fr (foot b sv1 mb ++ w.heap.size :: lv1.ownBlock.toList) W V) : Fr (foot b sv mb) w V :=
  (((Fr.refl (foot b sv mb ++ [w.heap.size]) w).alloc ob).tr ((h.frs k).mono (fun x _ c => by simpa [Value.ownBlock] using c))).mono (fun x hx c => by
      rcases List.mem_append.1 c with c | c
      · exact c
      · simp at c; omega)
theorem far0 {w V : World} {b : Nat} {sv : Value} {mb : Nat} {ob : Obj} (k : Fr (foot b sv mb ++ w.heap.size :: (Value.slice none 0 0).ownBlock.toList) (w.alloc ob) V) : Fr (foot b sv mb) w V :=
  (((Fr.refl (foot b sv mb ++ [w.heap.size]) w).alloc ob).tr (k.mono (fun x _ c => by simpa [Value.ownBlock] using c))).mono (fun x hx c => by
      rcases List.mem_append.1 c with c | c
      · exact c
      · simp at c; omega)

set_option maxRecDepth 100000 in
set_option maxHeartbeats 8000000 in
theorem change_ok {b : Nat} {sv : Value} {mb : Nat} {L : List Tm} {w : World} (h : St w b sv mb L) (va : Value) (adds : List Ad) (hva : ∀ V, Fr (foot b sv mb) w V → Ads V va adds) (vr : Value) (rem : List Int) (hvr : ∀ V, Fr (foot b sv mb) w V → NIs V vr rem) (ha8 : adds.length ≤ 8) (hr8 : rem.length ≤ 8) (hp : ∀ a ∈ adds, thr L.length a.p = true) (hl : L.length + 100 ≤ 1048576) :
    Calls Try.prog 35 #[.pointer (some ⟨b, 0, none⟩), va, vr] w fun e w' => e = .returned (.tuple #[.int .i64 (ls (chP L adds rem).1 (cI (chP L adds rem).2)).2.1, .int .i64 (ls (chP L adds rem).1 (cI (chP L adds rem).2)).2.2]) ∧ ∃ sv', SStep w w' b sv sv' mb (ls (chP L adds rem).1 (cI (chP L adds rem).2)).1 := by
  obtain ⟨aa, ca, rfl⟩ := (hva w (Fr.refl _ _)).shape
  obtain ⟨ar, cr, rfl⟩ := nis_shape (hvr w (Fr.refl _ _))
  obtain ⟨N, hN⟩ : ∃ N, N = adds.length := ⟨_, rfl⟩
  obtain ⟨M, hM⟩ : ∃ M, M = rem.length := ⟨_, rfl⟩
  obtain ⟨w0, hw0⟩ : ∃ w0, w0 = w.alloc (.cells #[.pointer (some ⟨b, 0, none⟩), .slice none 0 0, .int .i64 0] 77) := ⟨_, rfl⟩
  have HA0 : Hid (AS w0 w0 b sv sv mb L w.heap.size (.slice none 0 0) (.slice none 0 0) []) := by
    rw [hw0]
    exact AS.refl (h.bw (bwA' _ _)) (heap_alloc_new _ _) (NRow.nil _ _)
  obtain ⟨p, hp0⟩ : ∃ p, p = w.heap.size := ⟨_, rfl⟩
  obtain ⟨P1, hP1⟩ : ∃ P1, P1 = dats (L, []) [(N : Int)] := ⟨_, rfl⟩
  have l1 := dats_len [(N : Int)] (L, [])
  rw [← hP1] at l1
  simp only [List.length_cons, List.length_nil] at l1
  have K1 : Hid (Calls Try.prog 41 #[.pointer (some ⟨p, 0, none⟩), .slice (some ⟨w0.heap.size, 0, none⟩) 1 1] (w0.alloc (.cells #[.int .i64 (N : Int)] 3)) fun e w' => e = .returned (.tuple #[]) ∧ ∃ sv' lv', AS w0 w' b sv sv' mb P1.1 p (.slice none 0 0) lv' P1.2) := by
    have := (unhide HA0).data_new [(N : Int)] (fun z hz => by simp at hz; subst hz; unfold i64r; omega) (by simp; omega) (by simp) (by simp)
    rw [← hP1, ← hp0] at this
    refine Calls.mono this ?_
    rintro e w' ⟨h1, -, h2⟩
    exact ⟨h1, h2⟩
  have HG : Hid (∀ V, Fr (foot b sv mb ++ p :: (Value.slice none 0 0).ownBlock.toList) w0 V → Ads V (.slice aa N ca) adds ∧ NIs V (.slice ar M cr) rem) := fun V hV => by
    rw [hp0, hw0] at hV
    have := far0 hV
    rw [hN, hM]
    exact ⟨hva V this, hvr V this⟩
  have HE : Hid (∀ W sv' lv' X Y, AS w0 W b sv sv' mb X p (.slice none 0 0) lv' Y → SStep w W b sv sv' mb X) := fun W sv' lv' X Y A => by
    rw [hp0, hw0] at A
    exact A.sstep
  have HL2 : Hid (∀ k, k ≤ N → (adsP P1 (adds.take k)).1.length + 40 ≤ 1048576 ∧ (adsP P1 (adds.take k)).2.length ≤ 100) := fun k hk => by
    have := adsP_len (adds.take k) P1
    rw [List.length_take] at this
    omega
  have HP : Hid (∀ a ∈ adds, thr L.length a.p = true ∧ a.ok) := fun a ha => ⟨hp a ha, by obtain ⟨_, _, _, _, hz, _⟩ := hva w (Fr.refl _ _); exact hz a ha⟩
  have r4 := chP_rg rem hp (by omega)
  have l4 := chP_len L adds rem
  obtain ⟨P4, hP4⟩ : ∃ P4, P4 = chP L adds rem := ⟨_, rfl⟩
  rw [← hP4] at r4 l4 ⊢
  obtain ⟨P2, hP2⟩ : ∃ P2, P2 = adsP P1 adds := ⟨_, rfl⟩
  have l2 := adsP_len adds P1
  obtain ⟨P3, hP3⟩ : ∃ P3, P3 = dats P2 [(M : Int)] := ⟨_, rfl⟩
  have l3 := dats_len [(M : Int)] P2
  rw [← hP2] at l2
  rw [← hP3] at l3
  simp only [List.length_cons, List.length_nil] at l3
  have e4 : P4 = dats P3 rem := by rw [hP4, hP3, hP2, hP1, hN, hM]; rfl
  have KS3 : Hid (∀ W sv' lv', AS w0 W b sv sv' mb P2.1 p (.slice none 0 0) lv' P2.2 → Calls Try.prog 41 #[.pointer (some ⟨p, 0, none⟩), .slice (some ⟨W.heap.size, 0, none⟩) 1 1] (W.alloc (.cells #[.int .i64 (M : Int)] 3)) fun e w' => e = .returned (.tuple #[]) ∧ ∃ sv' lv', AS w0 w' b sv sv' mb P3.1 p (.slice none 0 0) lv' P3.2) := fun W sv' lv' A => by
    have := A.data_new [(M : Int)] (fun z hz => by simp at hz; subst hz; unfold i64r; omega) (by simp; omega) (by simp) (by omega)
    rw [show (P2.1, P2.2) = P2 from rfl, ← hP3] at this
    refine Calls.mono this ?_
    rintro e w' ⟨h1, -, h2⟩
    exact ⟨h1, h2⟩
  have KS4 : Hid (∀ W sv' lv', AS w0 W b sv sv' mb P3.1 p (.slice none 0 0) lv' P3.2 → Calls Try.prog 41 #[.pointer (some ⟨p, 0, none⟩), .slice ar M cr] W fun e w' => e = .returned (.tuple #[]) ∧ ∃ sv' lv', AS w0 w' b sv sv' mb P4.1 p (.slice none 0 0) lv' P4.2) := fun W sv' lv' A => by
    have := A.data_old (.slice ar M cr) rem (fun V hV => (unhide HG V hV).2) (by omega) (by omega) (by omega)
    rw [show (P3.1, P3.2) = P3 from rfl, ← e4] at this
    exact this
  have KS5 : Hid (∀ W sv' lv', AS w0 W b sv sv' mb P4.1 p (.slice none 0 0) lv' P4.2 → Calls Try.prog 43 #[.pointer (some ⟨p, 0, none⟩)] W fun e w' => e = .returned (.tuple #[.int .i64 (ls P4.1 (cI P4.2)).2.1, .int .i64 (ls P4.1 (cI P4.2)).2.2]) ∧ ∃ sv', SStep w w' b sv sv' mb (ls P4.1 (cI P4.2)).1) := fun W sv' lv' A => by
    refine (whole_all A.st p lv' P4.2 A.blk A.row r4 (by omega) (by omega)).mono ?_
    rintro e w' ⟨h1, sv2, s⟩
    exact ⟨h1, sv2, (unhide HE _ _ _ _ _ A).trans s⟩
  have HT : Hid (adsP P1 (adds.take N) = P2 ∧ adsP P1 (adds.take 0) = P1) := ⟨by rw [hP2, hN, List.take_of_length_le (Nat.le_refl _)], rfl⟩
  have hNb : (N : Int) ≤ 8 := by omega
  have HW := hide hw0
  have HPP := hide hp0
  have HN := hide hN
  have HLL := hide l1.2.1
  rw [← hN, ← hM]
  clear h hva hvr ha8 hr8 hp hl hN hM hw0 HA0 hp0 hP1 l1 r4 l4 hP4 hP2 l2 hP3 l3 e4
  generalize (ls P4.1 (cI P4.2)).2.1 = X at *
  generalize (ls P4.1 (cI P4.2)).2.2 = E at *
  generalize (ls P4.1 (cI P4.2)).1 = L5 at *
  go_enter Try.func35, Try.ntmps35
  go_upto_region 2 with fail
  rw [← unhide HW, ← unhide HPP]
  clear HW HPP
  go_wp2_with fail
  refine (unhide K1).mono ?_
  rintro e w1 ⟨rfl, sv1, lv1, a1⟩
  have A1 := hide a1
  clear a1 K1
  go_wp2_with fail
  go_loopw [19] (fun iv wr => ∃ (k : Nat), k ≤ N ∧ iv = .int .i64 (k : Int) ∧ Hid (∃ sv' lv', AS w0 wr b sv sv' mb (adsP P1 (adds.take k)).1 p (.slice none 0 0) lv' (adsP P1 (adds.take k)).2)) (fun iv _ => (N - intOf iv).toNat)
  case atStart => exact ⟨0, Nat.zero_le _, rfl, sv1, lv1, unhide A1⟩
  case round =>
    clear A1
    obtain ⟨k, hk, rfl, HR⟩ := hrel
    by_cases hlt : k < N
    · obtain ⟨z, hzk⟩ : ∃ z, adds[k]? = some z := ⟨_, List.getElem?_eq_getElem (by rw [← unhide HN]; exact hlt)⟩
      obtain ⟨sv2, lv2, A⟩ := unhide HR
      obtain ⟨hzt, hz1, hz2, hz3⟩ := unhide HP z (List.mem_of_getElem? hzk)
      obtain ⟨g, o, rfl, c0, c1, c2⟩ := (unhide HG wr A.fr).1.get hzk
      obtain ⟨q1, q2⟩ := unhide HL2 k hk
      have e5 := adsP_snoc P1 adds k z hzk
      have qp := adsP_len (adds.take k) P1
      obtain ⟨P, hP⟩ : ∃ P, P = adsP P1 (adds.take k) := ⟨_, rfl⟩
      rw [← hP] at A q1 q2 e5 qp
      obtain ⟨m, e, pb⟩ := z
      simp only at c0 c1 c2 hzt hz1 hz2 hz3
      obtain ⟨n, rfl⟩ : ∃ n : Nat, pb = n := ⟨pb.toNat, by have := thr_iff.1 hzt; omega⟩
      obtain ⟨Q, hQ⟩ : ∃ Q, Q = dats P [m, e] := ⟨_, rfl⟩
      have lq := dats_len [m, e] P
      rw [← hQ] at lq
      simp only [List.length_cons, List.length_nil] at lq
      obtain ⟨wa, hwa⟩ : ∃ wa, wa = wr.alloc (.cells #[.int .i64 m, .int .i64 e, .int .i64 (n : Int)] 65) := ⟨_, rfl⟩
      have ba : Below wr.heap.size wr wa := by rw [hwa]; exact bwA' _ _
      have bk : wa.heap[wr.heap.size]? = some (.cells #[.int .i64 m, .int .i64 e, .int .i64 (n : Int)] 65 (0, 0)) := by rw [hwa]; exact heap_alloc_new _ _
      have Aa := A.bw ba
      have d0 : wa.cell? ⟨wr.heap.size, 0, none⟩ = some (.int .i64 m) := blk_cell bk rfl
      have d1 : wa.cell? ⟨wr.heap.size, 1, none⟩ = some (.int .i64 e) := blk_cell bk rfl
      have KD : Hid (Calls Try.prog 41 #[.pointer (some ⟨p, 0, none⟩), .slice (some ⟨wa.heap.size, 0, none⟩) 2 2] (wa.alloc (.cells #[.int .i64 m, .int .i64 e] 3)) fun e w' => e = .returned (.tuple #[]) ∧ w'.cell? ⟨wr.heap.size, 2, none⟩ = some (.int .i64 (n : Int)) ∧ ∃ sv' lv', AS w0 w' b sv sv' mb Q.1 p (.slice none 0 0) lv' Q.2) := by
        have := Aa.data_new [m, e] (fun z hz => by
          simp at hz
          rcases hz with rfl | rfl
          · exact hz1
          · exact hz2) (by simp; omega) (by simp) (by omega)
        rw [show (P.1, P.2) = P from rfl, ← hQ] at this
        refine Calls.mono this ?_
        rintro e w' ⟨h1, hk, h2⟩
        exact ⟨h1, blk_cell (hk _ _ _ (by rw [Below.heap_alloc _ _ _ (lt_of_blk bk)]; exact bk) (by decide) (by decide) (by decide) (by decide)) rfl, h2⟩
      have KT : Hid (∀ W sv' lv', AS w0 W b sv sv' mb Q.1 p (.slice none 0 0) lv' Q.2 → Calls Try.prog 42 #[.pointer (some ⟨p, 0, none⟩), .slice (some ⟨W.heap.size, 0, none⟩) 1 1] (W.alloc (.cells #[.int .i64 (n : Int)] 3)) fun e w' => e = .returned (.tuple #[]) ∧ ∃ sv' lv', AS w0 w' b sv sv' mb (adsP P1 (adds.take (k + 1))).1 p (.slice none 0 0) lv' (adsP P1 (adds.take (k + 1))).2) := fun W sv' lv' A => by
        refine (A.terms_new n (by omega)).mono ?_
        rintro ee w' ⟨h1, -, lv2, h2⟩
        refine ⟨h1, sv', lv2, ?_⟩
        rw [e5, show adP P ⟨m, e, (n : Int)⟩ = (Q.1, Q.2 ++ [n]) from by rw [hQ]; simp [adP]]
        exact h2
      have HWA := hide hwa
      clear A HR hzk hzt hz1 hz2 hz3 q1 q2 e5 qp hP hQ lq hwa ba bk Aa
      go_upto_region 6 with fail
      rw [← unhide HWA]
      clear HWA
      go_wp2_with fail
      refine (unhide KD).mono ?_
      rintro e2 w3 ⟨rfl, d2, sv3, lv3, a3⟩
      have Q3 := hide (unhide KT _ _ _ a3)
      clear a3 KD KT d0 d1 c0 c1 c2
      go_wp2_with fail
      refine (unhide Q3).mono ?_
      rintro e2 w4 ⟨rfl, a4⟩
      have A4 := hide a4
      clear a4 Q3 d2
      go_wp2_with fail
      go_roundw
      case rel => exact ⟨k + 1, by omega, by go_num, A4⟩
      case measure => simp only [intOf]; omega
    · have e : k = N := by omega
      subst e
      obtain ⟨sv2, lv2, A⟩ := unhide HR
      rw [(unhide HT).1] at A
      have Q3 := hide (unhide KS3 _ _ _ A)
      clear A HR HP HG HL2 HE HT HN KS3
      go_wp2_with fail
      refine (unhide Q3).mono ?_
      rintro e w3 ⟨rfl, sv3, lv3, a3⟩
      have Q4 := hide (unhide KS4 _ _ _ a3)
      clear a3 Q3 KS4
      go_wp2_with fail
      refine (unhide Q4).mono ?_
      rintro e w4 ⟨rfl, sv4, lv4, a4⟩
      have Q5 := hide (unhide KS5 _ _ _ a4)
      clear a4 Q4 KS5
      go_wp2_with fail
      refine (unhide Q5).mono ?_
      rintro e w5 ⟨rfl, s5⟩
      have S5 := hide s5
      clear s5 Q5
      go_wp2
      go_ret2
      exact ⟨rfl, unhide S5⟩
end Go.Proofs.Ytokdflbajnecpaa.Tn.Ax
