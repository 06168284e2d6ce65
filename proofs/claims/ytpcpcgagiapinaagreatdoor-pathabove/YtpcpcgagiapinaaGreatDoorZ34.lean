/- Texts joined: PdJ PdL. -/
import Derived.Test.YtpcpcgagiapinaaGreatDoorZ32
import Derived.Test.YtpcpcgagiapinaaGreatDoorZ30
import Derived.Test.YtpcpcgagiapinaaGreatDoorPdF
import Derived.Test.YtpcpcgagiapinaaGreatDoorZ31
import Derived.Test.YtpcpcgagiapinaaGreatDoorPcT
/- Across beside things: what stays, and that each term is the same. The document's store grows alone. No walk is in this text. -/
namespace Go.Proofs.YtpcpcgagiapinaaGreatDoor.Tn.Pa
open Go.RowKit Go.Maps
theorem pub_prefix (p : List Tm × Nat) : ∃ q, (pub p).1 = p.1 ++ q := by
  obtain ⟨q1, e1⟩ := mkL_prefix p.1 ⟨4, 2, (p.2 : Int), 0⟩
  obtain ⟨q2, e2⟩ := mkL_prefix (key p).1 ⟨5, 0, ((key p).2 : Int), 0⟩
  have e1' : (key p).1 = p.1 ++ q1 := e1
  exact ⟨q1 ++ q2, by show mkL (key p).1 _ = _; rw [e2, e1', List.append_assoc]⟩
theorem nxt_prefix (p : List Tm × Nat) : ∃ q, (nxt p).1 = p.1 ++ q := mkL_prefix _ _
theorem dF_prefix (T : List Nd) (L : List Tm) : ∀ (xs : List Int) (st : DSt), (∃ q, st.2.1.1 = L ++ q) → ∃ q, (xs.foldl (dStep T) st).2.1.1 = L ++ q
  | [], _, h => h
  | x :: xs, st, h => by
    rw [List.foldl_cons]
    refine dF_prefix T L xs _ ?_
    obtain ⟨q, e⟩ := h
    obtain ⟨q1, e1⟩ := nxt_prefix st.2.1
    obtain ⟨q2, e2⟩ := pub_prefix (nxt st.2.1)
    have e3 : ∃ q, (kept (nxt st.2.1)).1 = L ++ q := ⟨q ++ q1 ++ q2, by show (pub (nxt st.2.1)).1 = _; rw [e2, e1, e, List.append_assoc, List.append_assoc, List.append_assoc]⟩
    unfold dStep
    split
    · split
      · exact e3
      · exact e3
    · exact ⟨q, e⟩
theorem dW_prefix (T : List Nd) (p : List Tm × Nat) (node : Int) (xs : List Int) : ∃ q, (dW T p node xs).2.1.1 = p.1 ++ q := by
  refine dF_prefix T p.1 xs _ ?_
  unfold dBeg
  split
  · exact pub_prefix p
  · exact pub_prefix p
theorem EF.two {w W : World} {b : Nat} {sv : Value} {mb rb : Nat} {rv : Value} {L R : List Tm} (h : Two w W b sv mb rb rv L R) : EF [] w W [resS b sv mb L, resQ rb rv R] := by
  refine ⟨Fr.ofBelow h.bel, ?_, ?_, ?_⟩
  · intro r hr
    simp at hr
    rcases hr with rfl | rfl
    · exact h.st
    · exact h.rs
  · intro r hr x hx
    simp at hr
    rcases hr with rfl | rfl
    · exact Or.inr (h.low x hx)
    · exact Or.inr (h.rlow x hx)
  · exact List.Pairwise.cons (fun s hs x hx c => by simp at hs; subst hs; exact h.dis x hx c) (by simp)
theorem EF.toTwo {w W : World} {b : Nat} {sv : Value} {mb rb : Nat} {rv : Value} {L R : List Tm} {rs : List Res} (h : EF [] w W (resS b sv mb L :: resQ rb rv R :: rs)) : Two w W b sv mb rb rv L R :=
  ⟨h.hd, h.nth 1 rfl, fun x hx => (h.low (resS b sv mb L) (by simp) x hx).resolve_left (by simp), fun x hx => (h.low (resQ rb rv R) (by simp) x hx).resolve_left (by simp), fun x hx c => (List.pairwise_cons.1 h.dis).1 (resQ rb rv R) (by simp) x hx c, h.toB⟩
theorem acrossP {w W : World} {b : Nat} {sv : Value} {mb rb : Nat} {rv : Value} {L R : List Tm} {rs : List Res} (h : EF [] w W (resS b sv mb L :: resQ rb rv R :: rs)) (hp : ∃ q, R = L ++ q) (hl : L.length ≤ 3000) (hR : R.length ≤ 3000) :
    Calls Tryz.prog 12 #[.pointer (some ⟨b, 0, none⟩), .pointer (some ⟨rb, 0, none⟩)] W fun e W' => ∃ mp, e = .returned (.tuple #[.pointer (some ⟨mp, 0, none⟩), .bool true]) ∧ Below w.heap.size w W' ∧ (∀ r ∈ rs, r.P W') ∧ ∀ V, Below W'.heap.size W' V → ∀ k, k ≤ L.length → Calls Tryz.prog 14 #[.pointer (some ⟨mp, 0, none⟩), .int .i64 (k : Int), .int .i64 (k : Int)] V fun e w' => e = .returned (.bool true) ∧ w' = V := by
  refine (acrossx_any w W b sv mb rb rv L R h.toTwo hl hR).mono ?_
  rintro e w' ⟨mp, lv, rv', R', ph, h1, hAc, hAr, hpre, hfr⟩
  have hlen := hAr.len
  have hpre2 : ∃ x, R' = L ++ x := by
    obtain ⟨q, e⟩ := hp
    obtain ⟨x, f⟩ := hpre
    exact ⟨q ++ x, by rw [f, e, List.append_assoc]⟩
  have hid := hAr.ident hAc.two.st.good hpre2
  obtain ⟨g9, cp, rfl, _⟩ := hAc.form (by omega)
  have hd := List.pairwise_cons.1 (List.pairwise_cons.1 h.dis).2
  refine ⟨mp, h1, hAc.two.bel, fun r hr => r.keep W w' (rfoot rb rv) (h.hold r (by simp [hr])) hfr (fun x hx c => hd.1 r hr x c hx), fun V hV k hk => ?_⟩
  have c1 := hAc.at (i := k) (by omega)
  rw [hid k hk] at c1
  refine msame_any mp g9 ph.length cp k V (by omega) (by omega) ?_ ?_
  · rw [hV.cell (lt_of_cell hAc.cells.1)]; exact hAc.cells.1
  · rw [hV.cell (lt_of_cell c1)]; exact c1
end Go.Proofs.YtpcpcgagiapinaaGreatDoor.Tn.Pa

/- Both Aboves, one behind the other, then Across, Map.Keys and Map.Same. -/
namespace Go.Proofs.YtpcpcgagiapinaaGreatDoor.Tn.Pa
open Go.RowKit Go.Maps
theorem trd_fixS {S : List Nat} {w0 w : World} {v : Value} {T : List Nd} (h : Trd w0 v T) (hb : Below w0.heap.size w0 w) (hlow : ∀ x ∈ S, w0.heap.size ≤ x) : Tfix (fun W => Fr S w W) v T := by
  rcases h.form with ⟨h1, h2⟩ | ⟨g, o, c, hv, hg, hc⟩
  · exact Or.inl ⟨h1, h2⟩
  · have hex : ∀ i, ∃ u, i < T.length → NdC w0 g (o + i * 4) (ndAt T i) u ∧ Nums w0 u (ndAt T i).un := fun i => by
      by_cases hi : i < T.length
      · obtain ⟨u, q⟩ := hc i _ (ndAt_of hi)
        exact ⟨u, fun _ => q⟩
      · exact ⟨default, fun c => absurd c hi⟩
    refine Or.inr ⟨g, o, c, fun i => Classical.choose (hex i), hv, fun W hW i hi => ?_⟩
    obtain ⟨q1, q2⟩ := Classical.choose_spec (hex i) hi
    have hbW : Below w0.heap.size w0 W := Fr.toBase hb hW hlow
    exact ⟨q1.bw hg hbW, q2.bw hbW⟩
def abvE (w : World) (b rb : Nat) (v1 v2 : Value) (c : Nat) (W2 : World) : Prop :=
  Below w.heap.size w W2 ∧ Calls Tryz.prog 12 #[.pointer (some ⟨b, 0, none⟩), .pointer (some ⟨rb, 0, none⟩)] W2 fun e W3 => ∃ mp, e = .returned (.tuple #[.pointer (some ⟨mp, 0, none⟩), .bool true]) ∧ Calls Tryz.prog 20 #[.pointer (some ⟨mp, 0, none⟩), v1, v2] W3 fun e W4 => e = .returned (.bool true) ∧ Below w.heap.size w W4 ∧ Calls Tryz.prog 14 #[.pointer (some ⟨mp, 0, none⟩), .int .i64 (c : Int), .int .i64 (c : Int)] W4 fun e W5 => e = .returned (.bool true) ∧ W5 = W4
theorem abv_end {w W : World} {b : Nat} {sv : Value} {mb rb : Nat} {rv : Value} {L R : List Tm} {v1 v2 : Value} {l : List (Int × Int)} {c : Nat} (h : EF [] w W [resS b sv mb L, resQ rb rv R, resW 71 2 v1 l.length (kysC l), resW 71 2 v2 l.length (kysC l)]) (hp : ∃ q, R = L ++ q) (hl : L.length ≤ 3000) (hR : R.length ≤ 3000) (hc : c ≤ L.length) (hk : ∀ p ∈ l, ∃ k : Nat, p.2 = (k : Int) ∧ k ≤ L.length) (hll : l.length ≤ 1000) : abvE w b rb v1 v2 c W := by
  refine ⟨h.toB, (acrossP h hp hl hR).mono ?_⟩
  rintro e W3 ⟨mp, rfl, hb, hrs, hS⟩
  refine ⟨mp, rfl, (mpKeys_same (kfix_own (hrs (resW 71 2 v1 l.length (kysC l)) (by simp)) rfl) (kfix_own (hrs (resW 71 2 v2 l.length (kysC l)) (by simp)) rfl) hll (fun W' hW p hp => ?_)).mono ?_⟩
  · obtain ⟨k, e, hkl⟩ := hk p hp
    rw [e]
    exact hS W' hW k hkl
  · rintro e W4 ⟨rfl, b4⟩
    exact ⟨rfl, bw_tr hb b4, hS W4 b4 c hc⟩
theorem orgK_nat (L : List Tm) (P : Int) : ∃ k : Nat, orgK L P = (k : Int) ∧ k ≤ L.length := by
  unfold orgK
  split
  · next hB =>
    unfold orgB at hB
    simp only [Bool.and_eq_true, decide_eq_true_eq] at hB
    have := thr_iff.1 (getT_kd (L := L) (x := (getT L P).a) (by rw [hB.2]; simp))
    exact ⟨(getT L P).a.toNat, by omega, by omega⟩
  · exact ⟨0, rfl, by omega⟩
theorem abF_keys {L : List Tm} {T : List Nd} {node secret : Int} : ∀ (xs : List Int) (o : Option AbSt), (∀ st, o = some st → ∀ p ∈ st.1, ∃ k : Nat, p.2 = (k : Int) ∧ k ≤ L.length) → ∀ st, xs.foldl (ab1 L T node secret) o = some st → ∀ p ∈ st.1, ∃ k : Nat, p.2 = (k : Int) ∧ k ≤ L.length
  | [], _, h => h
  | x :: xs, o, h => by
    intro st hst
    rw [List.foldl_cons] at hst
    refine abF_keys xs _ ?_ st hst
    intro st' h'
    unfold ab1 at h'
    cases o with
    | none => cases h'
    | some s0 =>
      simp only [Option.bind_some] at h'
      split at h'
      · cases h'
        intro p hp
        rcases List.mem_append.1 hp with q | q
        · exact h s0 rfl p q
        · simp at q
          subst q
          exact orgK_nat L _
      · cases h'
theorem abv9 {w W : World} {b : Nat} {sv : Value} {mb rb : Nat} {rv : Value} {L : List Tm} {v : Value} {T : List Nd} (h : EF [] w W [resS b sv mb L, resQ rb rv L]) (ht : Trd w v T) (hT : Tab w) (node secret : Int) (hl : L.length ≤ 2000) :
    Calls Tryz.prog 18 #[.pointer (some ⟨b, 0, none⟩), .agg #[v], .int .i64 node, .int .i64 secret] W fun e W1 => ∃ v1 c1 e1, e = .returned (.tuple #[v1, .int .i64 ((c1 : Nat) : Int), .int .i64 e1]) ∧ Below w.heap.size w W1 ∧ Calls Tryz.prog 19 #[.pointer (some ⟨rb, 0, none⟩), .agg #[v], .int .i64 node, .int .i64 secret] W1 fun e W2 => ∃ v2, e = .returned (.tuple #[v2, .int .i64 (c1 : Int), .int .i64 e1]) ∧ abvE w b rb v1 v2 c1 W2 := by
  have hS : St W b sv mb L := h.hd
  have hQ : Rs W rb rv L := h.nth 1 rfl
  have hlow : ∀ x ∈ foot b sv mb, w.heap.size ≤ x := h.toTwo.low
  have hrlow : ∀ x ∈ rfoot rb rv, w.heap.size ≤ x := h.toTwo.rlow
  have hG : Good L := hS.good
  by_cases hbad : (heldB L T && decide (0 ≤ node) && decide (node < (T.length : Int)) && thr L.length secret) = true
  · simp only [Bool.and_eq_true, decide_eq_true_eq] at hbad
    obtain ⟨⟨⟨hh, hn0⟩, hn1⟩, hs⟩ := hbad
    obtain ⟨nd, rfl⟩ : ∃ nd : Nat, node = (nd : Int) := ⟨node.toNat, by omega⟩
    have hs' := thr_iff.1 hs
    obtain ⟨s, rfl⟩ : ∃ s : Nat, secret = (s : Int) := ⟨secret.toNat, by omega⟩
    have hg : Gd (L, s) := ⟨by simp only; omega, by simp only; omega⟩
    have hm := held_may hh
    have hnd : nd < T.length := by omega
    have ok := mayB_okn hm (by omega)
    have hpub : pubsB L T = true := by have := hh; rw [show heldB L T = (mayB T && pubsB L T) from rfl] at this; simp at this; exact this.2
    have hpz : pubAt T (nd : Int) = 0 ∨ thr L.length (pubAt T (nd : Int)) = true := by
      unfold pubsB at hpub
      have := List.all_eq_true.1 hpub (ndAt T nd) (ndAt_mem hnd)
      simpa [pubAt] using this
    have hov : ∀ y ∈ ov T (nd : Int), thr L.length (pubAt T y) = true := fun y hy => by
      obtain ⟨m, rfl, hmt⟩ := ov_at ok hnd y hy
      have hp := (List.mem_filter.1 hy).2
      have := held_thr hh hmt (by simpa using hp)
      simpa [pubAt] using this
    have key := abM_all hG hg (by omega) hpz (ov T (nd : Int)).length (ov T (nd : Int)) rfl (ov_nodup ok hnd) hov
    have hov3 := ov_len ok hnd
    have hdf := dW_facts (T := T) hg (nd : Int) (ov T (nd : Int)) (by simp only; omega)
    simp only at hdf
    refine (above_ok hS (trd_fixS ht h.toB hlow) (fun V hV => hT.bw (Fr.toBase h.toB hV hlow)) hh nd hnd (s : Int) hs (by omega)).mono ?_
    intro e W1 hpost
    have habd : abR L T (nd : Int) (s : Int) = abF L T (nd : Int) (s : Int) ((nd : Int) :: ov T (nd : Int)) := rfl
    cases hr : abF L T (nd : Int) (s : Int) ((nd : Int) :: ov T (nd : Int)) with
    | none =>
      rw [habd, hr] at hpost
      rw [hr] at key
      obtain ⟨rfl, k⟩ := hpost
      have E1 := h.join k
      refine ⟨nilV, 0, 12, rfl, E1.toB, ?_⟩
      have E1' := E1.up 1 rfl
      refine (dAbove_ok (show Rs W1 rb rv L from E1'.hd) (trd_fixS ht E1.toB hrlow) hm hpub nd hnd s hg (by omega)).mono ?_
      intro e W2 hp2
      unfold dPost at hp2
      rw [show (dW T (L, s) (nd : Int) (ov T (nd : Int))).1 = false from key] at hp2
      simp only [Bool.false_eq_true, if_false] at hp2
      obtain ⟨sv', rfl, k2⟩ := hp2
      have E2 := (E1'.join k2).up 1 rfl
      refine ⟨nilV, rfl, abv_end (L := L) (R := (dW T (L, s) (nd : Int) (ov T (nd : Int))).2.1.1) (l := []) ((((((E2.nilW 71 2).nilW 71 2).up 2 rfl).up 3 rfl).up 1 rfl)) (dW_prefix T (L, s) (nd : Int) (ov T (nd : Int))) (by omega) (by omega) (by omega) (by simp) (by simp)⟩
    | some st =>
      rw [habd, hr] at hpost
      rw [hr] at key
      obtain ⟨k1, k2, k3, k4⟩ := key
      obtain ⟨lv, rfl, sv1, k⟩ := hpost
      have E1 := h.join k
      have hkk := abF_keys _ (some ([], (s : Int))) (fun st' q => by cases q; simp) st hr
      have hlen : st.1.length ≤ 4 := by have := congrArg List.length k4; simp at this; omega
      have enx : nxt (L, st.2.toNat) = (mkL L ⟨4, 1, st.2, 0⟩, mkN L ⟨4, 1, st.2, 0⟩) := by unfold nxt; simp only [k2]
      refine ⟨lv, mkN L ⟨4, 1, st.2, 0⟩, 0, rfl, E1.toB, ?_⟩
      have E1' := E1.up 2 rfl
      refine (dAbove_ok (show Rs W1 rb rv L from E1'.hd) (trd_fixS ht E1.toB hrlow) hm hpub nd hnd s hg (by omega)).mono ?_
      intro e W2 hp2
      unfold dPost at hp2
      rw [k1] at hp2
      simp only [if_true] at hp2
      obtain ⟨lv2, rv2, rfl, q2⟩ := hp2
      rw [enx] at q2 ⊢
      have E2 := E1'.join q2
      have hsl : (srt st.1).length = st.1.length := srt_len _
      have hL' := mkL_len L ⟨4, 1, st.2, 0⟩
      have hL2 := mkL_le L ⟨4, 1, st.2, 0⟩
      refine ⟨lv2, rfl, abv_end (sv := sv1) (mb := mb) (rv := rv2) (L := mkL L ⟨4, 1, st.2, 0⟩) (R := mkL L ⟨4, 1, st.2, 0⟩) (l := srt st.1) ?_ ⟨[], by simp⟩ (by omega) (by omega) (mkN_le _ _) (fun p hp => ?_) (by omega)⟩
      · rw [hsl]
        rw [hsl] at E2
        exact (((E2.up 1 rfl).up 3 rfl).up 2 rfl).up 3 rfl
      · obtain ⟨k, e, hk⟩ := hkk p ((srt_perm _).mem_iff.1 hp)
        exact ⟨k, e, by omega⟩
  · have hb : (heldB L T && decide (0 ≤ node) && decide (node < (T.length : Int)) && thr L.length secret) = false := by simpa using hbad
    refine (above_err hS (ht.bw h.toB) (hT.bw h.toB) node secret hb).mono ?_
    rintro e W1 ⟨rfl, b1⟩
    have E1 := h.new b1
    refine ⟨nilV, 0, 1, rfl, E1.toB, (dAbove_err (show Rs W1 rb rv L from E1.nth 1 rfl) (ht.bw E1.toB) node secret hb).mono ?_⟩
    rintro e W2 ⟨rfl, b2⟩
    have E2 := E1.new b2
    exact ⟨nilV, rfl, abv_end (L := L) (R := L) (l := []) (((((E2.nilW 71 2).nilW 71 2).up 2 rfl).up 3 rfl).up 1 rfl) ⟨[], by simp⟩ (by omega) (by omega) (by omega) (by simp) (by simp)⟩
end Go.Proofs.YtpcpcgagiapinaaGreatDoor.Tn.Pa
