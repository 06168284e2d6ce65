/- TermAlike: for every two lists of terms and every two numbers, the law answers true: two stores tell a term in the same way, whatever else they have, and in whatever order it came; unlike terms they tell apart. No condition (the law itself claims nothing of lists of more than 500). -/
import Derived.Test.YticljbimbbiedaaTmFrame
import Derived.Test.YticljbimbbiedaaTmAcW
import Derived.Test.YticljbimbbiedaaTmRDag
import Derived.Deep.RegionHeld3
namespace Go.Proofs.Yticljbimbbiedaa
open Go.ChangeShapes Go.WideShapes Go.ChangeAt Go.RowKit Go.Joins Go.Maps

theorem fillL_good (l L : List Tm) (h : Good L) : Good (fillL L l) := by
  induction l generalizing L with
  | nil => exact h
  | cons t l ih => exact ih _ (h.made t)
theorem Two.swap {w wr w1 : World} {b : Nat} {sv : Value} {mb rb rb1 : Nat} {rv rv1 : Value} {L R R1 : List Tm} (h : Two w wr b sv mb rb rv L R) (hb : Below wr.heap.size wr w1) (h1 : Rs w1 rb1 rv1 R1) (hl : ∀ x ∈ rfoot rb1 rv1, wr.heap.size ≤ x) : Two w w1 b sv mb rb1 rv1 L R1 :=
  ⟨h.st.bw hb, h1, h.low, fun x hx => Nat.le_trans h.bel.size (hl x hx), fun x hx c => by have := h.st.lt x hx; have := hl x c; omega, bw_tr h.bel hb⟩
theorem dag_any_nat {L : List Tm} {k : Nat} (h1 : 1 ≤ k) (h : k ≤ L.length) : dag L (k : Int) = outs L (ord L k) := by
  have : thr L.length (k : Int) = true := thr_iff.2 (by omega)
  simp [dag, this]
theorem dag_len {L : List Tm} (hG : Good L) (x : Int) : (dag L x).length ≤ 140737488355328 := by
  have hl := hG.len
  unfold dag
  split
  · rename_i c
    rw [outs_len]
    have := (ord_told hG (n := x.toNat) (by have := thr_iff.1 c; omega)).len
    omega
  · simp

/-- What stands at the law's last row. -/
structure Al (w W : World) (sb : Nat) (sv : Value) (mb rb : Nat) (rv : Value) (L R : List Tm) (mp g np cp : Nat) (ph : List Nat) (x fx : Nat) : Prop where
  ac : Ac w W sb sv mb rb rv L R mp (.slice (some ⟨g, 0, none⟩) np cp) ph
  c0 : W.cell? ⟨mp, 0, none⟩ = some (.slice (some ⟨g, 0, none⟩) np cp)
  c1 : W.cell? ⟨g, x, none⟩ = some (.int .i64 (fx : Int))
theorem Al.new {w W W' : World} {sb : Nat} {sv : Value} {mb rb : Nat} {rv : Value} {L R : List Tm} {mp g np cp : Nat} {ph : List Nat} {x fx : Nat} (h : Al w W sb sv mb rb rv L R mp g np cp ph x fx) (hb : Below W.heap.size W W') : Al w W' sb sv mb rb rv L R mp g np cp ph x fx :=
  ⟨h.ac.new hb, by rw [World.cell?_of_block (w := W) (hb.block _ (lt_of_cell h.c0))]; exact h.c0, by rw [World.cell?_of_block (w := W) (hb.block _ (lt_of_cell h.c1))]; exact h.c1⟩

set_option maxRecDepth 100000 in
set_option maxHeartbeats 20000000 in
theorem TermAlike_walk (w : World) (a1 : Option Addr) (cap1 : Nat) (l : List Tm) (h1 : Tms w (.slice a1 l.length cap1) l) (hok1 : ∀ t ∈ l, t.ok) (a2 : Option Addr) (cap2 : Nat) (r : List Tm) (h2 : Tms w (.slice a2 r.length cap2) r) (hok2 : ∀ t ∈ r, t.ok)
    (x : Int) (_x1 : -9223372036854775808 ≤ x) (_x2 : x ≤ 9223372036854775807) (y : Int) (_y1 : -9223372036854775808 ≤ y) (_y2 : y ≤ 9223372036854775807) :
    Calls Try.prog 6 #[.slice a1 l.length cap1, .slice a2 r.length cap2, .int .i64 x, .int .i64 y] w fun e w' => e = .returned (.bool true) ∧ Below w.heap.size w w' := by
  obtain ⟨hl1, hget1⟩ := h1.get
  obtain ⟨hl2, hget2⟩ := h2.get
  clear _x1 _x2 _y1 _y2
  by_cases hbig1 : 500 < l.length
  · have hb2 : (500 : Int) < (l.length : Int) := by omega
    have hb3 : (l.length : Int) ≤ 140737488355328 := by omega
    generalize l.length = N at *
    generalize r.length = M at *
    clear hbig1 hget1 hget2 h1 h2 hok1 hok2 hl1 hl2
    go_enter Try.func6, Try.ntmps6
    go_wp2_with fail
    go_ret
    exact ⟨rfl, Below.refl _ _⟩
  by_cases hbig2 : 500 < r.length
  · have hb2 : (500 : Int) < (r.length : Int) := by omega
    have hb3 : (r.length : Int) ≤ 140737488355328 := by omega
    have hb4 : ¬ ((500 : Int) < (l.length : Int)) := by omega
    generalize l.length = N at *
    generalize r.length = M at *
    clear hbig1 hbig2 hget1 hget2 h1 h2 hok1 hok2 hl1 hl2
    go_enter Try.func6, Try.ntmps6
    go_wp2_with fail
    go_ret
    exact ⟨rfl, Below.refl _ _⟩
  have KB := build_any w a1 cap1 l h1 hok1 (by omega)
  have hfl := fillL_len l []
  obtain ⟨L, hLe⟩ : ∃ L, L = fillL [] l := ⟨_, rfl⟩
  rw [← hLe] at KB hfl
  have hLl : L.length ≤ 500 := by simp at hfl; omega
  obtain ⟨N1, hN1⟩ : ∃ N, N = l.length := ⟨_, rfl⟩
  obtain ⟨N, hN⟩ : ∃ N, N = r.length := ⟨_, rfl⟩
  have hb1 : (N1 : Int) ≤ 500 := by omega
  have hb2 : (N : Int) ≤ 500 := by omega
  have hb3 : ¬ ((500 : Int) < (N1 : Int)) := by omega
  have hb4 : ¬ ((500 : Int) < (N : Int)) := by omega
  rw [← hN1] at KB
  rw [← hN, ← hN1]
  have HL := hide (And.intro hN (And.intro hget2 (And.intro hok2 hLl)))
  clear hget1 hget2 h1 h2 hok1 hok2 hl1 hl2 hN hN1 hfl hLe hbig1 hbig2 hLl
  go_enter Try.func6, Try.ntmps6
  go_wp2_with fail
  refine KB.mono ?_
  rintro e w1 ⟨sb, sv, mb, rb0, rv0, rfl, T1⟩
  go_wp2_with fail
  refine (rnew_any w1).mono ?_
  rintro e w2 ⟨rb, rfl, hr2, hrl2, hbr2⟩
  have T2 := T1.swap hbr2 hr2 hrl2
  have HS : Hid (Two w w2 sb sv mb rb (.slice none 0 0) L [] ∧ ([] : List Tm).length ≤ 0) := ⟨T2, by simp⟩
  clear T1 hr2 hrl2 hbr2 T2 KB
  go_wp2_with fail
  go_loopw [13] (fun iv wr => ∃ (i : Nat) (rv : Value) (R : List Tm), i ≤ N ∧ iv = .int .i64 (i : Int) ∧ Hid (Two w wr sb sv mb rb rv L R ∧ R.length ≤ i)) (fun iv _ => (N - intOf iv).toNat)
  case atStart => exact ⟨0, _, [], by omega, rfl, HS⟩
  case round =>
    clear HS
    obtain ⟨i, rv, R, hi, rfl, HS⟩ := hrel
    by_cases hlt : i < N
    · obtain ⟨hN, hget, hok, _⟩ := unhide HL
      obtain ⟨t, ht⟩ : ∃ t, r[i]? = some t := ⟨_, List.getElem?_eq_getElem (by omega)⟩
      obtain ⟨g, o, rfl, hT⟩ := hget i t ht
      have hto := hok t (List.mem_of_getElem? ht)
      have hS := unhide HS
      have K1 := rmake_any rb rv R t wr hS.1.rs hto
      have hl1 : (mkL R t).length ≤ i + 1 := by have := mkL_len R t; have := hS.2; omega
      have HM := hide hl1
      have hi1 : (i : Int) < (N : Int) := by omega
      obtain ⟨t0, t1, t2, t3⟩ := hT wr hS.1.bel
      clear hget hok ht hto hS hT hl1 hN
      go_wp2_with fail
      refine K1.mono ?_
      rintro e w3 ⟨rfl, rv2, s3⟩
      have HS2 : Hid (Two w w3 sb sv mb rb rv2 L (mkL R t) ∧ (mkL R t).length ≤ i + 1) := ⟨(unhide HS).1.stepR s3, unhide HM⟩
      clear K1 s3 t0 t1 t2 t3 HM
      go_wp2_with fail
      go_roundw
      case rel => exact ⟨i + 1, rv2, _, by omega, by go_num, HS2⟩
      case measure => simp only [intOf]; omega
    · obtain rfl : i = N := by omega
      clear hlt hi
      have hLl := (unhide HL).2.2.2
      have KA := across_any w wr sb sv mb rb rv L R (unhide HS).1 (by omega) (by have := (unhide HS).2; omega)
      have hLb : (L.length : Int) ≤ 500 := by omega
      clear HL HS hLl
      go_wp2_with fail
      refine KA.mono ?_
      rintro e w3 ⟨mp, lv, rv', R', ph, rfl, hAc, hAr, _⟩
      clear KA
      have KL := len_any sb sv mb L w3 hAc.two.st
      by_cases hin : (1 ≤ x ∧ 1 ≤ y) ∧ (x ≤ (L.length : Int) ∧ y ≤ (L.length : Int))
      · obtain ⟨⟨x1, y1⟩, x2, y2⟩ := hin
        obtain ⟨X, rfl⟩ : ∃ X : Nat, x = X := ⟨x.toNat, by omega⟩
        obtain ⟨Y, rfl⟩ : ∃ Y : Nat, y = Y := ⟨y.toNat, by omega⟩
        have hG := hAc.two.st.good
        have hGR := hAc.two.rs.good
        have hlen := hAr.len
        obtain ⟨g, cp, rfl, hgw⟩ := hAc.form (by omega)
        obtain ⟨np, hnp⟩ : ∃ np, np = ph.length := ⟨_, rfl⟩
        have hX2 : X < ph.length := by omega
        have hcx := hAc.at hX2
        have hc0 := hAc.cells.1
        have hM := hAr.maps hG
        have edm : outs R' (ord R' (ph.getD X 0)) = outs L (ord L X) := dag_map hG hGR hM (n := X) (by omega)
        have hrx := hAr.rng X (by omega) (by omega)
        have eX := dag_any_nat (L := L) (k := X) (by omega) (by omega)
        have eY := dag_any_nat (L := L) (k := Y) (by omega) (by omega)
        have eR := dag_any_nat (L := R') (k := ph.getD X 0) hrx.1 hrx.2
        have hd1 : dag L (X : Int) = dag R' ((ph.getD X 0 : Nat) : Int) := by rw [eX, eR, edm]
        have hd2 : decide (dag L (X : Int) = dag L (Y : Int)) = ((X : Int) == (Y : Int)) := by
          rw [eX, eY, Bool.eq_iff_iff, decide_eq_true_eq, beq_iff_eq]
          constructor
          · intro c; rw [dag_inj hG (by omega) (by omega) (by omega) (by omega) c]
          · intro c; have : X = Y := by omega
            rw [this]
        obtain ⟨fx, hfx⟩ : ∃ fx, fx = ph.getD X 0 := ⟨_, rfl⟩
        rw [← hfx] at hcx hd1
        rw [← hnp] at hAc hc0
        have hfb : (fx : Int) ≤ 1048577 := by have := hAr.bound X; omega
        have Q0 : Al w w3 sb sv mb rb rv' L R' mp g np cp ph X fx := ⟨hAc, hc0, hcx⟩
        have KX : ∀ W, Al w W sb sv mb rb rv' L R' mp g np cp ph X fx → Calls Try.prog 22 #[.pointer (some ⟨sb, 0, none⟩), .int .i64 (X : Int)] W fun e w' => ∃ v, e = .returned v ∧ Tms w' v (dag L (X : Int)) ∧ Below W.heap.size W w' ∧ Al w w' sb sv mb rb rv' L R' mp g np cp ph X fx := fun W hq => by
          refine (dag_any sb sv mb L X W hq.ac.two.st).mono ?_
          rintro e w' ⟨v, rfl, hr, hb⟩
          exact ⟨v, rfl, hr.tms (dag_len hG _), hb, hq.new hb⟩
        have KY : ∀ W, Al w W sb sv mb rb rv' L R' mp g np cp ph X fx → Calls Try.prog 22 #[.pointer (some ⟨sb, 0, none⟩), .int .i64 (Y : Int)] W fun e w' => ∃ v, e = .returned v ∧ Tms w' v (dag L (Y : Int)) ∧ Below W.heap.size W w' ∧ Al w w' sb sv mb rb rv' L R' mp g np cp ph X fx := fun W hq => by
          refine (dag_any sb sv mb L Y W hq.ac.two.st).mono ?_
          rintro e w' ⟨v, rfl, hr, hb⟩
          exact ⟨v, rfl, hr.tms (dag_len hG _), hb, hq.new hb⟩
        have KR : ∀ W, Al w W sb sv mb rb rv' L R' mp g np cp ph X fx → Calls Try.prog 27 #[.pointer (some ⟨rb, 0, none⟩), .int .i64 (fx : Int)] W fun e w' => ∃ v, e = .returned v ∧ Tms w' v (dag R' (fx : Int)) ∧ Below W.heap.size W w' ∧ Al w w' sb sv mb rb rv' L R' mp g np cp ph X fx := fun W hq => by
          refine (rdag_any rb rv' R' fx W hq.ac.two.rs).mono ?_
          rintro e w' ⟨v, rfl, hr, hb⟩
          exact ⟨v, rfl, hr.tms (dag_len hGR _), hb, hq.new hb⟩
        have KS1 : ∀ W va vb, Al w W sb sv mb rb rv' L R' mp g np cp ph X fx → Tms W va (dag L (X : Int)) → Tms W vb (dag R' (fx : Int)) → Calls Try.prog 26 #[va, vb] W fun e w' => e = .returned (.bool true) ∧ Al w w' sb sv mb rb rv' L R' mp g np cp ph X fx := fun W va vb hq ha hb => by
          refine (same_any va vb _ _ W ha hb).mono ?_
          rintro e w' ⟨rfl, hbb⟩
          exact ⟨by rw [decide_eq_true hd1], hq.new hbb⟩
        have KS2 : ∀ W va vb, Al w W sb sv mb rb rv' L R' mp g np cp ph X fx → Tms W va (dag L (X : Int)) → Tms W vb (dag L (Y : Int)) → Calls Try.prog 26 #[va, vb] W fun e w' => e = .returned (.bool ((X : Int) == (Y : Int))) ∧ Al w w' sb sv mb rb rv' L R' mp g np cp ph X fx := fun W va vb hq ha hb => by
          refine (same_any va vb _ _ W ha hb).mono ?_
          rintro e w' ⟨rfl, hbb⟩
          exact ⟨by rw [hd2], hq.new hbb⟩
        have x2' : (X : Int) < (np : Int) := by omega
        have npb : (np : Int) ≤ 501 := by omega
        have x3 : ¬ ((L.length : Int) < (X : Int)) := by omega
        have y3 : ¬ ((L.length : Int) < (Y : Int)) := by omega
        have x4 : ¬ ((X : Int) < 1) := by omega
        have y4 : ¬ ((Y : Int) < 1) := by omega
        have HK := hide (And.intro KX (And.intro KY (And.intro KR (And.intro KS1 (And.intro KS2 Q0)))))
        clear hG hGR hlen hgw hnp hX2 hM edm hrx eX eY eR hd1 hd2 hfx hAc hAr KX KY KR KS1 KS2 Q0
        go_wp2_with fail
        refine KL.mono ?_
        rintro e w4 ⟨rfl, rfl⟩
        go_wp2_with fail
        refine KL.mono ?_
        rintro e w4 ⟨rfl, rfl⟩
        clear KL
        go_wp2_with fail
        obtain ⟨KX, KY, KR, KS1, KS2, Q0⟩ := unhide HK
        have Q0' := Q0.new ((Below.refl w4.heap.size w4).drew)
        have S0 := And.intro Q0'.c0 Q0'.c1
        clear Q0
        clear HK
        have HX := hide KX
        have HY := hide KY
        have HR := hide KR
        have H1 := hide KS1
        have H2 := hide KS2
        clear KX KY KR KS1 KS2
        go_region_held3 (fun w' : World => w'.cell? ⟨mp, 0, none⟩ = some (.slice (some ⟨g, 0, none⟩) np cp) ∧ w'.cell? ⟨g, X, none⟩ = some (.int .i64 (fx : Int))) (first | exact S0 | exact S1 | exact S2 | exact S3 | exact S4 | exact S5 | exact S6 | exact S7) (first
          | (go_at_call 18; refine (lives_any _).mono ?_; rintro e z7 ⟨rfl, hb7⟩; have Q7 := Q6.new hb7; have S7 := And.intro Q7.c0 Q7.c1)
          | (go_at_call 27; refine (unhide HR _ Q1).mono ?_; rintro e z2 ⟨v2, rfl, m2, b2, Q2⟩; have m1' := m1.bw b2; have S2 := And.intro Q2.c0 Q2.c1)
          | (go_at_call 26; refine (unhide H2 _ _ _ Q5 m4' m5).mono ?_; rintro e z6 ⟨rfl, Q6⟩; have S6 := And.intro Q6.c0 Q6.c1)
          | (go_at_call 26; refine (unhide H1 _ _ _ Q2 m1' m2).mono ?_; rintro e z3 ⟨rfl, Q3⟩; have S3 := And.intro Q3.c0 Q3.c1)
          | (go_at_call 22; refine (unhide HY _ Q4).mono ?_; rintro e z5 ⟨v5, rfl, m5, b5, Q5⟩; have m4' := m4.bw b5; have S5 := And.intro Q5.c0 Q5.c1)
          | (go_at_call 22; refine (unhide HX _ Q3).mono ?_; rintro e z4 ⟨v4, rfl, m4, b4, Q4⟩; have S4 := And.intro Q4.c0 Q4.c1)
          | (go_at_call 22; refine (unhide HX _ Q0').mono ?_; rintro e z1 ⟨v1, rfl, m1, b1, Q1⟩; have S1 := And.intro Q1.c0 Q1.c1))
        all_goals
          go_wp2_with fail
          go_ret
          exact ⟨rfl, Q7.ac.two.bel⟩
      · have KD := dag_any sb sv mb L 0 w3 hAc.two.st
        have ed : dag L 0 = [] := by
          have : thr L.length 0 = false := thr_false.2 (by omega)
          simp [dag, this]
        rw [ed] at KD
        have hbl := hAc.two.bel
        have HB := hide hbl
        clear ed hbl hAc hAr
        by_cases c1 : 1 ≤ x
        · by_cases c2 : 1 ≤ y
          · by_cases c3 : x ≤ (L.length : Int)
            · have c4 : ¬ y ≤ (L.length : Int) := fun c => hin ⟨⟨c1, c2⟩, c3, c⟩
              clear hin
              go_wp2_with fail
              refine KL.mono ?_
              rintro e w4 ⟨rfl, rfl⟩
              go_wp2_with fail
              refine KL.mono ?_
              rintro e w4 ⟨rfl, rfl⟩
              go_wp2_with fail
              refine KD.mono ?_
              rintro e w5 ⟨v5, rfl, r5, hb5⟩
              obtain ⟨va, vc, hv5⟩ : ∃ a c, v5 = .slice a 0 c := by
                rcases r5.form with ⟨h, _⟩ | ⟨g, cap, h, _⟩
                · exact ⟨_, _, h⟩
                · exact ⟨_, _, h⟩
              subst hv5
              have hb6 := bw_tr (unhide HB) hb5
              clear r5 hb5 KD
              go_wp2_with fail
              refine (lives_any _).mono ?_
              rintro e w9 ⟨rfl, hb9⟩
              have hb := bw_tr hb6 hb9
              go_wp2_with fail
              go_ret
              exact ⟨rfl, hb⟩
            · clear hin
              go_wp2_with fail
              refine KL.mono ?_
              rintro e w4 ⟨rfl, rfl⟩
              go_wp2_with fail
              refine KD.mono ?_
              rintro e w5 ⟨v5, rfl, r5, hb5⟩
              obtain ⟨va, vc, hv5⟩ : ∃ a c, v5 = .slice a 0 c := by
                rcases r5.form with ⟨h, _⟩ | ⟨g, cap, h, _⟩
                · exact ⟨_, _, h⟩
                · exact ⟨_, _, h⟩
              subst hv5
              have hb6 := bw_tr (unhide HB) hb5
              clear r5 hb5 KD
              go_wp2_with fail
              refine (lives_any _).mono ?_
              rintro e w9 ⟨rfl, hb9⟩
              have hb := bw_tr hb6 hb9
              go_wp2_with fail
              go_ret
              exact ⟨rfl, hb⟩
          · clear hin
            go_wp2_with fail
            refine KD.mono ?_
            rintro e w5 ⟨v5, rfl, r5, hb5⟩
            obtain ⟨va, vc, hv5⟩ : ∃ a c, v5 = .slice a 0 c := by
              rcases r5.form with ⟨h, _⟩ | ⟨g, cap, h, _⟩
              · exact ⟨_, _, h⟩
              · exact ⟨_, _, h⟩
            subst hv5
            have hb6 := bw_tr (unhide HB) hb5
            clear r5 hb5 KD
            go_wp2_with fail
            refine (lives_any _).mono ?_
            rintro e w9 ⟨rfl, hb9⟩
            have hb := bw_tr hb6 hb9
            go_wp2_with fail
            go_ret
            exact ⟨rfl, hb⟩
        · clear hin
          go_wp2_with fail
          refine KD.mono ?_
          rintro e w5 ⟨v5, rfl, r5, hb5⟩
          obtain ⟨va, vc, hv5⟩ : ∃ a c, v5 = .slice a 0 c := by
            rcases r5.form with ⟨h, _⟩ | ⟨g, cap, h, _⟩
            · exact ⟨_, _, h⟩
            · exact ⟨_, _, h⟩
          subst hv5
          have hb6 := bw_tr (unhide HB) hb5
          clear r5 hb5 KD
          go_wp2_with fail
          refine (lives_any _).mono ?_
          rintro e w9 ⟨rfl, hb9⟩
          have hb := bw_tr hb6 hb9
          go_wp2_with fail
          go_ret
          exact ⟨rfl, hb⟩

set_option maxRecDepth 100000 in
theorem TermAlike_lifted (os : Os) (started : os.Started) (H : Type) (enc : TypeId × Value → H) :
    ReturnsInHanded {} Try.checked os 6 .any (Rows.termAlikeSpec.pre6 enc Try.prog Try.f6 Rows.termAlikeRow.domain false) (Rows.termAlikeSpec.post enc Try.prog Try.f6 false true false false) := by
  refine returnsInHanded_of_change_sized (C := Try.checked) own started (by kernel_rfl) Try.func6
    (ChangeSpec.witness6 (enc := enc) (C := Try.checked) false ⟨#[], #[.slice none 0 0, .slice none 0 0, .int .i64 0, .int .i64 0], []⟩ 8 (by kernel_rfl) (by kernel_rfl) (by kernel_rfl) (by kernel_rfl)) ?_
  intro W base args ds gs before hval0 hW hcnd hsz0 _
  have hval : ∀ (j : Nat) t v, Try.f6.params[j]? = some t → args[j]? = some v → Value.okWide Try.prog W .any base t v := hval0
  have hsz : (DataW.weightsEach Try.prog (Try.f6.params.toList ++ Rows.termAlikeSpec.plain.varTypes Try.prog) (ds ++ gs)).all (· ≤ reachBytes) = true := hsz0
  have hW' := hW
  obtain ⟨p, q, hA0, hV, rfl, hfz, hnd⟩ := hW
  have hA : DataW.TrodAll enc Try.prog W 0 (fun _ => true) true Try.f6.params.toList args.toList ds p := hA0
  rw [Try.params6] at hA hval hsz
  obtain ⟨v0, vs0, d0, ds0, p0, q0, hargs, rfl, rfl, h0, r0⟩ := trodAll_cons hA
  obtain ⟨v1, vs1, d1, ds1, p1, q1, rfl, rfl, rfl, h1, r1⟩ := trodAll_cons r0
  obtain ⟨v2, vs2, d2, ds2, p2, q2, rfl, rfl, rfl, h2, r2⟩ := trodAll_cons r1
  obtain ⟨v3, vs3, d3, ds3, p3, q3, rfl, rfl, rfl, h3, r3⟩ := trodAll_cons r2
  obtain ⟨rfl, rfl, rfl⟩ := trodAll_nil r3
  obtain rfl : args = #[v0, v1, v2, v3] := by cases args; simp_all
  obtain ⟨rfl, rfl⟩ := trodVars_none hV
  have k0 := h0
  have lt0 : ∀ x ∈ p0, x.block < W.heap.size := by obtain ⟨m, hm⟩ := k0; exact DataW.trod_lt m _ _ _ hm
  obtain ⟨a0, len0, cap0, rfl⟩ := okWide_slice Try.underlying22 (hval 0 22 v0 rfl rfl)
  obtain ⟨l0, rfl, i0, o0⟩ := open_terms h0 (fun n hn => by simpa using List.all_eq_true.1 hsz n (DataW.weights_mem_each (j := 0) (t := 22) rfl rfl n hn))
  have k1 := h1
  have lt1 : ∀ x ∈ p1, x.block < W.heap.size := by obtain ⟨m, hm⟩ := k1; exact DataW.trod_lt m _ _ _ hm
  obtain ⟨a1, len1, cap1, rfl⟩ := okWide_slice Try.underlying22 (hval 1 22 v1 rfl rfl)
  obtain ⟨l1, rfl, i1, o1⟩ := open_terms h1 (fun n hn => by simpa using List.all_eq_true.1 hsz n (DataW.weights_mem_each (j := 1) (t := 22) rfl rfl n hn))
  obtain ⟨a2, rfl, rfl, rfl, w2⟩ := open_int Try.underlying3 (hval 2 3 v2 rfl rfl) h2
  obtain ⟨a3, rfl, rfl, rfl, w3⟩ := open_int Try.underlying3 (hval 3 3 v3 rfl rfl) h3
  clear hA0 hval0
  refine (TermAlike_walk W a0 cap0 l0 i0 o0 a1 cap1 l1 i1 o1 a2 (bounds64 w2).1 (bounds64 w2).2 a3 (bounds64 w3).1 (bounds64 w3).2).mono fun e W' ⟨he, bel⟩ => ?_
  subst he
  exact ⟨_, rfl, _, _, _, [], _, [], hW', trodAll_mk1 (shut_bool Try.underlying4 _), (trodAll_cons_mk (Below.trod laidOut (by kernel_rfl) (of_decide_eq_true (by kernel_rfl)) k0 bel lt0) (trodAll_cons_mk (Below.trod laidOut (by kernel_rfl) (of_decide_eq_true (by kernel_rfl)) k1 bel lt1) (trodAll_cons_mk (shut_int Try.underlying3 w2) (trodAll_cons_mk (shut_int Try.underlying3 w3) trodAll_mk0)))), rfl, bel.frame _, fun h => by cases h⟩

theorem TermAlike_over : Rows.termAlikeRow.holds Try.pinned (OpenSpec.ofChange Rows.termAlikeSpec) :=
  OpenClaim.holds_of_wide 6 Try.f6 rfl rfl rfl rfl rfl rfl rfl ⟨rfl, rfl, rfl, rfl, rfl⟩ rfl rfl rfl rfl rfl (by kernel_rfl) Try.func6 (by kernel_rfl)
    (of_decide_eq_true (by kernel_rfl)) (by unfold Func.isWrapper; first | (rw [if_pos (by decide +kernel)]; kernel_rfl) | (rw [if_neg (by decide +kernel)]; exact ⟨rfl, rfl⟩))
    (fun os started H enc _ => TermAlike_lifted os started H enc)

theorem TermAlike_holds : Rows.TermAlikeSaid := TermAlike_over
#print axioms TermAlike_holds

end Go.Proofs.Yticljbimbbiedaa
