/- DeduceTells: for every list of terms, of known numbers, and of terms that are made later, the law answers true: of every number it is told as the document says whether it follows. No condition (the law itself claims nothing of more than 600 terms, 1000 known ones or 100 later ones). -/
import Derived.Test.YtfpimmbjjcpobaaTmFrameN
import Derived.Test.YtfpimmbjjcpobaaDdI
import Derived.Test.YtfpimmbjjcpobaaDdPureB
import Derived.Test.YtfpimmbjjcpobaaDqE
import Derived.Test.YtfpimmbjjcpobaaDdJ
import Derived.Test.YtfpimmbjjcpobaaTmTwN
namespace Go.Proofs.Ytfpimmbjjcpobaa
open Go.ChangeShapes Go.WideShapes Go.ChangeAt Go.RowKit Go.Joins Go.Maps

theorem kHas_nil (x : Int) (w : World) : Calls Try.prog 14 #[.pointer none, .int .i64 x] w fun e w' => e = .returned (.bool false) ∧ w' = w := by
  go_enter Try.func14, Try.ntmps14
  go_wp2_with fail
  refine (kmissing_nil w).mono ?_
  rintro e w ⟨rfl, rfl⟩
  go_wp2_with fail
  go_ret
  exact ⟨rfl, rfl⟩
theorem kLearn_nil (x : Int) (w : World) : Calls Try.prog 15 #[.pointer none, .int .i64 x] w fun e w' => e = .returned (.int .i64 2) ∧ w' = w := by
  go_enter Try.func15, Try.ntmps15
  go_wp2_with fail
  refine (kmissing_nil w).mono ?_
  rintro e w ⟨rfl, rfl⟩
  go_wp2_with fail
  go_ret
  exact ⟨rfl, rfl⟩
/-- A copy with marks behind it. -/
def resT (g : Nat) (l : List Int) : Res := ⟨[g], fun w => Twint w g l, fun w w' S h hf hd => by
  unfold Twint at *
  rw [hf.block g (lt_of_blk h) (hd g (by simp))]; exact h, fun w h x hx => by simp at hx; subst hx; exact lt_of_blk h⟩
/-- What is known by both, beside both stores. -/
def T5 (w W : World) (ka qb b : Nat) (sv : Value) (mb rb : Nat) (rv : Value) (L R : List Tm) (K : Nat → Prop) : Prop := ∃ Zk Zq, Env w W (resK ka b L K Zk :: resS b sv mb L :: resQ qb rb R K Zq :: resR rb rv R :: [])
section
variable {w W : World} {ka qb b : Nat} {sv : Value} {mb rb : Nat} {rv : Value} {L R : List Tm} {K : Nat → Prop}
theorem T5.bel (h : T5 w W ka qb b sv mb rb rv L R K) : Below w.heap.size w W := by obtain ⟨_, _, h⟩ := h; exact h.bel
theorem T5.make (h : T5 w W ka qb b sv mb rb rv L R K) (t : Tm) (ht : t.ok) :
    Calls Try.prog 17 #[.pointer (some ⟨b, 0, none⟩), .agg #[.int .u8 t.kd, .int .i64 t.n, .int .i64 t.a, .int .i64 t.b]] W fun e W' => e = .returned (.tuple #[.int .i64 (mkN L t : Nat), .int .i64 (mkE L t)]) ∧ ∃ sv', T5 w W' ka qb b sv' mb rb rv (mkL L t) R K := by
  obtain ⟨Zk, Zq, h⟩ := h
  have hG : Good L := St.good h.sd
  refine (env_make h.swap t ht).mono ?_
  rintro e W' ⟨rfl, sv', h'⟩
  exact ⟨rfl, sv', Zk, Zq, h'.grownK hG (mkL_prefix L t)⟩
theorem T5.flip {Zk Zq : List Nat} (h : Env w W (resK ka b L K Zk :: resS b sv mb L :: resQ qb rb R K Zq :: resR rb rv R :: [])) : Env w W (resQ qb rb R K Zq :: resR rb rv R :: resK ka b L K Zk :: resS b sv mb L :: []) :=
  h.perm (List.perm_append_comm (l₁ := [resQ qb rb R K Zq, resR rb rv R]) (l₂ := [resK ka b L K Zk, resS b sv mb L]))
theorem T5.back {Zk Zq : List Nat} (h : Env w W (resQ qb rb R K Zq :: resR rb rv R :: resK ka b L K Zk :: resS b sv mb L :: [])) : Env w W (resK ka b L K Zk :: resS b sv mb L :: resQ qb rb R K Zq :: resR rb rv R :: []) :=
  h.perm (List.perm_append_comm (l₁ := [resK ka b L K Zk, resS b sv mb L]) (l₂ := [resQ qb rb R K Zq, resR rb rv R]))
theorem T5.rmake (h : T5 w W ka qb b sv mb rb rv L R K) (t : Tm) (ht : t.ok) :
    Calls Try.prog 18 #[.pointer (some ⟨rb, 0, none⟩), .agg #[.int .u8 t.kd, .int .i64 t.n, .int .i64 t.a, .int .i64 t.b]] W fun e W' => e = .returned (.tuple #[.int .i64 (mkN R t : Nat), .int .i64 (mkE R t)]) ∧ ∃ rv', T5 w W' ka qb b sv mb rb rv' L (mkL R t) K := by
  obtain ⟨Zk, Zq, h⟩ := h
  have h1 := T5.flip h
  have hG : Good R := Rs.good h1.sd
  refine (env_rmake h1.swap t ht).mono ?_
  rintro e W' ⟨rfl, rv', h'⟩
  obtain ⟨q, hq⟩ := mkL_prefix R t
  rw [hq] at h' ⊢
  have h2 := h'.swap.imp (r' := resQ qb rb (R ++ q) K Zq) rfl (fun k => k.ext hG q)
  exact ⟨rfl, rv', Zk, Zq, T5.back h2⟩
theorem T5.has (h : T5 w W ka qb b sv mb rb rv L R K) (x : Int) :
    Calls Try.prog 14 #[.pointer (some ⟨ka, 0, none⟩), .int .i64 x] W fun e W' => e = .returned (.bool (hasB L K x)) ∧ T5 w W' ka qb b sv mb rb rv L R K := by
  obtain ⟨Zk, Zq, h⟩ := h
  refine (env_has h x).mono ?_
  rintro e W' ⟨rfl, Z', h'⟩
  exact ⟨rfl, Z', Zq, h'⟩
theorem T5.rhas (h : T5 w W ka qb b sv mb rb rv L R K) (x : Int) :
    Calls Try.prog 20 #[.pointer (some ⟨qb, 0, none⟩), .int .i64 x] W fun e W' => e = .returned (.bool (hasB R K x)) ∧ T5 w W' ka qb b sv mb rb rv L R K := by
  obtain ⟨Zk, Zq, h⟩ := h
  refine (env_rhas (T5.flip h) x).mono ?_
  rintro e W' ⟨rfl, Z', h'⟩
  exact ⟨rfl, Zk, Z', T5.back h'⟩
theorem T5.len (h : T5 w W ka qb b sv mb rb rv L R K) :
    Calls Try.prog 19 #[.pointer (some ⟨b, 0, none⟩)] W fun e W' => e = .returned (.int .i64 (L.length : Int)) ∧ W' = W := by
  obtain ⟨Zk, Zq, h⟩ := h
  exact len_any b sv mb L W h.sd
theorem T5.good (h : T5 w W ka qb b sv mb rb rv L R K) : L.length ≤ 1048576 := by obtain ⟨_, _, h⟩ := h; exact St.len h.sd
end

set_option maxRecDepth 100000 in
set_option maxHeartbeats 20000000 in
theorem DeduceTells_walk (w : World) (a1 : Option Addr) (cap1 : Nat) (l : List Tm) (h1 : Tms w (.slice a1 l.length cap1) l) (hok1 : ∀ t ∈ l, t.ok) (a2 : Option Addr) (cap2 : Nat) (lk : List Int) (h2 : NIs w (.slice a2 lk.length cap2) lk) (a3 : Option Addr) (cap3 : Nat) (ll : List Tm) (h3 : Tms w (.slice a3 ll.length cap3) ll) (hok3 : ∀ t ∈ ll, t.ok) :
    Calls Try.prog 3 #[.slice a1 l.length cap1, .slice a2 lk.length cap2, .slice a3 ll.length cap3] w fun e w' => e = .returned (.bool true) ∧ Below w.heap.size w w' := by
  obtain ⟨hl1, _⟩ := h1.get
  have hl2 := h2.len
  obtain ⟨hl3, hget3⟩ := h3.get
  have hcl := trivial
  by_cases big0 : 600 < l.length
  · have g0 : (600 : Int) < (l.length : Int) := by omega
    have t0 : (l.length : Int) ≤ 140737488355328 := by omega
    have t1 : (lk.length : Int) ≤ 140737488355328 := by omega
    have t2 : (ll.length : Int) ≤ 140737488355328 := by omega
    generalize l.length = N0 at *
    generalize lk.length = N1 at *
    generalize ll.length = N2 at *
    clear big0  hcl
    go_enter Try.func3, Try.ntmps3
    go_wp2_with fail
    go_ret
    exact ⟨rfl, Below.refl _ _⟩
  by_cases big1 : 1000 < lk.length
  · have g1 : (1000 : Int) < (lk.length : Int) := by omega
    have s0 : ¬ ((600 : Int) < (l.length : Int)) := by omega
    have t0 : (l.length : Int) ≤ 140737488355328 := by omega
    have t1 : (lk.length : Int) ≤ 140737488355328 := by omega
    have t2 : (ll.length : Int) ≤ 140737488355328 := by omega
    generalize l.length = N0 at *
    generalize lk.length = N1 at *
    generalize ll.length = N2 at *
    clear big1 big0 hcl
    go_enter Try.func3, Try.ntmps3
    go_wp2_with fail
    go_ret
    exact ⟨rfl, Below.refl _ _⟩
  by_cases big2 : 100 < ll.length
  · have g2 : (100 : Int) < (ll.length : Int) := by omega
    have s0 : ¬ ((600 : Int) < (l.length : Int)) := by omega
    have t0 : (l.length : Int) ≤ 140737488355328 := by omega
    have s1 : ¬ ((1000 : Int) < (lk.length : Int)) := by omega
    have t1 : (lk.length : Int) ≤ 140737488355328 := by omega
    have t2 : (ll.length : Int) ≤ 140737488355328 := by omega
    generalize l.length = N0 at *
    generalize lk.length = N1 at *
    generalize ll.length = N2 at *
    clear big2 big0 big1 hcl
    go_enter Try.func3, Try.ntmps3
    go_wp2_with fail
    go_ret
    exact ⟨rfl, Below.refl _ _⟩
  have s0 : ¬ ((600 : Int) < (l.length : Int)) := by omega
  have s1 : ¬ ((1000 : Int) < (lk.length : Int)) := by omega
  have s2 : ¬ ((100 : Int) < (ll.length : Int)) := by omega
  have KB := build_any w a1 cap1 l h1 hok1 (by omega)
  have hfl := fillL_len l []
  simp only [List.length_nil, Nat.zero_add] at hfl
  have HI := hide (And.intro h2 (And.intro (Nat.le_trans hfl (Nat.le_of_not_lt big0)) (And.intro (fill_good l [] good_nil) (And.intro big1 (And.intro hget3 hok3)))))
  clear h1 hok1 h2 h3 hl1 hl2 hl3 hcl big0 big1 big2 hfl hget3 hok3
  obtain ⟨N1, hN1⟩ : ∃ N1, N1 = l.length := ⟨_, rfl⟩
  obtain ⟨N2, hN2⟩ : ∃ N2, N2 = lk.length := ⟨_, rfl⟩
  obtain ⟨N3, hN3⟩ : ∃ N3, N3 = ll.length := ⟨_, rfl⟩
  rw [← hN1] at s0 KB ⊢
  rw [← hN2] at s1 ⊢
  rw [← hN3] at s2 ⊢
  have HN := hide (And.intro hN2 hN3)
  clear hN1 hN2 hN3
  generalize fillL [] l = L at *
  go_enter Try.func3, Try.ntmps3
  go_wp2_with fail
  refine KB.mono ?_
  rintro e w1 ⟨b, sv, mb, rb, rv, rfl, two⟩
  have E1 := (Env.ofTwo two)
  clear KB two s0
  have KT := twinint_any w1 (.slice a2 lk.length cap2) lk ((unhide HI).1.bw E1.bel) (by have := (unhide HI).2.2.2.1; omega)
  rw [← (unhide HN).1] at KT
  have HE1 := hide E1
  clear E1
  go_wp2_with fail
  refine KT.mono ?_
  rintro e w2 ⟨rfl, tw2, b2⟩
  have E2 := ((unhide HE1).add (resT w1.heap.size lk) b2 tw2 (by intro x hx; simp [resT] at hx; omega)).swap
  have hz : ∀ z ∈ lk, -9223372036854775808 ≤ z ∧ z ≤ 9223372036854775807 := by obtain ⟨_, _, _, _, hz, _⟩ := (unhide HI).1; exact hz
  have KN := env_new E2 (some ⟨w1.heap.size, 0, none⟩) (lk.length + 2) lk (tw2.nis (by have := (unhide HI).2.2.2.1; omega) hz) (by have := (unhide HI).2.2.2.1; omega)
  rw [← (unhide HN).1] at KN
  have hN2b : (N2 : Int) ≤ 1000 := by omega
  clear KT E2 tw2 b2 hz HE1
  go_wp2_with fail
  refine KN.mono ?_
  rintro e w3 ⟨p, rfl, hp⟩
  clear KN
  rcases hp with ⟨e1, rfl, E3⟩ | ⟨e1, ka, Zk, rfl, E3⟩
  · have E3' : Env w w3 (resR rb rv L :: resS b sv mb L :: [resT w1.heap.size lk]) := (E3.rot3).swap.swap
    have KR := env_rnew E3' a2 cap2 lk ((unhide HI).1.bw E3'.bel) (by have := (unhide HI).2.2.2.1; omega)
    rw [← (unhide HN).1] at KR
    rw [e1]
    have HE1 := hide e1
    clear E3 E3' e1
    go_wp2_with fail
    refine KR.mono ?_
    rintro e w4 ⟨p, rfl, hq⟩
    clear KR
    rcases hq with ⟨e2, rfl, E4⟩ | ⟨e2, _⟩
    · rw [e2]
      have KL := leftint_any w4 w1.heap.size (.slice a2 lk.length cap2) lk (E4.hold (resT w1.heap.size lk) (by simp)) ((unhide HI).1.bw E4.bel) (by have := (unhide HI).2.2.2.1; omega)
      rw [← (unhide HN).1] at KL
      have HE4 := hide E4.swap
      clear E4 e2
      go_wp2_with fail
      refine KL.mono ?_
      rintro e w5 ⟨rfl, b5⟩
      have E5 := (unhide HE4).new b5
      have KF := env_follows E5 a2 cap2 lk 1 ((unhide HI).1.bw E5.bel) (by have := (unhide HI).2.2.2.1; omega)
      rw [← (unhide HN).1] at KF
      clear KL b5 E5 HE4
      go_wp2_with fail
      refine KF.mono ?_
      rintro e w6 ⟨r, q, rfl, E6, hp⟩
      obtain ⟨rfl, rfl⟩ : r = false ∧ q = 1 := by
        rcases hp with ⟨_, c⟩ | ⟨c, _⟩ | ⟨c, _⟩
        · exact c
        · rw [unhide HE1] at c; cases c
        · rw [unhide HE1] at c; cases c
      have hb := E6.bel
      clear KF hp E6
      go_wp2_with fail
      refine (kHas_nil 1 w6).mono ?_
      rintro e w6 ⟨rfl, rfl⟩
      go_wp2_with fail
      refine (kLearn_nil 1 w6).mono ?_
      rintro e w6 ⟨rfl, rfl⟩
      go_wp2_with fail
      refine (dlives_any _).mono ?_
      rintro e w9 ⟨rfl, hb9⟩
      have hbb := bw_tr hb hb9
      go_wp2_with fail
      go_ret
      exact ⟨rfl, hbb⟩
    · rw [unhide HE1] at e2; cases e2
  · have E3' : Env w w3 (resR rb rv L :: resK ka b L (fun m => (m : Int) ∈ lk) Zk :: resS b sv mb L :: [resT w1.heap.size lk]) :=
      E3.perm (((List.perm_append_comm (l₁ := [resR rb rv L]) (l₂ := [resK ka b L (fun m => (m : Int) ∈ lk) Zk, resS b sv mb L])).append_right [resT w1.heap.size lk]).trans (List.Perm.append_left [resK ka b L (fun m => (m : Int) ∈ lk) Zk, resS b sv mb L] (List.Perm.swap (resT w1.heap.size lk) (resR rb rv L) [])))
    have KR := env_rnew E3' a2 cap2 lk ((unhide HI).1.bw E3'.bel) (by have := (unhide HI).2.2.2.1; omega)
    rw [← (unhide HN).1] at KR
    rw [e1]
    have HE1 := hide e1
    clear E3 E3' e1
    go_wp2_with fail
    refine KR.mono ?_
    rintro e w4 ⟨p, rfl, hq⟩
    clear KR
    rcases hq with ⟨e2, _⟩ | ⟨e2, qb, Zq, rfl, E4⟩
    · rw [unhide HE1] at e2; cases e2
    · rw [e2]
      obtain ⟨K, hK⟩ : ∃ K : Nat → Prop, K = (fun (m : Nat) => (m : Int) ∈ lk) := ⟨_, rfl⟩
      rw [← hK] at E4
      have KL := leftint_any w4 w1.heap.size (.slice a2 lk.length cap2) lk (E4.hold (resT w1.heap.size lk) (by simp)) ((unhide HI).1.bw E4.bel) (by have := (unhide HI).2.2.2.1; omega)
      rw [← (unhide HN).1] at KL
      have HE4 := hide E4
      clear E4 e2 hK HE1
      go_wp2_with fail
      refine KL.mono ?_
      rintro e w5 ⟨rfl, b5⟩
      have HE5 : Hid (T5 w w5 ka qb b sv mb rb rv (fillL L (ll.take 0)) (fillL L (ll.take 0)) K) := by
        have E5 := (unhide HE4).new b5
        have E6 := E5.sub (rs' := resQ qb rb L K Zq :: resR rb rv L :: resK ka b L K Zk :: resS b sv mb L :: []) (.cons_cons _ (.cons_cons _ (.cons_cons _ (.cons_cons _ (.cons _ (.refl _))))))
        exact ⟨Zk, Zq, T5.back E6⟩
      clear KL b5 HE4
      go_wp2_with fail
      go_loopw [17] (fun iv wr => ∃ (i : Nat) (sv' rv' : Value), i ≤ N3 ∧ iv = .int .i64 (i : Int) ∧ Hid (T5 w wr ka qb b sv' mb rb rv' (fillL L (ll.take i)) (fillL L (ll.take i)) K)) (fun iv _ => (N3 - intOf iv).toNat)
      case atStart => exact ⟨0, sv, rv, by omega, rfl, HE5⟩
      case round =>
        clear HE5
        obtain ⟨i, sv', rv', hi, rfl, HR⟩ := hrel
        by_cases hlt : i < N3
        · obtain ⟨t, ht⟩ : ∃ t, ll[i]? = some t := ⟨_, List.getElem?_eq_getElem (by have := unhide HN; omega)⟩
          obtain ⟨g, o, hg, hT⟩ := (unhide HI).2.2.2.2.1 i t ht
          subst hg
          have hto := (unhide HI).2.2.2.2.2 t (List.mem_of_getElem? ht)
          have K1 := (unhide HR).make t hto
          have hfl := fillL_take ll L i t ht
          have HF := hide hfl
          have HTO := hide hto
          have HT := hide hT
          have hi1 : (i : Int) < (N3 : Int) := by omega
          obtain ⟨t0, t1, t2, t3⟩ := hT wr (unhide HR).bel
          clear ht hto hT hfl
          go_wp2_with fail
          refine K1.mono ?_
          rintro e w6 ⟨rfl, sv6, E6⟩
          have K2 := E6.rmake t (unhide HTO)
          obtain ⟨u0, u1, u2, u3⟩ := unhide HT w6 E6.bel
          clear K1 E6 t0 t1 t2 t3 HR
          go_wp2_with fail
          refine K2.mono ?_
          rintro e w7 ⟨rfl, rv7, E7⟩
          rw [← unhide HF] at E7
          have HE7 := hide E7
          clear K2 E7 u0 u1 u2 u3
          generalize mkN (fillL L (ll.take i)) t = xn at *
          generalize mkE (fillL L (ll.take i)) t = xe at *
          have z1 : ((xn : Int) == (xn : Int)) = true := by simp
          have z2 : (xe == xe) = true := by simp
          have z3 : ((xn : Int) != (xn : Int)) = false := by simp
          have z4 : (xe != xe) = false := by simp
          go_wp2_with fail
          go_roundw
          case rel => exact ⟨i + 1, sv6, rv7, by omega, by go_num, HE7⟩
          case measure => simp only [intOf]; omega
        · obtain rfl : i = N3 := by omega
          clear hlt hi
          generalize hLL : fillL L (ll.take i) = LL at *
          clear hLL
          obtain ⟨M, hM⟩ : ∃ M, M = LL.length := ⟨_, rfl⟩
          have hMb : (M : Int) ≤ 1048576 := by have := (unhide HR).good; omega
          have HM := hide hM
          clear hM
          go_wp2_with fail
          go_loopw [22] (fun nv wr => ∃ m : Nat, m ≤ M + 3 ∧ nv = .int .i64 ((m : Int) - 1) ∧ Hid (T5 w wr ka qb b sv' mb rb rv' LL LL K)) (fun nv _ => ((M : Int) + 2 - intOf nv).toNat)
          case atStart => exact ⟨0, by omega, rfl, HR⟩
          case round =>
            clear HR
            obtain ⟨m, hm, rfl, HR⟩ := hrel
            have KL := (unhide HR).len
            rw [← unhide HM] at KL
            by_cases hlt : m ≤ M + 2
            · have hn2 : (m : Int) - 1 ≤ (M : Int) + 1 := by omega
              have KA := (unhide HR).has ((m : Int) - 1)
              have KB0 : Hid (∀ W, T5 w W ka qb b sv' mb rb rv' LL LL K → Calls Try.prog 20 #[.pointer (some ⟨qb, 0, none⟩), .int .i64 ((m : Int) - 1)] W fun e W' => e = .returned (.bool (hasB LL K ((m : Int) - 1))) ∧ T5 w W' ka qb b sv' mb rb rv' LL LL K) := fun W h => h.rhas ((m : Int) - 1)
              generalize hasB LL K ((m : Int) - 1) = rbv at *
              obtain ⟨y, hy⟩ : ∃ y : Int, y = (m : Int) - 1 := ⟨_, rfl⟩
              rw [← hy] at KA KB0 hn2 ⊢
              have HY := hide hy
              have hyb : y ≤ 1048578 ∧ -1 ≤ y := by omega
              obtain ⟨hy1, hy2⟩ := hyb
              clear HR hy
              go_wp2_with fail
              refine KL.mono ?_
              rintro e wr ⟨rfl, rfl⟩
              clear KL
              go_wp2_with fail
              refine KA.mono ?_
              rintro e w9 ⟨rfl, E9⟩
              have KB1 := unhide KB0 w9 E9
              clear E9 KA KB0
              go_wp2_with fail
              refine KB1.mono ?_
              rintro e w10 ⟨rfl, E10⟩
              have HE10 := hide E10
              have hbe : (rbv == rbv) = true := by simp
              have hbn : (rbv != rbv) = false := by simp
              clear E10 KB1
              go_wp2_with fail
              go_roundw
              case rel => exact ⟨m + 1, by omega, by rw [unhide HY]; go_num, HE10⟩
              case measure => have := unhide HY; simp only [intOf]; omega
            · have hn2 : ¬ ((m : Int) - 1 ≤ (M : Int) + 1) := by omega
              obtain ⟨y, hy⟩ : ∃ y : Int, y = (m : Int) - 1 := ⟨_, rfl⟩
              rw [← hy] at hn2 ⊢
              have hb := (unhide HR).bel
              clear hlt HR hy
              go_wp2_with fail
              refine KL.mono ?_
              rintro e wr ⟨rfl, rfl⟩
              clear KL
              go_wp2_with fail
              refine (dlives_any _).mono ?_
              rintro e w9 ⟨rfl, hb9⟩
              have hbb := bw_tr hb hb9
              go_wp2_with fail
              go_ret
              exact ⟨rfl, hbb⟩

set_option maxRecDepth 100000 in
theorem DeduceTells_lifted (os : Os) (started : os.Started) (H : Type) (enc : TypeId × Value → H) :
    ReturnsInHanded {} Try.checked os 3 .any (Rows.deduceTellsSpec.pre6 enc Try.prog Try.f3 Rows.deduceTellsRow.domain false) (Rows.deduceTellsSpec.post enc Try.prog Try.f3 false true false false) := by
  refine returnsInHanded_of_change_sized (C := Try.checked) own started (by kernel_rfl) Try.func3
    (ChangeSpec.witness6 (enc := enc) (C := Try.checked) false ⟨#[], #[.slice none 0 0, .slice none 0 0, .slice none 0 0], []⟩ 8 (by kernel_rfl) (by kernel_rfl) (by kernel_rfl) (by kernel_rfl)) ?_
  intro W base args ds gs before hval0 hW hcnd hsz0 _
  have hval : ∀ (j : Nat) t v, Try.f3.params[j]? = some t → args[j]? = some v → Value.okWide Try.prog W .any base t v := hval0
  have hsz : (DataW.weightsEach Try.prog (Try.f3.params.toList ++ Rows.deduceTellsSpec.plain.varTypes Try.prog) (ds ++ gs)).all (· ≤ reachBytes) = true := hsz0
  have hW' := hW
  obtain ⟨p, q, hA0, hV, rfl, hfz, hnd⟩ := hW
  have hA : DataW.TrodAll enc Try.prog W 0 (fun _ => true) true Try.f3.params.toList args.toList ds p := hA0
  rw [Try.params3] at hA hval hsz
  obtain ⟨v0, vs0, d0, ds0, p0, q0, hargs, rfl, rfl, h0, r0⟩ := trodAll_cons hA
  obtain ⟨v1, vs1, d1, ds1, p1, q1, rfl, rfl, rfl, h1, r1⟩ := trodAll_cons r0
  obtain ⟨v2, vs2, d2, ds2, p2, q2, rfl, rfl, rfl, h2, r2⟩ := trodAll_cons r1
  obtain ⟨rfl, rfl, rfl⟩ := trodAll_nil r2
  obtain rfl : args = #[v0, v1, v2] := by cases args; simp_all
  obtain ⟨rfl, rfl⟩ := trodVars_none hV
  have k0 := h0
  have lt0 : ∀ x ∈ p0, x.block < W.heap.size := by obtain ⟨m, hm⟩ := k0; exact DataW.trod_lt m _ _ _ hm
  obtain ⟨a0, len0, cap0, rfl⟩ := okWide_slice Try.underlying22 (hval 0 22 v0 rfl rfl)
  obtain ⟨l0, rfl, i0, o0⟩ := open_terms h0 (fun n hn => by simpa using List.all_eq_true.1 hsz n (DataW.weights_mem_each (j := 0) (t := 22) rfl rfl n hn))
  have k1 := h1
  have lt1 : ∀ x ∈ p1, x.block < W.heap.size := by obtain ⟨m, hm⟩ := k1; exact DataW.trod_lt m _ _ _ hm
  obtain ⟨a1, len1, cap1, rfl⟩ := okWide_slice Try.underlying23 (hval 1 23 v1 rfl rfl)
  obtain ⟨l1, rfl, i1⟩ := open_nums h1 (fun n hn => by simpa using List.all_eq_true.1 hsz n (DataW.weights_mem_each (j := 1) (t := 23) rfl rfl n hn))
  have k2 := h2
  have lt2 : ∀ x ∈ p2, x.block < W.heap.size := by obtain ⟨m, hm⟩ := k2; exact DataW.trod_lt m _ _ _ hm
  obtain ⟨a2, len2, cap2, rfl⟩ := okWide_slice Try.underlying22 (hval 2 22 v2 rfl rfl)
  obtain ⟨l2, rfl, i2, o2⟩ := open_terms h2 (fun n hn => by simpa using List.all_eq_true.1 hsz n (DataW.weights_mem_each (j := 2) (t := 22) rfl rfl n hn))
  clear hA0 hval0
  refine (DeduceTells_walk W a0 cap0 l0 i0 o0 a1 cap1 l1 i1 a2 cap2 l2 i2 o2).mono fun e W' ⟨he, bel⟩ => ?_
  subst he
  exact ⟨_, rfl, _, _, _, [], _, [], hW', trodAll_mk1 (shut_bool Try.underlying4 _), (trodAll_cons_mk (Below.trod laidOut (by kernel_rfl) (of_decide_eq_true (by kernel_rfl)) k0 bel lt0) (trodAll_cons_mk (Below.trod laidOut (by kernel_rfl) (of_decide_eq_true (by kernel_rfl)) k1 bel lt1) (trodAll_cons_mk (Below.trod laidOut (by kernel_rfl) (of_decide_eq_true (by kernel_rfl)) k2 bel lt2) trodAll_mk0))), rfl, bel.frame _, fun h => by cases h⟩

theorem DeduceTells_over : Rows.deduceTellsRow.holds Try.pinned (OpenSpec.ofChange Rows.deduceTellsSpec) :=
  OpenClaim.holds_of_wide 3 Try.f3 rfl rfl rfl rfl rfl rfl rfl ⟨rfl, rfl, rfl, rfl, rfl⟩ rfl rfl rfl rfl rfl (by kernel_rfl) Try.func3 (by kernel_rfl)
    (of_decide_eq_true (by kernel_rfl)) (by unfold Func.isWrapper; first | (rw [if_pos (by decide +kernel)]; kernel_rfl) | (rw [if_neg (by decide +kernel)]; exact ⟨rfl, rfl⟩))
    (fun os started H enc _ => DeduceTells_lifted os started H enc)

theorem DeduceTells_holds : Rows.DeduceTellsSaid := DeduceTells_over
#print axioms DeduceTells_holds

end Go.Proofs.Ytfpimmbjjcpobaa
