/- DeduceLearns: for every list of terms, of numbers known first and of numbers learned, the law answers true: what is learned one after the other opens as much as if all had been known at once. No condition (the law itself claims nothing of more than 600 terms, or of more than 300 numbers in either list). -/
import Derived.Test.YtfpimmbjjcpobaaTmFrameN
import Derived.Test.YtfpimmbjjcpobaaDdI
import Derived.Test.YtfpimmbjjcpobaaDdPureB
import Derived.Test.YtfpimmbjjcpobaaDdK
namespace Go.Proofs.Ytfpimmbjjcpobaa
open Go.ChangeShapes Go.WideShapes Go.ChangeAt Go.RowKit Go.Joins Go.Maps

theorem nats_of {L : List Tm} {l : List Int} (h : ∀ x ∈ l, thr L.length x = true) : ∃ nl : List Nat, l = nl.map (fun (m : Nat) => (m : Int)) ∧ ∀ m ∈ nl, 1 ≤ m ∧ m ≤ L.length := by
  refine ⟨l.map Int.toNat, ?_, fun m hm => ?_⟩
  · rw [List.map_map]
    conv => lhs; rw [← List.map_id l]
    exact List.map_congr_left fun x hx => by have := thr_iff.1 (h x hx); simp; omega
  · obtain ⟨x, hx, rfl⟩ := List.mem_map.1 hm
    have := thr_iff.1 (h x hx); omega
/-- While one learns: who learned, and the row of all. -/
def Ln (w W : World) (ka b : Nat) (sv : Value) (mb rb : Nat) (rv : Value) (L : List Tm) (v : Value) (n : Nat) : Prop :=
  ∃ (A : Nat → Prop) (l : List Nat), EN w W ka b sv mb rb rv L L A v l ∧ (∀ m, A m ↔ m ∈ l) ∧ (∀ m ∈ l, 1 ≤ m ∧ m ≤ L.length) ∧ l.length ≤ n

set_option maxRecDepth 100000 in
set_option maxHeartbeats 20000000 in
theorem DeduceLearns_walk (w : World) (a1 : Option Addr) (cap1 : Nat) (l : List Tm) (h1 : Tms w (.slice a1 l.length cap1) l) (hok1 : ∀ t ∈ l, t.ok) (a2 : Option Addr) (cap2 : Nat) (lk : List Int) (h2 : NIs w (.slice a2 lk.length cap2) lk) (a3 : Option Addr) (cap3 : Nat) (ll : List Int) (h3 : NIs w (.slice a3 ll.length cap3) ll) :
    Calls Try.prog 5 #[.slice a1 l.length cap1, .slice a2 lk.length cap2, .slice a3 ll.length cap3] w fun e w' => e = .returned (.bool true) ∧ Below w.heap.size w w' := by
  obtain ⟨hl1, _⟩ := h1.get
  have hl2 := h2.len
  have hl3 := h3.len
  have hcl := trivial
  by_cases big0 : 600 < l.length
  · have g0 : (600 : Int) < (l.length : Int) := by omega
    have t0 : (l.length : Int) ≤ 140737488355328 := by omega
    have t1 : (lk.length : Int) ≤ 140737488355328 := by omega
    have t2 : (ll.length : Int) ≤ 140737488355328 := by omega
    generalize l.length = N0 at *
    generalize lk.length = N1 at *
    generalize ll.length = N2 at *
    clear big0  hcl
    go_enter Try.func5, Try.ntmps5
    go_wp2_with fail
    go_ret
    exact ⟨rfl, Below.refl _ _⟩
  by_cases big1 : 300 < lk.length
  · have g1 : (300 : Int) < (lk.length : Int) := by omega
    have s0 : ¬ ((600 : Int) < (l.length : Int)) := by omega
    have t0 : (l.length : Int) ≤ 140737488355328 := by omega
    have t1 : (lk.length : Int) ≤ 140737488355328 := by omega
    have t2 : (ll.length : Int) ≤ 140737488355328 := by omega
    generalize l.length = N0 at *
    generalize lk.length = N1 at *
    generalize ll.length = N2 at *
    clear big1 big0 hcl
    go_enter Try.func5, Try.ntmps5
    go_wp2_with fail
    go_ret
    exact ⟨rfl, Below.refl _ _⟩
  by_cases big2 : 300 < ll.length
  · have g2 : (300 : Int) < (ll.length : Int) := by omega
    have s0 : ¬ ((600 : Int) < (l.length : Int)) := by omega
    have t0 : (l.length : Int) ≤ 140737488355328 := by omega
    have s1 : ¬ ((300 : Int) < (lk.length : Int)) := by omega
    have t1 : (lk.length : Int) ≤ 140737488355328 := by omega
    have t2 : (ll.length : Int) ≤ 140737488355328 := by omega
    generalize l.length = N0 at *
    generalize lk.length = N1 at *
    generalize ll.length = N2 at *
    clear big2 big0 big1 hcl
    go_enter Try.func5, Try.ntmps5
    go_wp2_with fail
    go_ret
    exact ⟨rfl, Below.refl _ _⟩
  have s0 : ¬ ((600 : Int) < (l.length : Int)) := by omega
  have s1 : ¬ ((300 : Int) < (lk.length : Int)) := by omega
  have s2 : ¬ ((300 : Int) < (ll.length : Int)) := by omega
  have KB := build_any w a1 cap1 l h1 hok1 (by omega)
  have hfl := fillL_len l []
  simp only [List.length_nil, Nat.zero_add] at hfl
  have HI := hide (And.intro h2 (And.intro h3 (And.intro (Nat.le_trans hfl (Nat.le_of_not_lt big0)) (And.intro (fill_good l [] good_nil) (And.intro big1 big2)))))
  have hLn : ((fillL [] l).length : Int) ≤ 600 := by omega
  clear h1 hok1 h2 h3 hl1 hl2 hl3 hcl big0 big1 big2 hfl
  obtain ⟨N1, hN1⟩ : ∃ N1, N1 = l.length := ⟨_, rfl⟩
  obtain ⟨N2, hN2⟩ : ∃ N2, N2 = lk.length := ⟨_, rfl⟩
  obtain ⟨N3, hN3⟩ : ∃ N3, N3 = ll.length := ⟨_, rfl⟩
  rw [← hN1] at s0 KB ⊢
  rw [← hN2] at s1 ⊢
  rw [← hN3] at s2 ⊢
  have HN := hide (And.intro hN2 hN3)
  clear hN1 hN2 hN3
  generalize fillL [] l = L at *
  obtain ⟨M, hM⟩ : ∃ M, M = L.length := ⟨_, rfl⟩
  rw [← hM] at hLn
  have HM := hide hM
  clear hM
  go_enter Try.func5, Try.ntmps5
  go_wp2_with fail
  refine KB.mono ?_
  rintro e w1 ⟨b, sv, mb, rb, rv, rfl, two⟩
  have E1 := (Env.ofTwo two)
  clear KB two s0
  have KN := env_new E1 a2 cap2 lk ((unhide HI).1.bw E1.bel) (by have := (unhide HI).2.2.2.2.1; omega)
  rw [← (unhide HN).1] at KN
  clear E1
  go_wp2_with fail
  refine KN.mono ?_
  rintro e w2 ⟨p, rfl, hp⟩
  clear KN
  rcases hp with ⟨e1, rfl, E2'⟩ | ⟨e1, ka, Z, rfl, E2'⟩
  · rw [e1]
    have hb := E2'.bel
    clear e1 E2'
    go_wp2_with fail
    refine (dlives_any _).mono ?_
    rintro e w9 ⟨rfl, hb9⟩
    have hbb := bw_tr hb hb9
    go_wp2_with fail
    go_ret
    exact ⟨rfl, hbb⟩
  · rw [e1]
    obtain ⟨nl, hnl, hnr⟩ := nats_of (newE_zero e1)
    have EN0 := EN.start E2'
    have hnn : NIs w2 (.slice a2 N2 cap2) (nl.map fun (m : Nat) => (m : Int)) := by
      have := (unhide HI).1.bw E2'.bel
      rw [← (unhide HN).1] at this
      rw [← hnl]; exact this
    have hnlen : nl.length = N2 := by have := (unhide HN).1; rw [hnl] at this; simpa using this.symm
    have HJ := hide (And.intro hnl (And.intro hnr (And.intro EN0 (And.intro hnn hnlen))))
    have hN2b : N2 ≤ 300 := by omega
    clear e1 E2' hnl hnr EN0 hnn hnlen
    have hrow0 : (w2.alloc (.cells #[] 3)).ownsRow 0 3 1 (.slice (some ⟨w2.heap.size, 0, none⟩) 0 0) ([] : List Nat).length (([] : List Nat).map (fun m => Value.int .i64 ((m : Nat) : Int))) :=
      World.ownsRow_made (base := 0) (e := 3) (size := 1) w2 #[] 0 (Nat.zero_le _) (by unfold maxLen; omega) rfl
    go_wp2_with (at_builtin; refine wpList_joinN rfl (.tmp 59) (.tmp 60) rfl (.slice (some ⟨w2.heap.size, 0, none⟩) 0 0) (.slice a2 N2 cap2) [] nl rfl hrow0 rfl ((unhide HJ).2.2.2.1.bw (bw_alloc _ _)) ?c3 ?nx)
    case c3 => have := (unhide HJ).2.2.2.2; simp only [List.length_nil]; omega
    case nx =>
      intro v' w3 hown' hgrow hat
      have HE : Hid (Ln w w3 ka b sv mb rb rv L v' N2) := by
        obtain ⟨hnl, hnr, EN0, hnn, hnlen⟩ := unhide HJ
        refine ⟨_, nl, EN0.fresh (v' := v') ((bw_alloc w2 _).grown hgrow (by simp) (fun k hk => by simp [Value.ownBlock] at hk; omega)) (by simpa [NRow] using hown') (fun k hk => ?_), fun m => ?_, hnr, by omega⟩
        · rcases hat with c | c
          · rw [c] at hk; simp [Value.ownBlock] at hk; omega
          · rw [c] at hk; simp at hk; omega
        · rw [hnl]
          constructor
          · intro c
            obtain ⟨y, hy, e⟩ := List.mem_map.1 c
            have : y = m := by omega
            rw [← this]; exact hy
          · intro c; exact List.mem_map.2 ⟨m, c, rfl⟩
      clear hown' hgrow hat HJ hrow0
      go_wp2_with fail
      go_loopw [12, 13] (fun vv iv wr => ∃ i : Nat, i ≤ N3 ∧ iv = .int .i64 (i : Int) ∧ Hid (Ln w wr ka b sv mb rb rv L vv (N2 + i))) (fun _ iv _ => (N3 - intOf iv).toNat)
      case atStart => exact ⟨0, by omega, rfl, HE⟩
      case round =>
        clear HE
        obtain ⟨i, hi, rfl, HR⟩ := hrel
        by_cases hlt : i < N3
        · obtain ⟨z, hz⟩ : ∃ z, ll[i]? = some z := ⟨_, List.getElem?_eq_getElem (by have := unhide HN; omega)⟩
          obtain ⟨g, o, hg, hc⟩ := (unhide HI).2.1.get hz
          subst hg
          obtain ⟨A, al, EA, hA, hAr, hAl⟩ := unhide HR
          have cz := hc wr EA.bel
          have KL : ∀ n, Calls Try.prog 19 #[.pointer (some ⟨b, 0, none⟩)] (wr.drewN n) fun e w' => e = .returned (.int .i64 (M : Int)) ∧ w' = wr.drewN n := fun n => by
            obtain ⟨Za, h⟩ := EA
            have := len_any b sv mb L (wr.drewN n) (St.bw h.sd (below_drewN (Below.refl _ _) n))
            rw [← unhide HM] at this
            exact this
          have KE : Hid (∀ W, (∃ n, W = wr.drewN n) → Calls Try.prog 15 #[.pointer (some ⟨ka, 0, none⟩), .int .i64 z] W fun e W' => e = .returned (.int .i64 (if thr L.length z = true then 0 else 1)) ∧ EN w W' ka b sv mb rb rv L L (fun m => A m ∨ (thr L.length z = true ∧ m = z.toNat)) u12 al) := by
            rintro W ⟨n, rfl⟩
            obtain ⟨Za, h⟩ := EA
            exact EN.learn ⟨Za, h.new (below_drewN (Below.refl _ _) n)⟩ z
          have hi1 : (i : Int) < (N3 : Int) := by omega
          have HC := hide hc
          have HZ := hide (And.intro hA (And.intro hAr hAl))
          obtain ⟨va, vc, hv⟩ := own_slice EA.row
          have hrl := hide EA.row
          obtain ⟨q, hq⟩ : ∃ q, q = al.length := ⟨_, rfl⟩
          rw [← hq] at hv
          have HQ := hide hq
          subst hv
          clear hz hc EA hA hAr hAl HR hq
          by_cases hf : thr L.length z = true
          · obtain ⟨f1, f2⟩ := thr_iff.1 hf
            rw [← unhide HM] at f2
            have f3 : decide ((1 : Int) ≤ z) = true := by simp [f1]
            have f4 : decide (z ≤ (M : Int)) = true := by simp [f2]
            have HFF := hide hf
            clear hf
            go_upto_region 13 with fail
            go_quiet (first | (go_at_call 19; exact Calls.quiet_of_same (KL _)))
            generalize hW : wr.drewN _ = W
            have KW := unhide KE W ⟨_, hW.symm⟩
            rw [unhide HFF] at KW
            have ie : (if true = true then (0 : Int) else 1) = 0 := rfl
            rw [ie] at KW
            have czW : W.cell? ⟨g, o + i, none⟩ = some (.int .i64 z) := by rw [← hW]; exact cz
            have HWW := hide hW
            clear ie hW KL cz
            go_wp2_with fail
            refine KW.mono ?_
            rintro e w5 ⟨rfl, E5⟩
            have cz5 := unhide HC w5 E5.bel
            have HE5 := hide E5
            have hz1 : Hid (∃ zn : Nat, z = (zn : Int) ∧ 1 ≤ zn ∧ zn ≤ L.length) := ⟨z.toNat, by omega, by omega, by have := unhide HM; omega⟩
            obtain ⟨zn, hzn, hz1b, hz2⟩ := unhide hz1
            have HZN := hide (And.intro hzn (And.intro hz1b hz2))
            have hn5 : NIs w5 (.slice va q vc) (al.map fun (m : Nat) => (m : Int)) := by
              have := E5.row.nis (by have := (unhide HZ).2.2; have := (unhide HI).2.2.2.2; have := unhide HN; omega) (fun m hm => by have := (unhide HZ).2.1 m hm; have := (unhide HI).2.2.1; omega)
              exact this
            have hrow1 : (w5.alloc (.cells #[.int .i64 z] 3)).ownsRow 0 3 1 (.slice (some ⟨w5.heap.size, 0, none⟩) 1 1) [zn].length ([zn].map (fun m => Value.int .i64 ((m : Nat) : Int))) := by
              rw [hzn]
              exact ⟨rfl, Or.inr ⟨w5.heap.size, 1, #[.int .i64 (zn : Int)], rfl, Nat.zero_le _, heap_alloc_new _ _, Nat.le_refl _, by unfold maxLen; omega, rfl, rfl⟩⟩
            have hal100 : al.length ≤ 600 := by have := (unhide HZ).2.2; have := (unhide HI).2.2.2.2; have := unhide HN; omega
            have HX := hide (And.intro hn5 hal100)
            clear E5 KW czW hz1 hzn hz1b hz2 hn5 hal100
            go_wp2_with (at_builtin; refine wpList_joinN rfl (.tmp 96) (.tmp 97) rfl (.slice (some ⟨w5.heap.size, 0, none⟩) 1 1) (.slice va q vc) [zn] al rfl hrow1 rfl ((unhide HX).1.bw (bw_alloc _ _)) ?c3 ?nx)
            case c3 => have := (unhide HX).2; simp only [List.length_cons, List.length_nil]; omega
            case nx =>
              intro v' w6 hown' hgrow hat
              have HE6 : Hid (Ln w w6 ka b sv mb rb rv L v' (N2 + (i + 1))) := by
                obtain ⟨hA, hAr, hAl⟩ := unhide HZ
                obtain ⟨hzn, hz1, hz2⟩ := unhide HZN
                refine ⟨_, [zn] ++ al, (unhide HE5).fresh (v' := v') ((bw_alloc w5 _).grown hgrow (by simp) (fun k hk => by simp [Value.ownBlock] at hk; omega)) hown' (fun k hk => ?_), fun m => ?_, fun m hm => ?_, ?_⟩
                · rcases hat with c | c
                  · rw [c] at hk; simp [Value.ownBlock] at hk; omega
                  · rw [c] at hk; simp at hk; omega
                · rw [hA m, hzn]
                  simp only [Int.toNat_natCast, List.singleton_append, List.mem_cons, true_and]
                  exact Or.comm
                · simp only [List.singleton_append, List.mem_cons] at hm
                  rcases hm with rfl | hm
                  · exact ⟨hz1, hz2⟩
                  · exact hAr m hm
                · simp; omega
              clear hown' hgrow hat
              go_wp2_with fail
              go_roundw
              case rel => exact ⟨i + 1, by omega, by go_num, HE6⟩
              case measure => simp only [intOf]; omega
          · have hf0 : thr L.length z = false := by cases h : thr L.length z; rfl; exact absurd h hf
            have HE : Hid (∀ W', EN w W' ka b sv mb rb rv L L (fun m => A m ∨ (false = true ∧ m = z.toNat)) (.slice va q vc) al → Ln w W' ka b sv mb rb rv L (.slice va q vc) (N2 + (i + 1))) := by
              intro W' h
              obtain ⟨hA, hAr, hAl⟩ := unhide HZ
              exact ⟨_, al, h, fun m => by rw [← hA m]; simp, hAr, by omega⟩
            have hno := thr_false.1 hf0
            rw [← unhide HM] at hno
            have HFF := hide hf0
            clear hf hf0
            by_cases f1 : 1 ≤ z
            · have f2 : ¬ (z ≤ (M : Int)) := by omega
              have f3 : decide ((1 : Int) ≤ z) = true := by simp [f1]
              have f4 : decide (z ≤ (M : Int)) = false := by simp [f2]
              clear hno
              go_upto_region 13 with fail
              go_quiet (first | (go_at_call 19; exact Calls.quiet_of_same (KL _)))
              generalize hW : wr.drewN _ = W
              have KW := unhide KE W ⟨_, hW.symm⟩
              rw [unhide HFF] at KW
              have ie : (if false = true then (0 : Int) else 1) = 1 := rfl
              rw [ie] at KW
              have czW : W.cell? ⟨g, o + i, none⟩ = some (.int .i64 z) := by rw [← hW]; exact cz
              clear ie hW KL cz
              go_wp2_with fail
              refine KW.mono ?_
              rintro e w5 ⟨rfl, E5⟩
              have HE5 := hide (unhide HE _ E5)
              clear E5 KW czW
              go_wp2_with fail
              go_roundw
              case rel => exact ⟨i + 1, by omega, by go_num, HE5⟩
              case measure => simp only [intOf]; omega
            · have f3 : decide ((1 : Int) ≤ z) = false := by simp [f1]
              clear hno
              go_upto_region 13 with fail
              go_quiet (fail)
              generalize hW : wr.drewN _ = W
              have KW := unhide KE W ⟨_, hW.symm⟩
              rw [unhide HFF] at KW
              have ie : (if false = true then (0 : Int) else 1) = 1 := rfl
              rw [ie] at KW
              have czW : W.cell? ⟨g, o + i, none⟩ = some (.int .i64 z) := by rw [← hW]; exact cz
              clear ie hW KL cz
              go_wp2_with fail
              refine KW.mono ?_
              rintro e w5 ⟨rfl, E5⟩
              have HE5 := hide (unhide HE _ E5)
              clear E5 KW czW
              go_wp2_with fail
              go_roundw
              case rel => exact ⟨i + 1, by omega, by go_num, HE5⟩
              case measure => simp only [intOf]; omega
        · obtain rfl : i = N3 := by omega
          obtain ⟨A, al, EA, hA, hAr, hAl⟩ := unhide HR
          have KN2 := EA.new hAr (by have := (unhide HI).2.2.2.2; have := unhide HN; omega)
          have HS : Hid (∀ x, hasB L A x = hasB L (fun m => m ∈ al) x) := by
            intro x
            have : A = fun m => m ∈ al := by funext m; exact propext (hA m)
            rw [this]
          clear EA hA hAr hAl HR hlt hi
          go_wp2_with fail
          refine KN2.mono ?_
          rintro e w6 ⟨kb, rfl, E6⟩
          obtain ⟨B, hB⟩ : ∃ B : Nat → Prop, B = (fun m => m ∈ al) := ⟨_, rfl⟩
          rw [← hB] at E6 HS
          have HE6 := hide E6
          clear hB KN2 E6
          go_wp2_with fail
          go_loopw [16] (fun nv wr => ∃ m : Nat, m ≤ M + 2 ∧ nv = .int .i64 (m : Int) ∧ Hid (E2 w wr ka kb b sv mb rb rv L L A B)) (fun nv _ => (M + 2 - intOf nv).toNat)
          case atStart => exact ⟨0, by omega, rfl, HE6⟩
          case round =>
            clear HE6
            obtain ⟨m, hm, rfl, HR⟩ := hrel
            have KL := (unhide HR).len
            rw [← unhide HM] at KL
            by_cases hlt : m ≤ M + 1
            · have hn2 : (m : Int) ≤ (M : Int) + 1 := by omega
              have KA := (unhide HR).hasA (m : Int)
              rw [unhide HS (m : Int)] at KA
              have KB0 : Hid (∀ W, E2 w W ka kb b sv mb rb rv L L A B → Calls Try.prog 14 #[.pointer (some ⟨kb, 0, none⟩), .int .i64 (m : Int)] W fun e W' => e = .returned (.bool (hasB L B (m : Int))) ∧ E2 w W' ka kb b sv mb rb rv L L A B) := fun W h => h.hasB (m : Int)
              generalize hasB L B (m : Int) = rbv at *
              clear HR
              go_wp2_with fail
              refine KL.mono ?_
              rintro e wr ⟨rfl, rfl⟩
              clear KL
              go_wp2_with fail
              refine KA.mono ?_
              rintro e w9 ⟨rfl, E9⟩
              have KB1 := unhide KB0 w9 E9
              clear E9 KA KB0
              go_wp2_with fail
              refine KB1.mono ?_
              rintro e w10 ⟨rfl, E10⟩
              have HE10 := hide E10
              have hbe : (rbv == rbv) = true := by simp
              have hbn : (rbv != rbv) = false := by simp
              clear E10 KB1
              go_wp2_with fail
              go_roundw
              case rel => exact ⟨m + 1, by omega, by go_num, HE10⟩
              case measure => simp only [intOf]; omega
            · have hn2 : ¬ ((m : Int) ≤ (M : Int) + 1) := by omega
              have hb := (unhide HR).bel
              clear hlt HR
              go_wp2_with fail
              refine KL.mono ?_
              rintro e wr ⟨rfl, rfl⟩
              go_wp2_with fail
              refine (dlives_any _).mono ?_
              rintro e w9 ⟨rfl, hb9⟩
              have hbb := bw_tr hb hb9
              go_wp2_with fail
              go_ret
              exact ⟨rfl, hbb⟩

set_option maxRecDepth 100000 in
theorem DeduceLearns_lifted (os : Os) (started : os.Started) (H : Type) (enc : TypeId × Value → H) :
    ReturnsInHanded {} Try.checked os 5 .any (Rows.deduceLearnsSpec.pre6 enc Try.prog Try.f5 Rows.deduceLearnsRow.domain false) (Rows.deduceLearnsSpec.post enc Try.prog Try.f5 false true false false) := by
  refine returnsInHanded_of_change_sized (C := Try.checked) own started (by kernel_rfl) Try.func5
    (ChangeSpec.witness6 (enc := enc) (C := Try.checked) false ⟨#[], #[.slice none 0 0, .slice none 0 0, .slice none 0 0], []⟩ 8 (by kernel_rfl) (by kernel_rfl) (by kernel_rfl) (by kernel_rfl)) ?_
  intro W base args ds gs before hval0 hW hcnd hsz0 _
  have hval : ∀ (j : Nat) t v, Try.f5.params[j]? = some t → args[j]? = some v → Value.okWide Try.prog W .any base t v := hval0
  have hsz : (DataW.weightsEach Try.prog (Try.f5.params.toList ++ Rows.deduceLearnsSpec.plain.varTypes Try.prog) (ds ++ gs)).all (· ≤ reachBytes) = true := hsz0
  have hW' := hW
  obtain ⟨p, q, hA0, hV, rfl, hfz, hnd⟩ := hW
  have hA : DataW.TrodAll enc Try.prog W 0 (fun _ => true) true Try.f5.params.toList args.toList ds p := hA0
  rw [Try.params5] at hA hval hsz
  obtain ⟨v0, vs0, d0, ds0, p0, q0, hargs, rfl, rfl, h0, r0⟩ := trodAll_cons hA
  obtain ⟨v1, vs1, d1, ds1, p1, q1, rfl, rfl, rfl, h1, r1⟩ := trodAll_cons r0
  obtain ⟨v2, vs2, d2, ds2, p2, q2, rfl, rfl, rfl, h2, r2⟩ := trodAll_cons r1
  obtain ⟨rfl, rfl, rfl⟩ := trodAll_nil r2
  obtain rfl : args = #[v0, v1, v2] := by cases args; simp_all
  obtain ⟨rfl, rfl⟩ := trodVars_none hV
  have k0 := h0
  have lt0 : ∀ x ∈ p0, x.block < W.heap.size := by obtain ⟨m, hm⟩ := k0; exact DataW.trod_lt m _ _ _ hm
  obtain ⟨a0, len0, cap0, rfl⟩ := okWide_slice Try.underlying22 (hval 0 22 v0 rfl rfl)
  obtain ⟨l0, rfl, i0, o0⟩ := open_terms h0 (fun n hn => by simpa using List.all_eq_true.1 hsz n (DataW.weights_mem_each (j := 0) (t := 22) rfl rfl n hn))
  have k1 := h1
  have lt1 : ∀ x ∈ p1, x.block < W.heap.size := by obtain ⟨m, hm⟩ := k1; exact DataW.trod_lt m _ _ _ hm
  obtain ⟨a1, len1, cap1, rfl⟩ := okWide_slice Try.underlying23 (hval 1 23 v1 rfl rfl)
  obtain ⟨l1, rfl, i1⟩ := open_nums h1 (fun n hn => by simpa using List.all_eq_true.1 hsz n (DataW.weights_mem_each (j := 1) (t := 23) rfl rfl n hn))
  have k2 := h2
  have lt2 : ∀ x ∈ p2, x.block < W.heap.size := by obtain ⟨m, hm⟩ := k2; exact DataW.trod_lt m _ _ _ hm
  obtain ⟨a2, len2, cap2, rfl⟩ := okWide_slice Try.underlying23 (hval 2 23 v2 rfl rfl)
  obtain ⟨l2, rfl, i2⟩ := open_nums h2 (fun n hn => by simpa using List.all_eq_true.1 hsz n (DataW.weights_mem_each (j := 2) (t := 23) rfl rfl n hn))
  clear hA0 hval0
  refine (DeduceLearns_walk W a0 cap0 l0 i0 o0 a1 cap1 l1 i1 a2 cap2 l2 i2).mono fun e W' ⟨he, bel⟩ => ?_
  subst he
  exact ⟨_, rfl, _, _, _, [], _, [], hW', trodAll_mk1 (shut_bool Try.underlying4 _), (trodAll_cons_mk (Below.trod laidOut (by kernel_rfl) (of_decide_eq_true (by kernel_rfl)) k0 bel lt0) (trodAll_cons_mk (Below.trod laidOut (by kernel_rfl) (of_decide_eq_true (by kernel_rfl)) k1 bel lt1) (trodAll_cons_mk (Below.trod laidOut (by kernel_rfl) (of_decide_eq_true (by kernel_rfl)) k2 bel lt2) trodAll_mk0))), rfl, bel.frame _, fun h => by cases h⟩

theorem DeduceLearns_over : Rows.deduceLearnsRow.holds Try.pinned (OpenSpec.ofChange Rows.deduceLearnsSpec) :=
  OpenClaim.holds_of_wide 5 Try.f5 rfl rfl rfl rfl rfl rfl rfl ⟨rfl, rfl, rfl, rfl, rfl⟩ rfl rfl rfl rfl rfl (by kernel_rfl) Try.func5 (by kernel_rfl)
    (of_decide_eq_true (by kernel_rfl)) (by unfold Func.isWrapper; first | (rw [if_pos (by decide +kernel)]; kernel_rfl) | (rw [if_neg (by decide +kernel)]; exact ⟨rfl, rfl⟩))
    (fun os started H enc _ => DeduceLearns_lifted os started H enc)

theorem DeduceLearns_holds : Rows.DeduceLearnsSaid := DeduceLearns_over
#print axioms DeduceLearns_holds

end Go.Proofs.Ytfpimmbjjcpobaa
