/- The walk of law TermPlays. -/
import Derived.Test.YtfpimmbjjcpobaaGreatDoorBkTG
import Derived.Deep.QuietTactic
namespace Go.Proofs.YtfpimmbjjcpobaaGreatDoor
open Go.RowKit Go.Maps

theorem NIs.get {w : World} {a : Option Addr} {cap : Nat} {l : List Int} (h : NIs w (.slice a l.length cap) l) {i : Nat} {z : Int} (hi : l[i]? = some z) : ∃ g o, a = some ⟨g, o, none⟩ ∧ ∀ W, Below w.heap.size w W → W.cell? ⟨g, o + i, none⟩ = some (.int .i64 z) := by
  obtain ⟨a', cap', hv, _, _, hc⟩ := h
  cases hv
  rcases hc with c | ⟨g, o, rfl, hc⟩
  · rw [c] at hi; simp at hi
  · refine ⟨g, o, rfl, fun W hW => ?_⟩
    have := hc i z hi
    rw [World.cell?_of_block (w := w) (hW.block _ (lt_of_cell this))]; exact this
theorem fill_good (l L : List Tm) (h : Good L) : Good (fillL L l) := by
  induction l generalizing L with
  | nil => exact h
  | cons t l ih => exact ih _ (h.made t)
theorem TmRow.slice {B : Nat} {w : World} {v : Value} {l : List Tm} (h : TmRow B w v l) : ∃ a c, v = .slice a l.length c := by
  rcases h.form with ⟨rfl, rfl⟩ | ⟨g, cap, hv, _⟩
  · exact ⟨_, _, rfl⟩
  · exact ⟨_, _, hv⟩
theorem tat_new' (w : World) (u : Tm) (t : TypeId) : TAt (w.alloc (.cells #[.int .u8 u.kd, .int .i64 u.n, .int .i64 u.a, .int .i64 u.b] t)) w.heap.size 0 u := by
  unfold TAt World.cell?; simp only [heap_alloc_new]; exact ⟨rfl, rfl, rfl, rfl⟩

set_option maxRecDepth 100000 in
set_option maxHeartbeats 20000000 in
theorem TermPlays_walk (w : World) (a1 : Option Addr) (cap1 : Nat) (l : List Tm) (h1 : Tms w (.slice a1 l.length cap1) l) (hok1 : ∀ t ∈ l, t.ok) (a2 : Option Addr) (cap2 : Nat) (lk : List Int) (h2 : NIs w (.slice a2 lk.length cap2) lk) :
    Calls Tryz.prog 3 #[.slice a1 l.length cap1, .slice a2 lk.length cap2] w fun e w' => e = .returned (.bool true) ∧ Below w.heap.size w w' := by
  obtain ⟨hl1, hdrop⟩ := h1.get
  clear hdrop
  have hl2 : lk.length ≤ 140737488355328 := by obtain ⟨_, _, _, h, _⟩ := h2; exact h
  have hcl := trivial
  by_cases big0 : 2000 < l.length
  · have g0 : (2000 : Int) < (l.length : Int) := by omega
    have t0 : (l.length : Int) ≤ 140737488355328 := by omega
    have t1 : (lk.length : Int) ≤ 140737488355328 := by omega
    generalize l.length = N0 at *
    generalize lk.length = N1 at *
    clear big0  hcl
    go_enter Tryz.func3, Tryz.ntmps3
    go_wp2_with fail
    go_ret
    exact ⟨rfl, Below.refl _ _⟩
  by_cases big1 : 50 < lk.length
  · have g1 : (50 : Int) < (lk.length : Int) := by omega
    have s0 : ¬ ((2000 : Int) < (l.length : Int)) := by omega
    have t0 : (l.length : Int) ≤ 140737488355328 := by omega
    have t1 : (lk.length : Int) ≤ 140737488355328 := by omega
    generalize l.length = N0 at *
    generalize lk.length = N1 at *
    clear big1 big0 hcl
    go_enter Tryz.func3, Tryz.ntmps3
    go_wp2_with fail
    go_ret
    exact ⟨rfl, Below.refl _ _⟩
  have s0 : ¬ ((2000 : Int) < (l.length : Int)) := by omega
  have s1 : ¬ ((50 : Int) < (lk.length : Int)) := by omega
  have KB := build_any w a1 cap1 l h1 hok1 (by omega)
  have hfl := fillL_len l []
  simp only [List.length_nil, Nat.zero_add] at hfl
  have HI := hide (And.intro h2 (And.intro (Nat.le_trans hfl (Nat.le_of_not_lt big0)) (And.intro (fill_good l [] good_nil) big1)))
  have hLn : ((fillL [] l).length : Int) ≤ 2000 := by omega
  clear h1 hok1 h2 hl1 hl2 hcl big0 big1 hfl
  obtain ⟨N1, hN1⟩ : ∃ N1, N1 = l.length := ⟨_, rfl⟩
  obtain ⟨N2, hN2⟩ : ∃ N2, N2 = lk.length := ⟨_, rfl⟩
  rw [← hN1] at s0 KB ⊢
  rw [← hN2] at s1 ⊢
  have HN := hide hN2
  clear hN1 hN2
  generalize fillL [] l = L at *
  obtain ⟨M, hM⟩ : ∃ M, M = L.length := ⟨_, rfl⟩
  rw [← hM] at hLn
  have HM := hide hM
  clear hM
  go_enter Tryz.func3, Tryz.ntmps3
  go_wp2_with fail
  refine KB.mono ?_
  rintro e w1 ⟨b, sv, mb, rb, rv, rfl, two⟩
  clear KB s0
  have KL : ∀ n, Calls Tryz.prog 5 #[.pointer (some ⟨b, 0, none⟩)] (w1.drewN n) fun e w' => e = .returned (.int .i64 (M : Int)) ∧ w' = w1.drewN n := fun n => by
    have := len_any b sv mb L (w1.drewN n) (two.st.bw (below_drewN (Below.refl _ _) n))
    rw [← unhide HM] at this
    exact this
  obtain ⟨ra, rc, hrv⟩ := two.rs.form
  have r0 := two.rs.cells.1
  rw [hrv, ← unhide HM] at r0
  have HTwo := hide two
  clear two hrv
  go_upto_region 4 with fail
  go_quiet (first | (go_at_call 5; exact Calls.quiet_of_same (KL _)))
  generalize hW : w1.drewN _ = W
  have T0 : Hid (Tp w (W.alloc (.cells (bookCells 0 nilS) 66)) b sv mb rb rv L W.heap.size (.slice none 0 0) [] []) := by
    rw [← hW]; exact Tp.start ((unhide HTwo).new (below_drewN (Below.refl _ _) _))
  clear hW HTwo KL r0
  obtain ⟨bb, hbb⟩ : ∃ bb, bb = W.heap.size := ⟨_, rfl⟩
  have HBB := hide hbb
  have T1 : Hid (∀ W', W' = W.alloc (.cells (bookCells 0 nilS) 66) → Tp w W' b sv mb rb rv L bb (.slice none 0 0) [] []) := fun W' e => by rw [e, hbb]; exact unhide T0
  clear T0
  go_wp2_with fail
  rw [← hbb]
  clear hbb
  go_loopw [9] (fun iv wr => ∃ (i : Nat) (lv : Value) (vs : List Value) (ls : List (List Tm)), i ≤ N2 ∧ iv = .int .i64 (i : Int) ∧ Hid (Tp w wr b sv mb rb rv L bb lv vs ls ∧ vs.length = i ∧ (∀ l ∈ ls, l.length ≤ 1048576) ∧ (i = 0 → lv = .slice none 0 0))) (fun iv _ => (N2 - intOf iv).toNat)
  case atStart => exact ⟨0, _, [], [], by omega, rfl, unhide T1 _ rfl, rfl, by simp, fun _ => rfl⟩
  case round =>
    clear T1
    obtain ⟨i, lv, vs, ls, hi, rfl, HR⟩ := hrel
    by_cases hlt : i < N2
    · obtain ⟨x, hx⟩ : ∃ x, lk[i]? = some x := ⟨_, List.getElem?_eq_getElem (by have := unhide HN; omega)⟩
      obtain ⟨g, o, hg, hc⟩ := (unhide HI).1.get hx
      subst hg
      obtain ⟨tp, _, _, _⟩ := unhide HR
      have cz := hc wr tp.two.bel
      have hi1 : (i : Int) < (N2 : Int) := by omega
      have hok := getT_ok tp.two.st x
      have hsh := dag_short tp.two.st.good x
      have he := fun W => equal_tm W hok hok
      rw [decide_eq_true rfl] at he
      unfold tmV at he
      have K1 := get_any b sv mb L x wr tp.two.st
      have KR : Hid (∀ V, Below wr.heap.size wr V → _) := fun V hV => rget_any rb rv L x V (tp.two.rs.bw hV)
      have KD : Hid (∀ V, Below wr.heap.size wr V → _) := fun V hV => dag_any b sv mb L x V (tp.two.st.bw hV)
      have KQ : Hid (∀ V, Below wr.heap.size wr V → _) := fun V hV => rdag_any rb rv L x V (tp.two.rs.bw hV)
      have HC := hide (fun W (h : Below wr.heap.size wr W) => hc W (bw_tr tp.two.bel h))
      have HX := hide (And.intro hx hsh)
      have HE := hide he
      clear hx hc tp hok hsh he
      generalize getT L x = t at *
      generalize thr L.length x = tb at *
      go_wp2_with fail
      refine K1.mono ?_
      rintro e z1 ⟨rfl, b1⟩
      obtain ⟨W1, hW1⟩ : ∃ W1, W1 = z1.alloc (.cells #[.int .u8 t.kd, .int .i64 t.n, .int .i64 t.a, .int .i64 t.b] 69) := ⟨_, rfl⟩
      have bW1 : Below wr.heap.size wr W1 := by rw [hW1]; exact b1.alloc b1.size _
      have ta1 : TAt W1 z1.heap.size 0 t := by rw [hW1]; exact tat_new' z1 t _
      have cz1 := unhide HC _ bW1
      have K2 := unhide KR _ bW1
      have HW1 := hide hW1
      clear K1 b1 hW1 cz KR
      go_upto_region 11 with fail
      rw [← unhide HW1]
      generalize z1.heap.size = q1 at ta1 ⊢
      clear HW1 z1
      have HT1 := hide (And.intro bW1 ta1)
      clear bW1 ta1
      go_wp2_with fail
      refine K2.mono ?_
      rintro e z2 ⟨rfl, b2⟩
      obtain ⟨W2, hW2⟩ : ∃ W2, W2 = z2.alloc (.cells #[.int .u8 t.kd, .int .i64 t.n, .int .i64 t.a, .int .i64 t.b] 69) := ⟨_, rfl⟩
      have bb2 : Below W1.heap.size W1 W2 := by rw [hW2]; exact b2.alloc b2.size _
      have bW2 := bw_tr (unhide HT1).1 bb2
      have ta2 : TAt W2 z2.heap.size 0 t := by rw [hW2]; exact tat_new' z2 t _
      have ta1 := (unhide HT1).2.keep (bb2.block q1 (unhide HT1).2.lt)
      have cz2 := unhide HC _ bW2
      have K3 := unhide KD _ bW2
      have HW2 := hide hW2
      clear K2 b2 hW2 cz1 KD bb2 HT1
      go_upto_region 12 with fail
      rw [← unhide HW2]
      generalize z2.heap.size = q2 at ta2 ⊢
      clear HW2 z2 W1
      have HT2 := hide (And.intro bW2 (And.intro ta1 ta2))
      clear bW2 ta1 ta2
      go_wp2_with fail
      refine K3.mono ?_
      rintro e w3 ⟨v3, rfl, r3, b3⟩
      have b23 := bw_tr (unhide HT2).1 b3
      obtain ⟨p3, c3, hv3⟩ := r3.slice
      have K4 := unhide KQ _ b23
      have cz3 := unhide HC _ b23
      obtain ⟨x0, x1, x2, x3⟩ := (unhide HT2).2.1.keep (b3.block q1 (unhide HT2).2.1.lt)
      obtain ⟨y0, y1, y2, y3⟩ := (unhide HT2).2.2.keep (b3.block q2 (unhide HT2).2.2.lt)
      simp only [Nat.zero_add] at x1 x2 x3 y1 y2 y3
      obtain ⟨D, hD⟩ : ∃ D, D = dag L x := ⟨_, rfl⟩
      rw [← hD] at hv3 r3 K4
      have hDl : D.length ≤ 1048576 := by rw [hD]; exact (unhide HX).2
      obtain ⟨dl, hdl⟩ : ∃ dl, dl = D.length := ⟨_, rfl⟩
      rw [← hdl] at hv3
      subst hv3
      have HD := hide (And.intro r3 (And.intro b3 (And.intro b23 (And.intro hdl hDl))))
      have he := unhide HE
      have hbe : (tb == tb) = true := by simp
      have hbn : (tb != tb) = false := by simp
      clear K3 r3 b3 b23 hdl hDl cz2 hD KQ HC
      go_wp2_with fail
      refine K4.mono ?_
      rintro e w4 ⟨v4, rfl, r4, b4⟩
      obtain ⟨r3, b3, b23, hdl, hDl⟩ := unhide HD
      have KS := same_any _ _ D D w4 ((r3.bw b4).tms (by omega)) (r4.tms (by omega))
      have hdd : decide (D = D) = true := decide_eq_true rfl
      rw [hdd] at KS
      have HB4 := hide b4
      clear K4 r4 b4 r3 b3 b23 hdl hDl x0 x1 x2 x3 y0 y1 y2 y3 hdd he cz3
      go_wp2_with fail
      refine KS.mono ?_
      rintro e w5 ⟨rfl, b5⟩
      have T5 : Hid (Below W2.heap.size W2 w5 ∧ TmRow W2.heap.size w5 (.slice p3 dl c3) D ∧ Tp w W2 b sv mb rb rv L bb lv vs ls) := by
        obtain ⟨r3, b3, b23, hdl, hDl⟩ := unhide HD
        have hb := bw_tr (unhide HB4) b5
        exact ⟨bw_tr b3 hb, r3.bw hb, (unhide HR).1.new (unhide HT2).1⟩
      have K6 := terms_any w.heap.size bb lv vs p3 dl c3 w5 (((unhide T5).2.2.new (unhide T5).1).hl.bk) (((unhide T5).2.2.new (unhide T5).1).two.bel.size) (by have := (unhide HR).2.1; have := (unhide HI).2.2.2; have := unhide HN; omega)
      clear KS b5 HB4
      go_wp2_with fail
      refine K6.mono ?_
      rintro e w6 ⟨rfl, lv6, bk6, f6, _⟩
      have HE6 : Hid (Tp w w6 b sv mb rb rv L bb lv6 (vs ++ [.slice p3 dl c3]) (ls ++ [D]) ∧ (vs ++ [Value.slice p3 dl c3]).length = i + 1 ∧ (∀ l ∈ ls ++ [D], l.length ≤ 1048576) ∧ (i + 1 = 0 → lv6 = .slice none 0 0)) := by
        refine ⟨(unhide T5).2.2.kept (unhide T5).1 (unhide T5).2.1 bk6 f6, by simp [(unhide HR).2.1], fun y hy => ?_, fun c => by omega⟩
        rcases List.mem_append.1 hy with c | c
        · exact (unhide HR).2.2.1 y c
        · simp at c; subst c; exact (unhide HD).2.2.2.2
      clear K6 bk6 f6
      go_wp2_with fail
      go_roundw
      case rel => exact ⟨i + 1, lv6, _, _, by omega, by go_num, HE6⟩
      case measure => simp only [intOf]; omega
    · obtain rfl : i = N2 := by omega
      obtain ⟨tp, h1, h2, h3⟩ := unhide HR
      have KA := apart_any w.heap.size bb lv vs ls wr tp.hl (by
        rcases Nat.eq_zero_or_pos i with c | c
        · exact Or.inr ⟨by omega, h3 c⟩
        · exact Or.inl (by omega)) (by have := (unhide HI).2.2.2; have := unhide HN; omega) h2 tp.two.bel.size
      have HB := hide tp.two.bel
      clear tp h1 h2 h3 HR hlt hi
      go_wp2_with fail
      refine KA.mono ?_
      rintro e w5 ⟨rfl, b5⟩
      have hb := (unhide HB).trans b5
      clear KA b5
      go_wp2_with fail
      refine (lives_any _).mono ?_
      rintro e w9 ⟨rfl, hb9⟩
      have hbb := bw_tr hb hb9
      go_wp2_with fail
      go_ret
      exact ⟨rfl, hbb⟩

end Go.Proofs.YtfpimmbjjcpobaaGreatDoor
