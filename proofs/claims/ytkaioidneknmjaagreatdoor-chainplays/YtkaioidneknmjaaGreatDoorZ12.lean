/- Texts joined: ChI ChJ ChK ChR. -/
import Derived.Test.YtkaioidneknmjaaGreatDoorChH
import Derived.Test.YtkaioidneknmjaaGreatDoorZ11
import Derived.Test.YtkaioidneknmjaaGreatDoorZ03
/- The contracts of Has and New; a chain beside other things. -/
namespace Go.Proofs.YtkaioidneknmjaaGreatDoor.Tn
open Go.RowKit Go.Maps

theorem nrow_snoc {w wr w1 : World} {lv v' : Value} {cur : List Nat} {o : Obj} (c : Nat) (hb : Below w.heap.size w wr) (hown : NRow w.heap.size wr lv cur) (hown' : w1.ownsRow w.heap.size 3 1 v' (cur.length + 1) (cur.map (fun m => .int .i64 ((m : Nat) : Int)) ++ [.int .i64 (c : Int)])) (hg : (wr.alloc o).grownBy w1 lv.ownBlock) : NRow w.heap.size w1 v' (cur ++ [c]) ∧ Below w.heap.size w w1 := by
  refine ⟨by unfold NRow; simpa using hown', ?_⟩
  have f1 : Fr lv.ownBlock.toList wr w1 := ((Fr.refl lv.ownBlock.toList wr).alloc o).tr (Fr.ofGrown hg)
  exact Fr.toBase hb f1 (fun x hx => (hown.lt x (by simpa using hx)).1)
set_option maxRecDepth 100000 in
set_option maxHeartbeats 4000000 in
theorem has_at {W : World} {c b lm : Nat} {l : Lfs} {nx x : Nat} (h : Cn W c b lm l nx x) (hll : l.length ≤ 100) (hnx : nx ≤ 1000000000) :
    Calls Tryz.prog 8 #[.pointer (some ⟨c, 0, none⟩)] W fun e W' => ∃ v, e = .returned v ∧ NRow W.heap.size W' v (l.map (·.2) ++ [x]) ∧ Below W.heap.size W W' := by
  obtain ⟨j0, hj, hy0, hy1, hy2⟩ := info_parts Tryz.infoInt
  obtain ⟨c0, c1, c2, c3⟩ := h.cells
  have KM := hide (chmissing_at W c lm c1)
  have KK := hide (keysI (some lm) W)
  have KS := hide (sorted_left h.map h.lf (by omega))
  have HC : Hid (∀ W', Below W.heap.size W W' → W'.cell? ⟨c, 1, none⟩ = some (.map (some lm)) ∧ W'.cell? ⟨c, 3, none⟩ = some (.int .i64 (x : Int)) ∧ ∀ p ∈ l, (Instr.lookup 37 (.map (some lm)) (.int .i64 (p.1 : Int)) false).run Tryz.prog W' = .ok (.int .i64 (p.2 : Int)) W') := fun W' hb => by
    have h' := h.bw hb
    refine ⟨h'.cells.2.1, h'.cells.2.2.2, fun p hp => ?_⟩
    have := h'.map.look (k := (p.1 : Int)) ⟨by omega, by have := h.lf.lt p hp; omega⟩
    unfold lkV at this
    rw [lkp_of_mem h.lf hp] at this
    exact this
  obtain ⟨N, hN⟩ : ∃ N, N = l.length := ⟨_, rfl⟩
  have hNI : (N : Int) ≤ 100 := by omega
  have HN := hide (And.intro hN hll)
  clear h hll hnx hN c0 c2 c3
  go_enter Tryz.func8, Tryz.ntmps8
  go_wp2_with fail
  refine (unhide KM).mono ?_
  rintro e W ⟨rfl, rfl⟩
  clear KM
  go_wp2_with fail
  refine (unhide KK).mono ?_
  rintro e w2 ⟨rfl, rfl⟩
  clear KK
  go_wp2_with fail
  refine (unhide KS).mono ?_
  rintro e W1 ⟨v, rfl, r1, b1, lo⟩
  obtain ⟨va, vc, hv⟩ := own_slice r1
  rw [List.length_map, ← (unhide HN).1] at hv
  subst hv
  have HV : Hid (∀ W', Below W1.heap.size W1 W' → ∀ i p, l[i]? = some p → ∃ g, va = some ⟨g, 0, none⟩ ∧ W'.cell? ⟨g, i, none⟩ = some (.int .i64 (p.1 : Int))) := fun W' hb i p hp => by
    have r2 : NRow 0 W' (.slice va N vc) (l.map (·.1)) := r1.keep (fun k hk => hb.block k (r1.lt k hk).2)
    obtain ⟨g, cap, e, -⟩ := own_open r2 (by rw [List.length_map]; have := (List.getElem?_eq_some_iff.1 hp).1; omega)
    simp only [Value.slice.injEq] at e
    obtain ⟨e1, -, -⟩ := e
    subst e1
    exact ⟨g, rfl, r2.at rfl (by simp [hp])⟩
  have B1 := hide b1
  clear KS r1 lo b1 c1
  have hs1 := (unhide B1).size
  go_wp2_with fail
  go_loopw [3, 15] (fun lv iv wr => ∃ i : Nat, iv = .int .i64 (i : Int) ∧ i ≤ N ∧ Hid (NRow W1.heap.size wr lv ((l.take i).map (·.2)) ∧ Below W1.heap.size W1 wr)) (fun _ iv _ => (N - intOf iv).toNat)
  case atStart => exact ⟨0, rfl, by omega, ⟨NRow.nil _ _, Below.refl _ _⟩⟩
  case round =>
    obtain ⟨i, rfl, hi, HR⟩ := hrel
    have hb := bw_tr (unhide B1) (unhide HR).2
    by_cases hlt : i < N
    · obtain ⟨p, hp⟩ : ∃ p, l[i]? = some p := ⟨_, List.getElem?_eq_getElem (by rw [← (unhide HN).1]; exact hlt)⟩
      obtain ⟨d1, d2, d3⟩ := unhide HC _ hb
      have d4 := d3 p (List.mem_of_getElem? hp)
      obtain ⟨g, rfl, dg⟩ := unhide HV _ (unhide HR).2 i p hp
      have q1 : (i : Int) < (N : Int) := by omega
      have q0 : (0 : Int) ≤ (i : Int) := by omega
      have hsn : Hid ((l.take (i + 1)).map (·.2) = (l.take i).map (·.2) ++ [p.2]) := by unfold Hid; rw [List.take_add_one, hp]; simp
      obtain ⟨cur, hcur⟩ : ∃ cur, cur = (l.take i).map (·.2) := ⟨_, rfl⟩
      have hcl : cur.length = i := by rw [hcur]; simp; have := (unhide HN).1; omega
      rw [← hcur] at HR hsn
      have hrow : wr.ownsRow W1.heap.size 3 1 u3 i (cur.map (fun m => .int .i64 ((m : Nat) : Int))) := by have := (unhide HR).1; unfold NRow at this; rw [hcl] at this; exact this
      have hsz := (unhide HR).2.size
      have HCL := hide hcl
      clear hcur hp d3 d2 hcl
      generalize p.1 = p1 at *
      generalize p.2 = p2 at *
      go_wp2_with (at_builtin; refine wpList_append_own _ rfl (.tmp 19) (.tmp 26) 23 rfl W1.heap.size 3 j0 (.int .i64 0) 1 8 Tryz.underlying23 hj hy0 hy1 hy2 rfl (by decide) _ i _ rfl (World.ownsRow.alloc hrow _) ⟨wr.heap.size, 0, none⟩ 1 1 [_] rfl rfl (cell_one_new _ _ _) ?c2 ?c3 ?c4 ?c5 ?nx)
      case c2 => intro u hu; simp at hu; subst hu; rfl
      case c3 => unfold maxLen; omega
      case c4 => omega
      case c5 => simp; omega
      case nx =>
        intro v' w4 hown' hgrow _
        have R := nrow_snoc p2 (unhide HR).2 (unhide HR).1 (by rw [unhide HCL]; exact hown') hgrow
        rw [← unhide hsn] at R
        have HR2 := hide R
        clear hown' hgrow R hrow HR dg d1 d4
        go_wp2_with fail
        go_roundw
        case rel => exact ⟨i + 1, by go_num, by omega, HR2⟩
        case measure => simp only [intOf]; omega
    · obtain rfl : i = N := by omega
      obtain ⟨-, d2, -⟩ := unhide HC _ hb
      have e : l.take i = l := List.take_of_length_le (by rw [(unhide HN).1]; exact Nat.le_refl _)
      rw [e] at HR
      obtain ⟨cur, hcur⟩ : ∃ cur, cur = l.map (·.2) := ⟨_, rfl⟩
      rw [← hcur] at HR
      have hcl : cur.length = i := by rw [hcur, List.length_map]; exact (unhide HN).1.symm
      have hrow : wr.ownsRow W1.heap.size 3 1 u3 i (cur.map (fun m => .int .i64 ((m : Nat) : Int))) := by have := (unhide HR).1; unfold NRow at this; rw [hcl] at this; exact this
      have hsz := (unhide HR).2.size
      have HCL := hide (And.intro hcl hcur)
      have hle := (unhide HN).2
      have hie := (unhide HN).1
      rw [← hie] at hle
      clear hcur hcl e hlt hi hie
      go_wp2_with (at_builtin; refine wpList_append_own _ rfl (.tmp 29) (.tmp 34) 23 rfl W1.heap.size 3 j0 (.int .i64 0) 1 8 Tryz.underlying23 hj hy0 hy1 hy2 rfl (by decide) _ i _ rfl (World.ownsRow.alloc hrow _) ⟨wr.heap.size, 0, none⟩ 1 1 [_] rfl rfl (cell_one_new _ _ _) ?c2 ?c3 ?c4 ?c5 ?nx)
      case c2 => intro u hu; simp at hu; subst hu; rfl
      case c3 => unfold maxLen; omega
      case c4 => omega
      case c5 => simp; omega
      case nx =>
        intro v' w4 hown' hgrow _
        have R := nrow_snoc x (unhide HR).2 (unhide HR).1 (by rw [(unhide HCL).1]; exact hown') hgrow
        rw [(unhide HCL).2] at R
        have HR2 : Hid (NRow W.heap.size w4 v' (l.map (·.2) ++ [x]) ∧ Below W.heap.size W w4) := ⟨own_monoT R.1 hs1, bw_tr (unhide B1) R.2⟩
        clear hown' hgrow R hrow HR d2
        go_wp2
        go_ret
        exact ⟨v', rfl, (unhide HR2).1, (unhide HR2).2⟩
set_option maxRecDepth 100000 in
set_option maxHeartbeats 4000000 in
theorem new_ok {b : Nat} {sv : Value} {mb : Nat} {L : List Tm} {w : World} (h : St w b sv mb L) (app snd : Int) (ha : thr L.length app = true) (hs : i64r snd) (hl : L.length + 10 ≤ 1048575) :
    Calls Tryz.prog 5 #[.pointer (some ⟨b, 0, none⟩), .int .i64 app, .int .i64 snd] w fun e w' => ∃ c lm sv', e = .returned (.tuple #[.pointer (some ⟨c, 0, none⟩), .int .i64 0]) ∧ CS (w, foot b sv mb) w' c b sv' mb lm (beg L app snd).1 [] 0 (beg L app snd).2 := by
  obtain ⟨w0, hw0⟩ : ∃ w0, w0 = (w.alloc (.cells #[.int .i64 app] 3)).alloc (.cells #[.int .i64 snd] 3) := ⟨_, rfl⟩
  obtain ⟨y0, y1, x0⟩ := blk2c w (.cells #[.int .i64 app] 3) (.cells #[.int .i64 snd] 3)
  rw [← hw0] at y0 y1 x0
  have HW := hide hw0
  have S0 : Hid (SStep w w0 b sv sv mb L) := SStep.same h x0
  have KMi := hide (hmissing_any (unhide S0).st)
  have KH := hide (hhas_any (unhide S0).st app)
  rw [ha] at KH
  have KA : Hid (∀ W, Below w0.heap.size w0 W → Calls Tryz.prog 22 #[.pointer (some ⟨b, 0, none⟩), .int .i64 2, .func (.func 23) #[] #[.pointer (some ⟨w.heap.size, 0, none⟩), .pointer (some ⟨w.heap.size + 1, 0, none⟩)]] W fun e w' => e = .returned (.tuple #[.int .i64 ((beg L app snd).2 : Nat), .int .i64 0]) ∧ ∃ sv', SStep W w' b sv sv' mb (beg L app snd).1) := fun W hW =>
    aonI_new ((unhide S0).st.bw hW) 2 (by omega) (by omega) _ _ _ (new1_any ((unhide S0).st.bw hW) app snd ha hs (by omega) _ _ (blk_cell (kept_blk y0 hW) rfl) (blk_cell (kept_blk y1 hW) rfl))
  have z0 : w0.cell? ⟨w.heap.size, 0, none⟩ = some (.int .i64 app) := blk_cell y0 rfl
  have HF : Hid (∀ (W' : World) (sv' : Value), SStep w W' b sv sv' mb (beg L app snd).1 → CS (w, foot b sv mb) ((W'.alloc (.map #[] 0)).alloc (.cells #[.pointer (some ⟨b, 0, none⟩), .map (some W'.heap.size), .int .i64 0, .int .i64 ((beg L app snd).2 : Nat)] 39)) (W'.heap.size + 1) b sv' mb W'.heap.size (beg L app snd).1 [] 0 (beg L app snd).2) := fun W' sv' s => by
    obtain ⟨k1, k2, hb⟩ := blk2c W' (.map #[] 0) (.cells #[.pointer (some ⟨b, 0, none⟩), .map (some W'.heap.size), .int .i64 0, .int .i64 ((beg L app snd).2 : Nat)] 39)
    have s2 := s.after hb
    have hlt := s.st.lt
    have m := go_S s2
    refine ⟨s2.st, ⟨k2, ?_, Lf.nil _⟩, fun q => ?_, ⟨s2.fr, fun x hx => ?_⟩⟩
    · exact (IMap.made W').keep (Below.heap_alloc _ _ _ (by simp))
    · have := hlt _ q; omega
    · have hsz := s.fr.size
      simp at hx
      rcases hx with rfl | rfl | hx
      · right; simp only; omega
      · right; simp only; omega
      · exact m.place x hx
  clear h ha hs hl hw0 y0 y1
  generalize (beg L app snd).1 = L2 at *
  generalize (beg L app snd).2 = x at *
  go_enter Tryz.func5, Tryz.ntmps5
  go_upto_region 1 with fail
  rw [← unhide HW]
  clear HW
  go_wp2_with fail
  refine (unhide KMi).mono ?_
  rintro e w1 ⟨rfl, rfl⟩
  clear KMi
  go_wp2_with fail
  refine (unhide KH).mono ?_
  rintro e w2 ⟨rfl, b2⟩
  have S2 := hide ((unhide S0).after b2)
  have K2 := hide (unhide KA _ b2)
  clear KH z0 KA b2 S0
  go_wp2_with fail
  refine (unhide K2).mono ?_
  rintro e w4 ⟨rfl, sv4, s4⟩
  have HC := hide (unhide HF w4 sv4 ((unhide S2).trans s4))
  clear s4 S2 K2 HF x0
  have hmm := @run_makeMap Tryz.prog
  go_wp2
  go_ret2
  exact ⟨_, _, sv4, rfl, unhide HC⟩
set_option maxRecDepth 100000 in
set_option maxHeartbeats 4000000 in
theorem new_err {b : Nat} {sv : Value} {mb : Nat} {L : List Tm} {w : World} (h : St w b sv mb L) (app snd : Int) (ha : thr L.length app = false) :
    Calls Tryz.prog 5 #[.pointer (some ⟨b, 0, none⟩), .int .i64 app, .int .i64 snd] w fun e w' => e = .returned (.tuple #[.pointer none, .int .i64 1]) ∧ Below w.heap.size w w' := by
  obtain ⟨w0, hw0⟩ : ∃ w0, w0 = (w.alloc (.cells #[.int .i64 app] 3)).alloc (.cells #[.int .i64 snd] 3) := ⟨_, rfl⟩
  obtain ⟨y0, y1, x0⟩ := blk2c w (.cells #[.int .i64 app] 3) (.cells #[.int .i64 snd] 3)
  rw [← hw0] at y0 y1 x0
  have HW := hide hw0
  have S0 := hide (h.bw x0)
  have KMi := hide (hmissing_any (unhide S0))
  have KH := hide (hhas_any (unhide S0) app)
  rw [ha] at KH
  have z0 : w0.cell? ⟨w.heap.size, 0, none⟩ = some (.int .i64 app) := blk_cell y0 rfl
  clear h ha hw0 y0 y1 S0
  go_enter Tryz.func5, Tryz.ntmps5
  go_upto_region 1 with fail
  rw [← unhide HW]
  clear HW
  go_wp2_with fail
  refine (unhide KMi).mono ?_
  rintro e w1 ⟨rfl, rfl⟩
  clear KMi
  go_wp2_with fail
  refine (unhide KH).mono ?_
  rintro e w2 ⟨rfl, b2⟩
  have b3 := bw_tr x0 b2
  clear KH z0 b2 x0
  go_wp2
  go_ret2
  exact ⟨rfl, b3⟩
/-- A chain beside other things. -/
def resCh (c b mb lm : Nat) (sv : Value) (s : Cst) : Res :=
  ⟨c :: lm :: foot b sv mb, fun W => St W b sv mb s.L ∧ Cn W c b lm s.l s.nx s.x ∧ lm ∉ foot b sv mb,
   fun w w' S h hf hd => ⟨h.1.keep hf (fun x hx => hd x (by simp [hx])), h.2.1.keep (hf.block c (lt_of_blk h.2.1.blk) (hd c (by simp))) (hf.block lm h.2.1.map.lt (hd lm (by simp))), h.2.2⟩,
   fun w h x hx => by
     simp at hx
     rcases hx with rfl | rfl | hx
     · exact lt_of_blk h.2.1.blk
     · exact h.2.1.map.lt
     · exact h.1.lt x hx⟩
def ECh (w W : World) (c b mb : Nat) (s : Cst) (rs : List Res) : Prop := ∃ lm sv, Env w W (resCh c b mb lm sv s :: rs)
theorem ECh.of {w W W' : World} {c b mb : Nat} {s' : Cst} {rs : List Res} {r : Res} (h : Env w W (r :: rs)) (hc : CC (W, r.Z) W' c b mb s') : ECh w W' c b mb s' rs := by
  obtain ⟨sv', lm', cs⟩ := hc
  exact ⟨lm', sv', h.step (r' := resCh c b mb lm' sv' s') cs.mv ⟨cs.st, cs.cn, cs.ap⟩⟩
theorem env_take {w W : World} {c b mb : Nat} {s : Cst} {rs : List Res} (h : ECh w W c b mb s rs) (hk : Cok s 1000000) (n : Int) (hn : i64r n) :
    Calls Tryz.prog 7 #[.pointer (some ⟨c, 0, none⟩), .int .i64 n] W fun e W' => e = .returned (.tuple #[.int .i64 (s.ans n), .int .i64 (tkE s.l s.nx n)]) ∧ ECh w W' c b mb (s.take n) rs := by
  obtain ⟨lm, sv, e⟩ := h
  obtain ⟨h1, h2, h3⟩ := e.hd
  refine (take_any (w := (W, c :: lm :: foot b sv mb)) ⟨sv, lm, h1, h2, h3, Mv.refl _ _⟩ hk n hn).mono ?_
  rintro e' W' ⟨h4, h5⟩
  exact ⟨h4, ECh.of e h5⟩
theorem env_cnew {w W : World} {b : Nat} {sv : Value} {mb : Nat} {L : List Tm} {rs : List Res} (h : Env w W (resS b sv mb L :: rs)) (app snd : Int) (ha : thr L.length app = true) (hs : i64r snd) (hl : L.length + 10 ≤ 1048575) :
    Calls Tryz.prog 5 #[.pointer (some ⟨b, 0, none⟩), .int .i64 app, .int .i64 snd] W fun e W' => ∃ c, e = .returned (.tuple #[.pointer (some ⟨c, 0, none⟩), .int .i64 0]) ∧ ECh w W' c b mb ⟨(beg L app snd).1, [], 0, (beg L app snd).2⟩ rs := by
  refine (new_ok (L := L) h.hd app snd ha hs hl).mono ?_
  rintro e W' ⟨c, lm, sv', h4, h5⟩
  exact ⟨c, h4, lm, sv', h.step (r' := resCh c b mb lm sv' ⟨(beg L app snd).1, [], 0, (beg L app snd).2⟩) h5.mv ⟨h5.st, h5.cn, h5.ap⟩⟩
theorem env_chas {w W : World} {c b mb : Nat} {s : Cst} {rs : List Res} (h : ECh w W c b mb s rs) (hll : s.l.length ≤ 100) (hnx : s.nx ≤ 1000000000) :
    Calls Tryz.prog 8 #[.pointer (some ⟨c, 0, none⟩)] W fun e W' => ∃ v, e = .returned v ∧ NRow W.heap.size W' v (s.l.map (·.2) ++ [s.x]) ∧ Below W.heap.size W W' ∧ ECh w W' c b mb s rs := by
  obtain ⟨lm, sv, e⟩ := h
  obtain ⟨h1, h2, h3⟩ := e.hd
  refine (has_at h2 hll hnx).mono ?_
  rintro e' W' ⟨v, h4, h5, h6⟩
  exact ⟨v, h4, h5, h6, lm, sv, e.new h6⟩
theorem env_ckey {w W : World} {c b mb : Nat} {s : Cst} {rs : List Res} (h : ECh w W c b mb s rs) (app snd n : Int) (hs : i64r snd) (hl : s.L.length + 65540 ≤ 1048575) :
    Calls Tryz.prog 31 #[.pointer (some ⟨b, 0, none⟩), .int .i64 app, .int .i64 snd, .int .i64 n] W fun e W' => e = .returned (.tuple #[.int .i64 ((keyP s.L app snd n).2 : Nat), .int .i64 (keyE s.L app n)]) ∧ ECh w W' c b mb { s with L := (keyP s.L app snd n).1 } rs := by
  obtain ⟨lm, sv, e⟩ := h
  obtain ⟨h1, h2, h3⟩ := e.hd
  refine (key_any h1 app snd n hs hl).mono ?_
  rintro e' W' ⟨h4, sv', s5⟩
  have cs : CS (W, c :: lm :: foot b sv mb) W c b sv mb lm s.L s.l s.nx s.x := ⟨h1, h2, h3, Mv.refl _ _⟩
  exact ⟨h4, ECh.of (s' := { s with L := (keyP s.L app snd n).1 }) e ⟨sv', lm, cs.stepS s5⟩⟩
theorem env_key {w W : World} {b : Nat} {sv : Value} {mb : Nat} {L : List Tm} {rs : List Res} (h : Env w W (resS b sv mb L :: rs)) (app snd n : Int) (hs : i64r snd) (hl : L.length + 65540 ≤ 1048575) :
    Calls Tryz.prog 31 #[.pointer (some ⟨b, 0, none⟩), .int .i64 app, .int .i64 snd, .int .i64 n] W fun e W' => e = .returned (.tuple #[.int .i64 ((keyP L app snd n).2 : Nat), .int .i64 (keyE L app n)]) ∧ ∃ sv', Env w W' (resS b sv' mb (keyP L app snd n).1 :: rs) := by
  refine (key_any (L := L) h.hd app snd n hs hl).mono ?_
  rintro e' W' ⟨h4, sv', s5⟩
  exact ⟨h4, sv', h.step (r' := resS b sv' mb (keyP L app snd n).1) (go_S s5) s5.st⟩
end Go.Proofs.YtkaioidneknmjaaGreatDoor.Tn

/- What all statements of layer 11 end with: two keys, the second one first. -/
namespace Go.Proofs.YtkaioidneknmjaaGreatDoor.Tn
open Go.RowKit Go.Maps

theorem Cok.mono {s : Cst} {m m' : Nat} (h : Cok s m) (hm : m ≤ m') : Cok s m' := ⟨h.g, Nat.le_trans h.len hm, Nat.le_trans h.nx hm, h.ll, h.lf⟩
theorem Cok.take {s : Cst} {m : Nat} (h : Cok s m) (hm : m + 200 ≤ 1000000) (n : Int) : Cok (s.take n) (m + 200) := by
  unfold Cst.take
  split
  · refine ⟨h.g, Nat.le_trans h.len (by omega), Nat.le_trans h.nx (by omega), Nat.le_trans (List.length_filter_le _ _) h.ll, h.lf.rmv n⟩
  · split
    · next q =>
      unfold tkG at q
      simp only [Bool.and_eq_true, decide_eq_true_eq] at q
      obtain ⟨⟨⟨q1, -⟩, q2⟩, q3⟩ := q
      have hl := h.len
      have hx := h.nx
      have hd : (n - (s.nx : Int)).toNat + s.l.length ≤ 64 := by omega
      generalize (n - (s.nx : Int)).toNat = d at hd ⊢
      have hw := wkS_len (s.L, s.x) (d + 1)
      refine ⟨wkS_gd h.g (d + 1) (by simp only; omega), ?_, ?_, ?_, ?_⟩
      · show (wkS (s.L, s.x) (d + 1)).1.length ≤ _
        simp only at hw
        omega
      · show s.nx + d + 1 ≤ _
        omega
      · show (s.l ++ nlf (s.L, s.x) s.nx d).length ≤ _
        rw [List.length_append, nlf_len]
        omega
      · exact (lf_nlf h.lf d).mono (by show s.nx + d ≤ s.nx + d + 1; omega)
    · exact h.mono (by omega)
theorem cok_new {L : List Tm} {app snd : Int} (ha : thr L.length app = true) (hl : L.length ≤ 900000) : Cok ⟨(beg L app snd).1, [], 0, (beg L app snd).2⟩ (L.length + 2) :=
  ⟨beg_gd ha (by omega), (beg_len L app snd).1, by show 0 ≤ _; omega, by simp, Lf.nil _⟩
def lvL (n : Int) : List Tm := [⟨1, n, 0, 0⟩]
theorem terms1 (w : World) (n : Int) : Tms (w.alloc (.cells #[.int .u8 1, .int .i64 n, .int .i64 0, .int .i64 0] 89)) (.slice (some ⟨w.heap.size, 0, none⟩) 1 1) (lvL n) := by
  refine ⟨_, 1, rfl, by simp [lvL], Or.inr ⟨w.heap.size, 0, rfl, fun i t hi => ?_⟩⟩
  unfold TAt World.cell?
  simp only [heap_alloc_new]
  match i, hi with
  | 0, hi => simp [lvL] at hi; subst hi; exact ⟨rfl, rfl, rfl, rfl⟩
  | i + 1, hi => simp [lvL] at hi
theorem lvL_fill (n : Int) (hn : 0 ≤ n) : fillL [] (lvL n) = lvL n := by
  simp [fillL, lvL, mkL, may, hn]
theorem lvL_ok {n : Int} (h0 : 0 ≤ n) (h1 : n ≤ 9223372036854775807) : ∀ t ∈ lvL n, t.ok := by
  intro t ht; simp [lvL] at ht; subst ht; constructor <;> simp <;> omega
/-- A store of one term that is drawn, and the document's. -/
theorem build1 (w : World) (n : Int) (h0 : 0 ≤ n) (h1 : n ≤ 9223372036854775807) : Calls Tryz.prog 4 #[.slice (some ⟨w.heap.size, 0, none⟩) 1 1] (w.alloc (.cells #[.int .u8 1, .int .i64 n, .int .i64 0, .int .i64 0] 89)) fun e w' => ∃ b sv mb rb rv, e = .returned (.tuple #[.pointer (some ⟨b, 0, none⟩), .pointer (some ⟨rb, 0, none⟩), .bool true]) ∧ Env w w' [resS b sv mb (lvL n), resR rb rv (lvL n)] := by
  have KB := build_any (w.alloc (.cells #[.int .u8 1, .int .i64 n, .int .i64 0, .int .i64 0] 89)) (some ⟨w.heap.size, 0, none⟩) 1 (lvL n) (terms1 w n) (lvL_ok h0 h1) (by simp [lvL])
  rw [lvL_fill n h0] at KB
  refine KB.mono ?_
  rintro e w' ⟨b, sv, mb, rb, rv, h2, tw⟩
  refine ⟨b, sv, mb, rb, rv, h2, ?_⟩
  have e2 := Env.ofTwo tw
  have hx : Below w.heap.size w (w.alloc (.cells #[.int .u8 1, .int .i64 n, .int .i64 0, .int .i64 0] 89)) := bwA' _ _
  exact ⟨bw_tr hx e2.bel, e2.hold, fun r hr x hxx => Nat.le_trans hx.size (e2.low r hr x hxx), e2.dis⟩
def lv0s : Cst := ⟨(beg (lvL 1) 1 9).1, [], 0, (beg (lvL 1) 1 9).2⟩
theorem lv_facts : (lv0s.ans 1 = 6 ∧ tkE lv0s.l lv0s.nx 1 = 0) ∧ ((lv0s.take 1).ans 0 = 4 ∧ tkE (lv0s.take 1).l (lv0s.take 1).nx 0 = 0) ∧ (((lv0s.take 1).take 0).ans 0 = 0 ∧ tkE ((lv0s.take 1).take 0).l ((lv0s.take 1).take 0).nx 0 = 10) ∧ (keyP (((lv0s.take 1).take 0).take 0).L 1 9 0).2 = 4 ∧ keyE (((lv0s.take 1).take 0).take 0).L 1 0 = 0 ∧ (((lv0s.take 1).take 0).take 0).l = [] := by
  decide +kernel
set_option maxRecDepth 100000 in
set_option maxHeartbeats 4000000 in
theorem lives11 {w0 w : World} (hb0 : Below w0.heap.size w0 w) : Calls Tryz.prog 9 #[] w fun e w' => e = .returned (.bool true) ∧ Below w0.heap.size w0 w' := by
  have KB := hide (build1 w 1 (by omega) (by omega))
  have HX := hide hb0
  have q0 : Cok lv0s 3 := cok_new (by decide) (by decide)
  have q1 := q0.take (by omega) 1
  have q2 := q1.take (by omega) 0
  have q3 := q2.take (by omega) 0
  obtain ⟨⟨f1, f2⟩, ⟨f3, f4⟩, ⟨f5, f6⟩, f7, f8, f9⟩ := lv_facts
  have HQ := hide (And.intro q0 (And.intro q1 (And.intro q2 q3)))
  have HF9 := hide f9
  have KN : Hid (∀ W b sv mb rb rv, Env w W [resS b sv mb (lvL 1), resR rb rv (lvL 1)] → Calls Tryz.prog 5 #[.pointer (some ⟨b, 0, none⟩), .int .i64 1, .int .i64 9] W fun e W' => ∃ c, e = .returned (.tuple #[.pointer (some ⟨c, 0, none⟩), .int .i64 0]) ∧ ECh w W' c b mb lv0s [resR rb rv (lvL 1)]) := fun W b sv mb rb rv h => env_cnew h 1 9 (by decide) ⟨by omega, by omega⟩ (by decide)
  have KT1 : Hid (∀ W c b mb rs, ECh w W c b mb lv0s rs → Calls Tryz.prog 7 #[.pointer (some ⟨c, 0, none⟩), .int .i64 1] W fun e W' => e = .returned (.tuple #[.int .i64 6, .int .i64 0]) ∧ ECh w W' c b mb (lv0s.take 1) rs) := fun W c b mb rs h => by
    have := env_take h ((unhide HQ).1.mono (by omega)) 1 ⟨by omega, by omega⟩
    rw [f1, f2] at this
    exact this
  have KT2 : Hid (∀ W c b mb rs, ECh w W c b mb (lv0s.take 1) rs → Calls Tryz.prog 7 #[.pointer (some ⟨c, 0, none⟩), .int .i64 0] W fun e W' => e = .returned (.tuple #[.int .i64 4, .int .i64 0]) ∧ ECh w W' c b mb ((lv0s.take 1).take 0) rs) := fun W c b mb rs h => by
    have := env_take h ((unhide HQ).2.1.mono (by omega)) 0 ⟨by omega, by omega⟩
    rw [f3, f4] at this
    exact this
  have KT3 : Hid (∀ W c b mb rs, ECh w W c b mb ((lv0s.take 1).take 0) rs → Calls Tryz.prog 7 #[.pointer (some ⟨c, 0, none⟩), .int .i64 0] W fun e W' => e = .returned (.tuple #[.int .i64 0, .int .i64 10]) ∧ ECh w W' c b mb (((lv0s.take 1).take 0).take 0) rs) := fun W c b mb rs h => by
    have := env_take h ((unhide HQ).2.2.1.mono (by omega)) 0 ⟨by omega, by omega⟩
    rw [f5, f6] at this
    exact this
  have KK : Hid (∀ W c b mb rs, ECh w W c b mb (((lv0s.take 1).take 0).take 0) rs → Calls Tryz.prog 31 #[.pointer (some ⟨b, 0, none⟩), .int .i64 1, .int .i64 9, .int .i64 0] W fun e W' => e = .returned (.tuple #[.int .i64 4, .int .i64 0]) ∧ ECh w W' c b mb { (((lv0s.take 1).take 0).take 0) with L := (keyP (((lv0s.take 1).take 0).take 0).L 1 9 0).1 } rs) := fun W c b mb rs h => by
    have := env_ckey h 1 9 0 ⟨by omega, by omega⟩ (Nat.le_trans (Nat.add_le_add_right (unhide HQ).2.2.2.len _) (by decide))
    rw [f7, f8] at this
    exact this
  have KH : Hid (∀ W c b mb rs L, ECh w W c b mb { (((lv0s.take 1).take 0).take 0) with L := L } rs → Calls Tryz.prog 8 #[.pointer (some ⟨c, 0, none⟩)] W fun e W' => ∃ a cap, e = .returned (.slice a 1 cap) ∧ Below w.heap.size w W') := fun W c b mb rs L h => by
    refine (env_chas h (by show (((lv0s.take 1).take 0).take 0).l.length ≤ 100; rw [f9]; simp) (by show (((lv0s.take 1).take 0).take 0).nx ≤ _; exact Nat.le_trans (unhide HQ).2.2.2.nx (by decide))).mono ?_
    rintro e W' ⟨v, h1, h2, h3, h4⟩
    obtain ⟨a, cap, hv⟩ := own_slice h2
    have hl : ({ (((lv0s.take 1).take 0).take 0) with L := L } : Cst).l = [] := f9
    rw [hl] at hv
    obtain ⟨lm, sv, en⟩ := h4
    exact ⟨a, cap, by rw [h1, hv]; rfl, en.bel⟩
  clear hb0 q0 q1 q2 q3 f1 f2 f3 f4 f5 f6 f7 f8 f9 HQ HF9
  generalize (keyP (((lv0s.take 1).take 0).take 0).L 1 9 0).1 = LK at *
  generalize ((lv0s.take 1).take 0).take 0 = s3 at *
  generalize (lv0s.take 1).take 0 = s2 at *
  generalize lv0s.take 1 = s1 at *
  generalize lv0s = s0 at *
  go_enter Tryz.func9, Tryz.ntmps9
  go_wp2_with fail
  refine (unhide KB).mono ?_
  rintro e w1 ⟨b, sv, mb, rb, rv, rfl, E1⟩
  have K1 := hide (unhide KN _ _ _ _ _ _ E1)
  clear E1 KB KN
  go_wp2_with fail
  refine (unhide K1).mono ?_
  rintro e w2 ⟨c, rfl, E2⟩
  have K2 := hide (unhide KT1 _ _ _ _ _ E2)
  clear E2 K1 KT1
  go_wp2_with fail
  refine (unhide K2).mono ?_
  rintro e w3 ⟨rfl, E3⟩
  have K3 := hide (unhide KT2 _ _ _ _ _ E3)
  clear E3 K2 KT2
  go_wp2_with fail
  refine (unhide K3).mono ?_
  rintro e w4 ⟨rfl, E4⟩
  have K4 := hide (unhide KT3 _ _ _ _ _ E4)
  clear E4 K3 KT3
  go_wp2_with fail
  refine (unhide K4).mono ?_
  rintro e w5 ⟨rfl, E5⟩
  have K5 := hide (unhide KK _ _ _ _ _ E5)
  clear E5 K4 KK
  go_wp2_with fail
  refine (unhide K5).mono ?_
  rintro e w6 ⟨rfl, E6⟩
  have K6 := hide (unhide KH _ _ _ _ _ _ E6)
  clear E6 K5 KH
  go_wp2_with fail
  refine (unhide K6).mono ?_
  rintro e w7 ⟨a, cap, rfl, b7⟩
  have b8 := bw_tr (unhide HX) b7
  clear b7 K6 HX
  go_wp2
  go_ret
  exact ⟨rfl, b8⟩
end Go.Proofs.YtkaioidneknmjaaGreatDoor.Tn

/- Which term a secret or a key is, plainly. -/
namespace Go.Proofs.YtkaioidneknmjaaGreatDoor.Tn
open Go.RowKit Go.Maps

/-- The term of that number. -/
def At (L : List Tm) (x : Nat) (t : Tm) : Prop := 1 ≤ x ∧ L[x - 1]? = some t
def Pre (L L' : List Tm) : Prop := ∃ r, L' = L ++ r
theorem Pre.refl (L : List Tm) : Pre L L := ⟨[], by simp⟩
theorem Pre.trans {L L' L'' : List Tm} (h : Pre L L') (k : Pre L' L'') : Pre L L'' := by obtain ⟨r, rfl⟩ := h; obtain ⟨q, rfl⟩ := k; exact ⟨r ++ q, by simp⟩
theorem Pre.mk (L : List Tm) (t : Tm) : Pre L (mkL L t) := mkL_prefix L t
theorem Pre.len {L L' : List Tm} (h : Pre L L') : L.length ≤ L'.length := by obtain ⟨r, rfl⟩ := h; simp
theorem At.le {L : List Tm} {x : Nat} {t : Tm} (h : At L x t) : 1 ≤ x ∧ x ≤ L.length := ⟨h.1, by have := (List.getElem?_eq_some_iff.1 h.2).1; have := h.1; omega⟩
theorem At.pre {L L' : List Tm} {x : Nat} {t : Tm} (h : At L x t) (hp : Pre L L') : At L' x t := by
  obtain ⟨r, rfl⟩ := hp
  refine ⟨h.1, ?_⟩
  rw [List.getElem?_append_left (List.getElem?_eq_some_iff.1 h.2).1]
  exact h.2
theorem At.fn {L : List Tm} {x : Nat} {t t' : Tm} (h : At L x t) (k : At L x t') : t = t' := by have := h.2.symm.trans k.2; simpa using this
theorem At.tm {L : List Tm} {x : Nat} {t : Tm} (h : At L x t) : tmAt L x = t := by unfold tmAt; rw [List.getD, h.2]; rfl
theorem At.inj {L : List Tm} {x y : Nat} {t : Tm} (hG : Good L) (h : At L x t) (k : At L y t) : x = y :=
  hG.tmAt_inj h.le.1 h.le.2 k.le.1 k.le.2 (h.tm.trans k.tm.symm)
theorem at_mk {L : List Tm} {t : Tm} (hm : may L.length t = true) (hl : L.length < 1048576) : At (mkL L t) (mkN L t) t := by
  obtain ⟨_, h2, h3⟩ := mk_ok hm hl
  rw [h2]
  exact ⟨(num_get h3).2, (num_get h3).1⟩
/-- The secret of a number; the key of one. -/
def IsSec (L : List Tm) (app snd : Int) : Nat → Nat → Prop
  | 0, x => ∃ D : Nat, At L x ⟨4, 9, app, (D : Nat)⟩ ∧ At L D ⟨2, snd, 0, 0⟩
  | n + 1, x => ∃ y : Nat, At L x ⟨4, 10, (y : Nat), 0⟩ ∧ IsSec L app snd n y
def IsKey (L : List Tm) (app snd : Int) (n k : Nat) : Prop := ∃ x : Nat, At L k ⟨4, 11, (x : Nat), 0⟩ ∧ IsSec L app snd n x
theorem IsSec.pre {L L' : List Tm} {app snd : Int} (hp : Pre L L') : ∀ {n x : Nat}, IsSec L app snd n x → IsSec L' app snd n x
  | 0, _, ⟨D, h1, h2⟩ => ⟨D, h1.pre hp, h2.pre hp⟩
  | _ + 1, _, ⟨y, h1, h2⟩ => ⟨y, h1.pre hp, IsSec.pre hp h2⟩
theorem IsKey.pre {L L' : List Tm} {app snd : Int} {n k : Nat} (h : IsKey L app snd n k) (hp : Pre L L') : IsKey L' app snd n k := by obtain ⟨x, h1, h2⟩ := h; exact ⟨x, h1.pre hp, h2.pre hp⟩
theorem IsSec.fn {L : List Tm} {app a b : Int} : ∀ {n m x : Nat}, IsSec L app a n x → IsSec L app b m x → a = b ∧ n = m
  | 0, 0, _, ⟨D, h1, h2⟩, ⟨E, k1, k2⟩ => by
    have e := h1.fn k1
    simp only [Tm.mk.injEq, true_and] at e
    have : D = E := by omega
    subst this
    have e2 := h2.fn k2
    simp only [Tm.mk.injEq, and_true, true_and] at e2
    exact ⟨e2, rfl⟩
  | 0, _ + 1, _, ⟨D, h1, _⟩, ⟨y, k1, _⟩ => by
    have e := h1.fn k1
    simp at e
  | _ + 1, 0, _, ⟨y, h1, _⟩, ⟨D, k1, _⟩ => by
    have e := h1.fn k1
    simp at e
  | _ + 1, _ + 1, _, ⟨y, h1, h2⟩, ⟨z, k1, k2⟩ => by
    have e := h1.fn k1
    simp only [Tm.mk.injEq, true_and, and_true] at e
    have : y = z := by omega
    subst this
    have := IsSec.fn h2 k2
    exact ⟨this.1, by omega⟩
theorem IsSec.inj {L : List Tm} (hG : Good L) {app a : Int} : ∀ {n x y : Nat}, IsSec L app a n x → IsSec L app a n y → x = y
  | 0, _, _, ⟨D, h1, h2⟩, ⟨E, k1, k2⟩ => by
    have := h2.inj hG k2
    subst this
    exact h1.inj hG k1
  | _ + 1, _, _, ⟨y, h1, h2⟩, ⟨z, k1, k2⟩ => by
    have := IsSec.inj hG h2 k2
    subst this
    exact h1.inj hG k1
theorem IsKey.eq_iff {L : List Tm} (hG : Good L) {app a b : Int} {n m k k' : Nat} (h : IsKey L app a n k) (q : IsKey L app b m k') : k = k' ↔ a = b ∧ n = m := by
  obtain ⟨x, h1, h2⟩ := h
  obtain ⟨y, q1, q2⟩ := q
  constructor
  · rintro rfl
    have e := h1.fn q1
    simp only [Tm.mk.injEq, true_and, and_true] at e
    have : x = y := by omega
    subst this
    exact h2.fn q2
  · rintro ⟨rfl, rfl⟩
    have := h2.inj hG q2
    subst this
    exact h1.inj hG q1
theorem IsSec.le {L : List Tm} {app a : Int} : ∀ {n x : Nat}, IsSec L app a n x → 1 ≤ x ∧ x ≤ L.length
  | 0, _, ⟨_, h1, _⟩ => h1.le
  | _ + 1, _, ⟨_, h1, _⟩ => h1.le
/-! What is made. -/
theorem beg_pre (L : List Tm) (app snd : Int) : Pre L (beg L app snd).1 := (Pre.mk L _).trans (Pre.mk _ _)
theorem beg_good {L : List Tm} (h : Good L) (app snd : Int) : Good (beg L app snd).1 := (h.made _).made _
theorem nxS_pre (p : List Tm × Nat) : Pre p.1 (nxS p).1 := Pre.mk _ _
theorem kyS_pre (p : List Tm × Nat) : Pre p.1 (kyS p).1 := Pre.mk _ _
theorem secs_pre (p : List Tm × Nat) : ∀ n, Pre p.1 (secs p n).1
  | 0 => Pre.refl _
  | n + 1 => (secs_pre p n).trans (nxS_pre _)
theorem secs_good {p : List Tm × Nat} (h : Good p.1) : ∀ n, Good (secs p n).1
  | 0 => h
  | n + 1 => (secs_good h n).made _
theorem beg_is {L : List Tm} {app snd : Int} (ha : thr L.length app = true) (hl : L.length + 2 ≤ 1048576) : IsSec (beg L app snd).1 app snd 0 (beg L app snd).2 := by
  have l1 := mkL_len L ⟨2, snd, 0, 0⟩
  have a1 : At (mkL L ⟨2, snd, 0, 0⟩) (mkN L ⟨2, snd, 0, 0⟩) ⟨2, snd, 0, 0⟩ := at_mk (may_dat11 _ _) (by omega)
  refine ⟨mkN L ⟨2, snd, 0, 0⟩, at_mk (may_kdf (by omega) (thr_mono ha (mkL_le _ _)) (Or.inr ?_)) (by omega), a1.pre (Pre.mk _ _)⟩
  exact thr_iff.2 (by have := a1.le; omega)
theorem nx_is {p : List Tm × Nat} {app snd : Int} {n : Nat} (h : IsSec p.1 app snd n p.2) (hl : p.1.length < 1048576) : IsSec (nxS p).1 app snd (n + 1) (nxS p).2 :=
  ⟨p.2, at_mk (may_nx ⟨h.le.1, h.le.2⟩ 10 (by omega)) hl, h.pre (nxS_pre p)⟩
theorem ky_is {p : List Tm × Nat} {app snd : Int} {n : Nat} (h : IsSec p.1 app snd n p.2) (hl : p.1.length < 1048576) : IsKey (kyS p).1 app snd n (kyS p).2 :=
  ⟨p.2, at_mk (may_nx ⟨h.le.1, h.le.2⟩ 11 (by omega)) hl, h.pre (kyS_pre p)⟩
theorem secs_is {p : List Tm × Nat} {app snd : Int} {k : Nat} (h : IsSec p.1 app snd k p.2) : ∀ n, p.1.length + n ≤ 1048576 → IsSec (secs p n).1 app snd (k + n) (secs p n).2
  | 0, _ => h
  | n + 1, hl => nx_is (secs_is h n (by omega)) (by have := secs_len p n; omega)
/-- What Key gives. -/
theorem key_is {L : List Tm} {app snd : Int} {n : Nat} (ha : thr L.length app = true) (hn : n ≤ 65536) (hl : L.length + 65540 ≤ 1048575) (hG : Good L) : keyE L app (n : Int) = 0 ∧ IsKey (keyP L app snd (n : Int)).1 app snd n (keyP L app snd (n : Int)).2 ∧ Pre L (keyP L app snd (n : Int)).1 ∧ Good (keyP L app snd (n : Int)).1 ∧ (keyP L app snd (n : Int)).1.length ≤ L.length + n + 3 := by
  have e : keyE L app (n : Int) = 0 := by unfold keyE; rw [ha, if_pos (by simp), if_neg (by omega)]
  have hb := beg_len L app snd
  have hs := secs_len (beg L app snd) n
  have hi := secs_is (beg_is (snd := snd) ha (by omega)) n (by omega)
  rw [Nat.zero_add] at hi
  unfold keyP
  rw [if_pos e, Int.toNat_natCast]
  refine ⟨e, ky_is hi (by omega), ?_, ?_, ?_⟩
  · exact ((beg_pre L app snd).trans (secs_pre _ _)).trans (kyS_pre _)
  · exact (secs_good (beg_good hG app snd) n).made _
  · have := kyS_len (secs (beg L app snd) n)
    omega
end Go.Proofs.YtkaioidneknmjaaGreatDoor.Tn

/- The document's keys of messages, over its own store. -/
namespace Go.Proofs.YtkaioidneknmjaaGreatDoor.Tn
open Go.RowKit Go.Maps

theorem RStep.after {w w0 w1 : World} {b : Nat} {sv sv1 : Value} {L1 : List Tm} (k : RStep w w0 b sv sv1 L1) (h : Below w0.heap.size w0 w1) : RStep w w1 b sv sv1 L1 := k.trans (RStep.same k.st h)
theorem Rs.notin {w : World} {b : Nat} {sv : Value} {L : List Tm} {k : Nat} {cs : Array Value} {t : TypeId} (h : Rs w b sv L) (hk : w.heap[k]? = some (.cells cs t (0, 0))) (h1 : t ≠ 122) (h2 : t ≠ 89) : k ∉ rfoot b sv := by
  intro c
  rcases mem_rfoot.1 c with rfl | c
  · rw [h.blk] at hk; injection hk with hk; injection hk with _ hk; exact h1 hk.symm
  · obtain ⟨cur, e⟩ := h.row.block c; rw [e] at hk; injection hk with hk; injection hk with _ hk; exact h2 hk.symm
theorem kept_rfr {w w' : World} {b : Nat} {sv : Value} {L : List Tm} {k : Nat} {cs : Array Value} {t : TypeId} (h : w.heap[k]? = some (.cells cs t (0, 0))) (hs : Rs w b sv L) (hf : Fr (rfoot b sv) w w') (h1 : t ≠ 122) (h2 : t ≠ 89) : w'.heap[k]? = some (.cells cs t (0, 0)) := by rw [hf.block k (lt_of_blk h) (hs.notin h h1 h2)]; exact h
theorem RStep.poke {w W : World} {b : Nat} {sv sv' : Value} {L : List Tm} {k i : Nat} {cs : Array Value} {t : TypeId} (h : RStep w W b sv sv' L) (hk : W.heap[k]? = some (.cells cs t (0, 0))) (h1 : t ≠ 122) (h2 : t ≠ 89) (hw : w.heap.size ≤ k) (v : Value) : RStep w (W.setCell ⟨k, i, none⟩ v) b sv sv' L :=
  ⟨h.st.keep (S := [k]) ((Fr.refl _ _).setCell (a := ⟨k, i, none⟩) (Or.inr (by simp)) v) (fun x hx c => by simp at c; subst c; exact h.st.notin hk h1 h2 hx), h.fr.setCell (a := ⟨k, i, none⟩) (Or.inl hw) v, h.place⟩
theorem rmake_ok {b : Nat} {sv : Value} {L : List Tm} {w : World} (h : Rs w b sv L) (k n x y : Int) (ht : Tm.ok ⟨k, n, x, y⟩) (hm : may L.length ⟨k, n, x, y⟩ = true) (hl : L.length < 1048576) :
    Calls Tryz.prog 19 #[.pointer (some ⟨b, 0, none⟩), .agg #[.int .u8 k, .int .i64 n, .int .i64 x, .int .i64 y]] w fun e w' => e = .returned (.tuple #[.int .i64 (mkN L ⟨k, n, x, y⟩ : Nat), .int .i64 0]) ∧ ∃ sv', RStep w w' b sv sv' (mkL L ⟨k, n, x, y⟩) := by
  refine (rmake_any b sv L ⟨k, n, x, y⟩ w h ht).mono ?_
  rintro e w' ⟨rfl, s⟩
  rw [(mk_ok hm hl).1]
  exact ⟨rfl, s⟩
set_option maxRecDepth 100000 in
theorem rone_any {b : Nat} {sv : Value} {L : List Tm} {w : World} (h : Rs w b sv L) (z : Int) (hz : -9223372036854775808 ≤ z ∧ z ≤ 9223372036854775807) (hl : L.length < 1048576) :
    Calls Tryz.prog 144 #[.pointer (some ⟨b, 0, none⟩), .int .i64 z] w fun e w' => e = .returned (.int .i64 (mkN L ⟨2, z, 0, 0⟩ : Nat)) ∧ ∃ sv', RStep w w' b sv sv' (mkL L ⟨2, z, 0, 0⟩) := by
  have K := hide (rmake_ok h 2 z 0 0 ⟨by simp, by simp, hz.1, hz.2, by simp, by simp, by simp, by simp⟩ (may_dat11 _ _) hl)
  obtain ⟨n, hn⟩ : ∃ n : Nat, n = mkN L ⟨2, z, 0, 0⟩ := ⟨_, rfl⟩
  rw [← hn] at K ⊢
  clear h hl hn hz
  go_enter Tryz.func144, Tryz.ntmps144
  go_wp2_with fail
  refine (unhide K).mono ?_
  rintro e w1 ⟨rfl, s⟩
  have S := hide s
  clear s K
  go_wp2
  go_ret
  exact ⟨rfl, unhide S⟩
set_option maxRecDepth 100000 in
theorem rkdf_any {b : Nat} {sv : Value} {L : List Tm} {w : World} (h : Rs w b sv L) (l s c : Int) (ho : Tm.ok ⟨4, l, s, c⟩) (hm : may L.length ⟨4, l, s, c⟩ = true) (hl : L.length < 1048576) :
    Calls Tryz.prog 32 #[.pointer (some ⟨b, 0, none⟩), .int .i64 l, .int .i64 s, .int .i64 c] w fun e w' => e = .returned (.int .i64 (mkN L ⟨4, l, s, c⟩ : Nat)) ∧ ∃ sv', RStep w w' b sv sv' (mkL L ⟨4, l, s, c⟩) := by
  have K := hide (rmake_ok h 4 l s c ho hm hl)
  obtain ⟨n, hn⟩ : ∃ n : Nat, n = mkN L ⟨4, l, s, c⟩ := ⟨_, rfl⟩
  rw [← hn] at K ⊢
  clear h hl hn ho hm
  go_enter Tryz.func32, Tryz.ntmps32
  go_wp2_with fail
  refine (unhide K).mono ?_
  rintro e w1 ⟨rfl, s⟩
  have S := hide s
  clear s K
  go_wp2
  go_ret
  exact ⟨rfl, unhide S⟩
set_option maxRecDepth 100000 in
set_option maxHeartbeats 2000000 in
theorem rbegin_any {b : Nat} {sv : Value} {L : List Tm} {w : World} (h : Rs w b sv L) (app snd : Int) (ha : thr L.length app = true) (hs : i64r snd) (hl : L.length + 2 ≤ 1048576) :
    Calls Tryz.prog 26 #[.pointer (some ⟨b, 0, none⟩), .int .i64 app, .int .i64 snd] w fun e w' => e = .returned (.int .i64 ((beg L app snd).2 : Nat)) ∧ ∃ sv', RStep w w' b sv sv' (beg L app snd).1 := by
  have har := thr_rng ha (by omega)
  have K1 := hide (rone_any h snd hs (by omega))
  obtain ⟨D, hD⟩ : ∃ D : Nat, D = mkN L ⟨2, snd, 0, 0⟩ := ⟨_, rfl⟩
  obtain ⟨L1, hL1⟩ : ∃ L1, L1 = mkL L ⟨2, snd, 0, 0⟩ := ⟨_, rfl⟩
  have t1 := mkN_thr (may_dat11 L.length snd) (by omega)
  rw [← hD, ← hL1] at K1 t1
  have l1 : L1.length ≤ L.length + 1 := by rw [hL1]; exact mkL_len _ _
  have l1' : L.length ≤ L1.length := by rw [hL1]; exact mkL_le _ _
  have m2 : may L1.length ⟨4, 9, app, (D : Nat)⟩ = true := may_kdf (by omega) (thr_mono ha l1') (Or.inr t1.1)
  have o2 : Tm.ok ⟨4, 9, app, (D : Nat)⟩ := ok_kdf (by have := thr_iff.1 t1.1; omega)
  obtain ⟨x, hx⟩ : ∃ x : Nat, x = (beg L app snd).2 := ⟨_, rfl⟩
  obtain ⟨L2, hL2⟩ : ∃ L2, L2 = (beg L app snd).1 := ⟨_, rfl⟩
  have e2 : mkN L1 ⟨4, 9, app, (D : Nat)⟩ = x := by rw [hx, hL1, hD]; rfl
  have e3 : mkL L1 ⟨4, 9, app, (D : Nat)⟩ = L2 := by rw [hL2, hL1, hD]; rfl
  rw [← hx, ← hL2]
  have HM : Hid (∀ W sv', RStep w W b sv sv' L1 → Calls Tryz.prog 32 #[.pointer (some ⟨b, 0, none⟩), .int .i64 9, .int .i64 app, .int .i64 (D : Nat)] W fun e w' => e = .returned (.int .i64 (x : Nat)) ∧ ∃ sv2, RStep w w' b sv sv2 L2) := fun W sv' s => by
    refine (rkdf_any s.st 9 app (D : Nat) o2 m2 (by omega)).mono ?_
    rintro e w' ⟨h1, sv2, h2⟩
    rw [e2] at h1
    rw [e3] at h2
    exact ⟨h1, sv2, s.trans h2⟩
  clear h ha hs hl har hD hL1 t1 l1 l1' m2 o2 hx hL2 e2 e3
  go_enter Tryz.func26, Tryz.ntmps26
  go_wp2_with fail
  refine (unhide K1).mono ?_
  rintro e w1 ⟨rfl, sv1, s1⟩
  have K2 := hide (unhide HM w1 sv1 s1)
  clear s1 K1 HM
  go_wp2_with fail
  refine (unhide K2).mono ?_
  rintro e w3 ⟨rfl, sv3, s3⟩
  have S3 := hide s3
  clear s3 K2
  go_wp2
  go_ret
  exact ⟨rfl, sv3, unhide S3⟩
theorem rput {b : Nat} {sv : Value} {w : World} {w0 : World} {sv0 : Value} {p : List Tm × Nat} (s : RStep w0 w b sv0 sv p.1) (hg : Gd p) (hl : p.1.length < 1048576) (l : Int) (h0 : 0 ≤ l ∧ l ≤ 100) :
    Calls Tryz.prog 32 #[.pointer (some ⟨b, 0, none⟩), .int .i64 l, .int .i64 (p.2 : Nat), .int .i64 0] w fun e w' => e = .returned (.int .i64 (mkN p.1 ⟨4, l, (p.2 : Nat), 0⟩ : Nat)) ∧ ∃ sv2, RStep w0 w' b sv0 sv2 (mkL p.1 ⟨4, l, (p.2 : Nat), 0⟩) := by
  refine (rkdf_any s.st l (p.2 : Nat) 0 (ok_nx hg l h0 (by omega)) (may_nx hg l h0.1) hl).mono ?_
  rintro e w' ⟨h1, sv2, h2⟩
  exact ⟨h1, sv2, s.trans h2⟩
end Go.Proofs.YtkaioidneknmjaaGreatDoor.Tn
