/- The contracts of Has and New; a chain beside other things. -/
import Derived.Test.YtkaioidneknmjaaChH
import Derived.Test.YtkaioidneknmjaaNDdI
namespace Go.Proofs.Ytkaioidneknmjaa.Tn
open Go.RowKit Go.Maps

theorem nrow_snoc {w wr w1 : World} {lv v' : Value} {cur : List Nat} {o : Obj} (c : Nat) (hb : Below w.heap.size w wr) (hown : NRow w.heap.size wr lv cur) (hown' : w1.ownsRow w.heap.size 3 1 v' (cur.length + 1) (cur.map (fun m => .int .i64 ((m : Nat) : Int)) ++ [.int .i64 (c : Int)])) (hg : (wr.alloc o).grownBy w1 lv.ownBlock) : NRow w.heap.size w1 v' (cur ++ [c]) ∧ Below w.heap.size w w1 := by
  refine ⟨by unfold NRow; simpa using hown', ?_⟩
  have f1 : Fr lv.ownBlock.toList wr w1 := ((Fr.refl lv.ownBlock.toList wr).alloc o).tr (Fr.ofGrown hg)
  exact Fr.toBase hb f1 (fun x hx => (hown.lt x (by simpa using hx)).1)
set_option maxRecDepth 100000 in
set_option maxHeartbeats 4000000 in
theorem has_at {W : World} {c b lm : Nat} {l : Lfs} {nx x : Nat} (h : Cn W c b lm l nx x) (hll : l.length ≤ 100) (hnx : nx ≤ 1000000000) :
    Calls Try.prog 15 #[.pointer (some ⟨c, 0, none⟩)] W fun e W' => ∃ v, e = .returned v ∧ NRow W.heap.size W' v (l.map (·.2) ++ [x]) ∧ Below W.heap.size W W' := by
  obtain ⟨j0, hj, hy0, hy1, hy2⟩ := info_parts Try.infoInt
  obtain ⟨c0, c1, c2, c3⟩ := h.cells
  have KM := hide (chmissing_at W c lm c1)
  have KK := hide (keysI (some lm) W)
  have KS := hide (sorted_left h.map h.lf (by omega))
  have HC : Hid (∀ W', Below W.heap.size W W' → W'.cell? ⟨c, 1, none⟩ = some (.map (some lm)) ∧ W'.cell? ⟨c, 3, none⟩ = some (.int .i64 (x : Int)) ∧ ∀ p ∈ l, (Instr.lookup 69 (.map (some lm)) (.int .i64 (p.1 : Int)) false).run Try.prog W' = .ok (.int .i64 (p.2 : Int)) W') := fun W' hb => by
    have h' := h.bw hb
    refine ⟨h'.cells.2.1, h'.cells.2.2.2, fun p hp => ?_⟩
    have := h'.map.look (k := (p.1 : Int)) ⟨by omega, by have := h.lf.lt p hp; omega⟩
    unfold lkV at this
    rw [lkp_of_mem h.lf hp] at this
    exact this
  obtain ⟨N, hN⟩ : ∃ N, N = l.length := ⟨_, rfl⟩
  have hNI : (N : Int) ≤ 100 := by omega
  have HN := hide (And.intro hN hll)
  clear h hll hnx hN c0 c2 c3
  go_enter Try.func15, Try.ntmps15
  go_wp2_with fail
  refine (unhide KM).mono ?_
  rintro e W ⟨rfl, rfl⟩
  clear KM
  go_wp2_with fail
  refine (unhide KK).mono ?_
  rintro e w2 ⟨rfl, rfl⟩
  clear KK
  go_wp2_with fail
  refine (unhide KS).mono ?_
  rintro e W1 ⟨v, rfl, r1, b1, lo⟩
  obtain ⟨va, vc, hv⟩ := own_slice r1
  rw [List.length_map, ← (unhide HN).1] at hv
  subst hv
  have HV : Hid (∀ W', Below W1.heap.size W1 W' → ∀ i p, l[i]? = some p → ∃ g, va = some ⟨g, 0, none⟩ ∧ W'.cell? ⟨g, i, none⟩ = some (.int .i64 (p.1 : Int))) := fun W' hb i p hp => by
    have r2 : NRow 0 W' (.slice va N vc) (l.map (·.1)) := r1.keep (fun k hk => hb.block k (r1.lt k hk).2)
    obtain ⟨g, cap, e, -⟩ := own_open r2 (by rw [List.length_map]; have := (List.getElem?_eq_some_iff.1 hp).1; omega)
    simp only [Value.slice.injEq] at e
    obtain ⟨e1, -, -⟩ := e
    subst e1
    exact ⟨g, rfl, r2.at rfl (by simp [hp])⟩
  have B1 := hide b1
  clear KS r1 lo b1 c1
  have hs1 := (unhide B1).size
  go_wp2_with fail
  go_loopw [3, 15] (fun lv iv wr => ∃ i : Nat, iv = .int .i64 (i : Int) ∧ i ≤ N ∧ Hid (NRow W1.heap.size wr lv ((l.take i).map (·.2)) ∧ Below W1.heap.size W1 wr)) (fun _ iv _ => (N - intOf iv).toNat)
  case atStart => exact ⟨0, rfl, by omega, ⟨NRow.nil _ _, Below.refl _ _⟩⟩
  case round =>
    obtain ⟨i, rfl, hi, HR⟩ := hrel
    have hb := bw_tr (unhide B1) (unhide HR).2
    by_cases hlt : i < N
    · obtain ⟨p, hp⟩ : ∃ p, l[i]? = some p := ⟨_, List.getElem?_eq_getElem (by rw [← (unhide HN).1]; exact hlt)⟩
      obtain ⟨d1, d2, d3⟩ := unhide HC _ hb
      have d4 := d3 p (List.mem_of_getElem? hp)
      obtain ⟨g, rfl, dg⟩ := unhide HV _ (unhide HR).2 i p hp
      have q1 : (i : Int) < (N : Int) := by omega
      have q0 : (0 : Int) ≤ (i : Int) := by omega
      have hsn : Hid ((l.take (i + 1)).map (·.2) = (l.take i).map (·.2) ++ [p.2]) := by unfold Hid; rw [List.take_add_one, hp]; simp
      obtain ⟨cur, hcur⟩ : ∃ cur, cur = (l.take i).map (·.2) := ⟨_, rfl⟩
      have hcl : cur.length = i := by rw [hcur]; simp; have := (unhide HN).1; omega
      rw [← hcur] at HR hsn
      have hrow : wr.ownsRow W1.heap.size 3 1 u3 i (cur.map (fun m => .int .i64 ((m : Nat) : Int))) := by have := (unhide HR).1; unfold NRow at this; rw [hcl] at this; exact this
      have hsz := (unhide HR).2.size
      have HCL := hide hcl
      clear hcur hp d3 d2 hcl
      generalize p.1 = p1 at *
      generalize p.2 = p2 at *
      go_wp2_with (at_builtin; refine wpList_append_own _ rfl (.tmp 19) (.tmp 26) 37 rfl W1.heap.size 3 j0 (.int .i64 0) 1 8 Try.underlying37 hj hy0 hy1 hy2 rfl (by decide) _ i _ rfl (World.ownsRow.alloc hrow _) ⟨wr.heap.size, 0, none⟩ 1 1 [_] rfl rfl (cell_one_new _ _ _) ?c2 ?c3 ?c4 ?c5 ?nx)
      case c2 => intro u hu; simp at hu; subst hu; rfl
      case c3 => unfold maxLen; omega
      case c4 => omega
      case c5 => simp; omega
      case nx =>
        intro v' w4 hown' hgrow _
        have R := nrow_snoc p2 (unhide HR).2 (unhide HR).1 (by rw [unhide HCL]; exact hown') hgrow
        rw [← unhide hsn] at R
        have HR2 := hide R
        clear hown' hgrow R hrow HR dg d1 d4
        go_wp2_with fail
        go_roundw
        case rel => exact ⟨i + 1, by go_num, by omega, HR2⟩
        case measure => simp only [intOf]; omega
    · obtain rfl : i = N := by omega
      obtain ⟨-, d2, -⟩ := unhide HC _ hb
      have e : l.take i = l := List.take_of_length_le (by rw [(unhide HN).1]; exact Nat.le_refl _)
      rw [e] at HR
      obtain ⟨cur, hcur⟩ : ∃ cur, cur = l.map (·.2) := ⟨_, rfl⟩
      rw [← hcur] at HR
      have hcl : cur.length = i := by rw [hcur, List.length_map]; exact (unhide HN).1.symm
      have hrow : wr.ownsRow W1.heap.size 3 1 u3 i (cur.map (fun m => .int .i64 ((m : Nat) : Int))) := by have := (unhide HR).1; unfold NRow at this; rw [hcl] at this; exact this
      have hsz := (unhide HR).2.size
      have HCL := hide (And.intro hcl hcur)
      have hle := (unhide HN).2
      have hie := (unhide HN).1
      rw [← hie] at hle
      clear hcur hcl e hlt hi hie
      go_wp2_with (at_builtin; refine wpList_append_own _ rfl (.tmp 29) (.tmp 34) 37 rfl W1.heap.size 3 j0 (.int .i64 0) 1 8 Try.underlying37 hj hy0 hy1 hy2 rfl (by decide) _ i _ rfl (World.ownsRow.alloc hrow _) ⟨wr.heap.size, 0, none⟩ 1 1 [_] rfl rfl (cell_one_new _ _ _) ?c2 ?c3 ?c4 ?c5 ?nx)
      case c2 => intro u hu; simp at hu; subst hu; rfl
      case c3 => unfold maxLen; omega
      case c4 => omega
      case c5 => simp; omega
      case nx =>
        intro v' w4 hown' hgrow _
        have R := nrow_snoc x (unhide HR).2 (unhide HR).1 (by rw [(unhide HCL).1]; exact hown') hgrow
        rw [(unhide HCL).2] at R
        have HR2 : Hid (NRow W.heap.size w4 v' (l.map (·.2) ++ [x]) ∧ Below W.heap.size W w4) := ⟨own_monoT R.1 hs1, bw_tr (unhide B1) R.2⟩
        clear hown' hgrow R hrow HR d2
        go_wp2
        go_ret
        exact ⟨v', rfl, (unhide HR2).1, (unhide HR2).2⟩
set_option maxRecDepth 100000 in
set_option maxHeartbeats 4000000 in
theorem new_ok {b : Nat} {sv : Value} {mb : Nat} {L : List Tm} {w : World} (h : St w b sv mb L) (app snd : Int) (ha : thr L.length app = true) (hs : i64r snd) (hl : L.length + 10 ≤ 1048575) :
    Calls Try.prog 12 #[.pointer (some ⟨b, 0, none⟩), .int .i64 app, .int .i64 snd] w fun e w' => ∃ c lm sv', e = .returned (.tuple #[.pointer (some ⟨c, 0, none⟩), .int .i64 0]) ∧ CS (w, foot b sv mb) w' c b sv' mb lm (beg L app snd).1 [] 0 (beg L app snd).2 := by
  obtain ⟨w0, hw0⟩ : ∃ w0, w0 = (w.alloc (.cells #[.int .i64 app] 3)).alloc (.cells #[.int .i64 snd] 3) := ⟨_, rfl⟩
  obtain ⟨y0, y1, x0⟩ := blk2c w (.cells #[.int .i64 app] 3) (.cells #[.int .i64 snd] 3)
  rw [← hw0] at y0 y1 x0
  have HW := hide hw0
  have S0 : Hid (SStep w w0 b sv sv mb L) := SStep.same h x0
  have KMi := hide (hmissing_any (unhide S0).st)
  have KH := hide (hhas_any (unhide S0).st app)
  rw [ha] at KH
  have KA : Hid (∀ W, Below w0.heap.size w0 W → Calls Try.prog 23 #[.pointer (some ⟨b, 0, none⟩), .int .i64 2, .func (.func 32) #[] #[.pointer (some ⟨w.heap.size, 0, none⟩), .pointer (some ⟨w.heap.size + 1, 0, none⟩)]] W fun e w' => e = .returned (.tuple #[.int .i64 ((beg L app snd).2 : Nat), .int .i64 0]) ∧ ∃ sv', SStep W w' b sv sv' mb (beg L app snd).1) := fun W hW =>
    aonI_new ((unhide S0).st.bw hW) 2 (by omega) (by omega) _ _ _ (new1_any ((unhide S0).st.bw hW) app snd ha hs (by omega) _ _ (blk_cell (kept_blk y0 hW) rfl) (blk_cell (kept_blk y1 hW) rfl))
  have z0 : w0.cell? ⟨w.heap.size, 0, none⟩ = some (.int .i64 app) := blk_cell y0 rfl
  have HF : Hid (∀ (W' : World) (sv' : Value), SStep w W' b sv sv' mb (beg L app snd).1 → CS (w, foot b sv mb) ((W'.alloc (.map #[] 0)).alloc (.cells #[.pointer (some ⟨b, 0, none⟩), .map (some W'.heap.size), .int .i64 0, .int .i64 ((beg L app snd).2 : Nat)] 71)) (W'.heap.size + 1) b sv' mb W'.heap.size (beg L app snd).1 [] 0 (beg L app snd).2) := fun W' sv' s => by
    obtain ⟨k1, k2, hb⟩ := blk2c W' (.map #[] 0) (.cells #[.pointer (some ⟨b, 0, none⟩), .map (some W'.heap.size), .int .i64 0, .int .i64 ((beg L app snd).2 : Nat)] 71)
    have s2 := s.after hb
    have hlt := s.st.lt
    have m := go_S s2
    refine ⟨s2.st, ⟨k2, ?_, Lf.nil _⟩, fun q => ?_, ⟨s2.fr, fun x hx => ?_⟩⟩
    · exact (IMap.made W').keep (Below.heap_alloc _ _ _ (by simp))
    · have := hlt _ q; omega
    · have hsz := s.fr.size
      simp at hx
      rcases hx with rfl | rfl | hx
      · right; simp only; omega
      · right; simp only; omega
      · exact m.place x hx
  clear h ha hs hl hw0 y0 y1
  generalize (beg L app snd).1 = L2 at *
  generalize (beg L app snd).2 = x at *
  go_enter Try.func12, Try.ntmps12
  go_upto_region 1 with fail
  rw [← unhide HW]
  clear HW
  go_wp2_with fail
  refine (unhide KMi).mono ?_
  rintro e w1 ⟨rfl, rfl⟩
  clear KMi
  go_wp2_with fail
  refine (unhide KH).mono ?_
  rintro e w2 ⟨rfl, b2⟩
  have S2 := hide ((unhide S0).after b2)
  have K2 := hide (unhide KA _ b2)
  clear KH z0 KA b2 S0
  go_wp2_with fail
  refine (unhide K2).mono ?_
  rintro e w4 ⟨rfl, sv4, s4⟩
  have HC := hide (unhide HF w4 sv4 ((unhide S2).trans s4))
  clear s4 S2 K2 HF x0
  have hmm := @run_makeMap Try.prog
  go_wp2
  go_ret2
  exact ⟨_, _, sv4, rfl, unhide HC⟩
set_option maxRecDepth 100000 in
set_option maxHeartbeats 4000000 in
theorem new_err {b : Nat} {sv : Value} {mb : Nat} {L : List Tm} {w : World} (h : St w b sv mb L) (app snd : Int) (ha : thr L.length app = false) :
    Calls Try.prog 12 #[.pointer (some ⟨b, 0, none⟩), .int .i64 app, .int .i64 snd] w fun e w' => e = .returned (.tuple #[.pointer none, .int .i64 1]) ∧ Below w.heap.size w w' := by
  obtain ⟨w0, hw0⟩ : ∃ w0, w0 = (w.alloc (.cells #[.int .i64 app] 3)).alloc (.cells #[.int .i64 snd] 3) := ⟨_, rfl⟩
  obtain ⟨y0, y1, x0⟩ := blk2c w (.cells #[.int .i64 app] 3) (.cells #[.int .i64 snd] 3)
  rw [← hw0] at y0 y1 x0
  have HW := hide hw0
  have S0 := hide (h.bw x0)
  have KMi := hide (hmissing_any (unhide S0))
  have KH := hide (hhas_any (unhide S0) app)
  rw [ha] at KH
  have z0 : w0.cell? ⟨w.heap.size, 0, none⟩ = some (.int .i64 app) := blk_cell y0 rfl
  clear h ha hw0 y0 y1 S0
  go_enter Try.func12, Try.ntmps12
  go_upto_region 1 with fail
  rw [← unhide HW]
  clear HW
  go_wp2_with fail
  refine (unhide KMi).mono ?_
  rintro e w1 ⟨rfl, rfl⟩
  clear KMi
  go_wp2_with fail
  refine (unhide KH).mono ?_
  rintro e w2 ⟨rfl, b2⟩
  have b3 := bw_tr x0 b2
  clear KH z0 b2 x0
  go_wp2
  go_ret2
  exact ⟨rfl, b3⟩
/-- A chain beside other things. -/
def resCh (c b mb lm : Nat) (sv : Value) (s : Cst) : Res :=
  ⟨c :: lm :: foot b sv mb, fun W => St W b sv mb s.L ∧ Cn W c b lm s.l s.nx s.x ∧ lm ∉ foot b sv mb,
   fun w w' S h hf hd => ⟨h.1.keep hf (fun x hx => hd x (by simp [hx])), h.2.1.keep (hf.block c (lt_of_blk h.2.1.blk) (hd c (by simp))) (hf.block lm h.2.1.map.lt (hd lm (by simp))), h.2.2⟩,
   fun w h x hx => by
     simp at hx
     rcases hx with rfl | rfl | hx
     · exact lt_of_blk h.2.1.blk
     · exact h.2.1.map.lt
     · exact h.1.lt x hx⟩
def ECh (w W : World) (c b mb : Nat) (s : Cst) (rs : List Res) : Prop := ∃ lm sv, Env w W (resCh c b mb lm sv s :: rs)
theorem ECh.of {w W W' : World} {c b mb : Nat} {s' : Cst} {rs : List Res} {r : Res} (h : Env w W (r :: rs)) (hc : CC (W, r.Z) W' c b mb s') : ECh w W' c b mb s' rs := by
  obtain ⟨sv', lm', cs⟩ := hc
  exact ⟨lm', sv', h.step (r' := resCh c b mb lm' sv' s') cs.mv ⟨cs.st, cs.cn, cs.ap⟩⟩
theorem env_take {w W : World} {c b mb : Nat} {s : Cst} {rs : List Res} (h : ECh w W c b mb s rs) (hk : Cok s 1000000) (n : Int) (hn : i64r n) :
    Calls Try.prog 13 #[.pointer (some ⟨c, 0, none⟩), .int .i64 n] W fun e W' => e = .returned (.tuple #[.int .i64 (s.ans n), .int .i64 (tkE s.l s.nx n)]) ∧ ECh w W' c b mb (s.take n) rs := by
  obtain ⟨lm, sv, e⟩ := h
  obtain ⟨h1, h2, h3⟩ := e.hd
  refine (take_any (w := (W, c :: lm :: foot b sv mb)) ⟨sv, lm, h1, h2, h3, Mv.refl _ _⟩ hk n hn).mono ?_
  rintro e' W' ⟨h4, h5⟩
  exact ⟨h4, ECh.of e h5⟩
theorem env_cnew {w W : World} {b : Nat} {sv : Value} {mb : Nat} {L : List Tm} {rs : List Res} (h : Env w W (resS b sv mb L :: rs)) (app snd : Int) (ha : thr L.length app = true) (hs : i64r snd) (hl : L.length + 10 ≤ 1048575) :
    Calls Try.prog 12 #[.pointer (some ⟨b, 0, none⟩), .int .i64 app, .int .i64 snd] W fun e W' => ∃ c, e = .returned (.tuple #[.pointer (some ⟨c, 0, none⟩), .int .i64 0]) ∧ ECh w W' c b mb ⟨(beg L app snd).1, [], 0, (beg L app snd).2⟩ rs := by
  refine (new_ok (L := L) h.hd app snd ha hs hl).mono ?_
  rintro e W' ⟨c, lm, sv', h4, h5⟩
  exact ⟨c, h4, lm, sv', h.step (r' := resCh c b mb lm sv' ⟨(beg L app snd).1, [], 0, (beg L app snd).2⟩) h5.mv ⟨h5.st, h5.cn, h5.ap⟩⟩
theorem env_chas {w W : World} {c b mb : Nat} {s : Cst} {rs : List Res} (h : ECh w W c b mb s rs) (hll : s.l.length ≤ 100) (hnx : s.nx ≤ 1000000000) :
    Calls Try.prog 15 #[.pointer (some ⟨c, 0, none⟩)] W fun e W' => ∃ v, e = .returned v ∧ NRow W.heap.size W' v (s.l.map (·.2) ++ [s.x]) ∧ Below W.heap.size W W' ∧ ECh w W' c b mb s rs := by
  obtain ⟨lm, sv, e⟩ := h
  obtain ⟨h1, h2, h3⟩ := e.hd
  refine (has_at h2 hll hnx).mono ?_
  rintro e' W' ⟨v, h4, h5, h6⟩
  exact ⟨v, h4, h5, h6, lm, sv, e.new h6⟩
theorem env_ckey {w W : World} {c b mb : Nat} {s : Cst} {rs : List Res} (h : ECh w W c b mb s rs) (app snd n : Int) (hs : i64r snd) (hl : s.L.length + 65540 ≤ 1048575) :
    Calls Try.prog 7 #[.pointer (some ⟨b, 0, none⟩), .int .i64 app, .int .i64 snd, .int .i64 n] W fun e W' => e = .returned (.tuple #[.int .i64 ((keyP s.L app snd n).2 : Nat), .int .i64 (keyE s.L app n)]) ∧ ECh w W' c b mb { s with L := (keyP s.L app snd n).1 } rs := by
  obtain ⟨lm, sv, e⟩ := h
  obtain ⟨h1, h2, h3⟩ := e.hd
  refine (key_any h1 app snd n hs hl).mono ?_
  rintro e' W' ⟨h4, sv', s5⟩
  have cs : CS (W, c :: lm :: foot b sv mb) W c b sv mb lm s.L s.l s.nx s.x := ⟨h1, h2, h3, Mv.refl _ _⟩
  exact ⟨h4, ECh.of (s' := { s with L := (keyP s.L app snd n).1 }) e ⟨sv', lm, cs.stepS s5⟩⟩
theorem env_key {w W : World} {b : Nat} {sv : Value} {mb : Nat} {L : List Tm} {rs : List Res} (h : Env w W (resS b sv mb L :: rs)) (app snd n : Int) (hs : i64r snd) (hl : L.length + 65540 ≤ 1048575) :
    Calls Try.prog 7 #[.pointer (some ⟨b, 0, none⟩), .int .i64 app, .int .i64 snd, .int .i64 n] W fun e W' => e = .returned (.tuple #[.int .i64 ((keyP L app snd n).2 : Nat), .int .i64 (keyE L app n)]) ∧ ∃ sv', Env w W' (resS b sv' mb (keyP L app snd n).1 :: rs) := by
  refine (key_any (L := L) h.hd app snd n hs hl).mono ?_
  rintro e' W' ⟨h4, sv', s5⟩
  exact ⟨h4, sv', h.step (r' := resS b sv' mb (keyP L app snd n).1) (go_S s5) s5.st⟩
end Go.Proofs.Ytkaioidneknmjaa.Tn
