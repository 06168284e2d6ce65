/- The contract of read of package deduce. -/
import Derived.Test.YtkaioidneknmjaaNDdB
namespace Go.Proofs.Ytkaioidneknmjaa.Tn
open Go.RowKit Go.Maps

/-- What is known, in memory apart from its store's. -/
structure Kc (w W : World) (kb b : Nat) (sv : Value) (mb : Nat) (L : List Tm) (Z0 : List Nat) (fv tv lv : Value) (F : List Bool) (fs : List Nat) (ls : List (Nat × Nat)) : Prop where
  kn : Kn W kb fv tv lv b F fs ls
  mv : Mv w W Z0 (kfoot kb fv tv lv)
  st : St W b sv mb L
  dis : ∀ x ∈ kfoot kb fv tv lv, x ∉ foot b sv mb
theorem Kc.step {w W W' : World} {kb b : Nat} {sv : Value} {mb : Nat} {L : List Tm} {Z0 : List Nat} {fv tv lv fv' tv' lv' : Value} {F F' : List Bool} {fs fs' : List Nat} {ls ls' : List (Nat × Nat)}
    (h : Kc w W kb b sv mb L Z0 fv tv lv F fs ls) (k : Kn W' kb fv' tv' lv' b F' fs' ls') (m : Mv W W' (kfoot kb fv tv lv) (kfoot kb fv' tv' lv')) : Kc w W' kb b sv mb L Z0 fv' tv' lv' F' fs' ls' :=
  ⟨k, h.mv.trans m, h.st.keep m.fr (fun x hx c => h.dis x c hx), fun x hx c => by
    rcases m.place x hx with q | q
    · exact h.dis x q c
    · have := h.st.lt x c; omega⟩
theorem Kc.new {w W W' : World} {kb b : Nat} {sv : Value} {mb : Nat} {L : List Tm} {Z0 : List Nat} {fv tv lv : Value} {F : List Bool} {fs : List Nat} {ls : List (Nat × Nat)}
    (h : Kc w W kb b sv mb L Z0 fv tv lv F fs ls) (hb : Below W.heap.size W W') : Kc w W' kb b sv mb L Z0 fv tv lv F fs ls := h.step (h.kn.bw hb) (Mv.same _ hb)
theorem Kc.start {w : World} {kb b : Nat} {sv : Value} {mb : Nat} {L : List Tm} {fv tv lv : Value} {F : List Bool} {fs : List Nat} {ls : List (Nat × Nat)} (h : Kn w kb fv tv lv b F fs ls) (hS : St w b sv mb L) (hd : ∀ x ∈ kfoot kb fv tv lv, x ∉ foot b sv mb) :
    Kc w w kb b sv mb L (kfoot kb fv tv lv) fv tv lv F fs ls := ⟨h, Mv.refl _ _, hS, hd⟩
/-- A term that lies beside. -/
structure Tk (W : World) (Z : List Nat) (h : Nat) (u : Tm) : Prop where
  lay : TAt W h 0 u
  out : h ∉ Z
theorem Tk.step {W W' : World} {Z Z' : List Nat} {h : Nat} {u : Tm} (k : Tk W Z h u) (m : Mv W W' Z Z') : Tk W' Z' h u :=
  ⟨k.lay.keep (m.fr.block h k.lay.lt k.out), fun c => by
    rcases m.place h c with q | q
    · exact k.out q
    · have := k.lay.lt; omega⟩
theorem Tk.new {W W' : World} {Z : List Nat} {h : Nat} {u : Tm} (k : Tk W Z h u) (hb : Below W.heap.size W W') : Tk W' Z h u := k.step (Mv.same _ hb)
theorem Tk.cells {W : World} {Z : List Nat} {h : Nat} {u : Tm} (k : Tk W Z h u) : W.cell? ⟨h, 0, none⟩ = some (.int .u8 u.kd) ∧ W.cell? ⟨h, 1, none⟩ = some (.int .i64 u.n) ∧ W.cell? ⟨h, 2, none⟩ = some (.int .i64 u.a) ∧ W.cell? ⟨h, 3, none⟩ = some (.int .i64 u.b) := by
  have := k.lay; unfold TAt at this; simpa using this
theorem Tk.grown {W W' : World} {Z : List Nat} {h : Nat} {u : Tm} {ob : Obj} {row : Option Nat} (k : Tk W Z h u) (hg : (W.alloc ob).grownBy W' row) (hr : ∀ x, row = some x → x ∈ Z) : Tk W' Z h u :=
  ⟨k.lay.keep (by rw [hg.block h (by have := k.lay.lt; simp; omega) (fun c => k.out (hr h c.symm)), Below.heap_alloc _ _ _ k.lay.lt]), k.out⟩
theorem Lk.moreN {L : List Tm} {F : List Bool} {fs : List Nat} {ls : List (Nat × Nat)} {M : Nat} (h : Lk L F fs ls none2 0) (hG : Good L) (hM : F.length = M) (hl : M ≤ L.length) (x : Bool) : Lk L (F ++ [x]) (fs ++ [0]) ls (fun m _ => m = M) 3 := by
  subst hM; exact h.more hG hl x
theorem Lk.done2 {L : List Tm} {F : List Bool} {fs : List Nat} {ls : List (Nat × Nat)} {M A B s : Nat} (h : Lk L F fs ls (fun m d => (m = M ∧ ¬ (m = M ∧ d = A)) ∧ ¬ (m = M ∧ d = B)) s) (hA : A = pA L M) (hB : B = pB L M) (hk : kdOf L M ≠ 6) : Lk L F fs ls none2 0 :=
  h.weak fun m d _ _ hd hx => by
    obtain ⟨⟨rfl, h2⟩, h3⟩ := hx
    rcases hd with e | e | ⟨e, _⟩
    · exact h2 ⟨rfl, by rw [hA]; exact e⟩
    · exact h3 ⟨rfl, by rw [hB]; exact e⟩
    · exact hk e
theorem Lk.done3 {L : List Tm} {F : List Bool} {fs : List Nat} {ls : List (Nat × Nat)} {M A B C s : Nat} (h : Lk L F fs ls (fun m d => ((m = M ∧ ¬ (m = M ∧ d = A)) ∧ ¬ (m = M ∧ d = B)) ∧ ¬ (m = M ∧ d = C)) s) (hA : A = pA L M) (hB : B = pB L M) (hC : C = opn L M) : Lk L F fs ls none2 0 :=
  h.weak fun m d _ _ hd hx => by
    obtain ⟨⟨⟨rfl, h2⟩, h3⟩, h4⟩ := hx
    rcases hd with e | e | ⟨_, e⟩
    · exact h2 ⟨rfl, by rw [hA]; exact e⟩
    · exact h3 ⟨rfl, by rw [hB]; exact e⟩
    · exact h4 ⟨rfl, by rw [hC]; exact e⟩
/-- wait, for what is known beside its store and a term. -/
theorem wait_kc (kb b : Nat) (sv : Value) (mb : Nat) (L : List Tm) (Z0 : List Nat) (fv tv lv : Value) (F : List Bool) (fs : List Nat) (ls : List (Nat × Nat)) (X : Nat → Nat → Prop) (s n d : Nat) (w W : World) (hx : Nat) (u : Tm) (h : Kc w W kb b sv mb L Z0 fv tv lv F fs ls) (ht : Tk W (kfoot kb fv tv lv) hx u) (hl : Lk L F fs ls X (s + 1)) (h1 : 1 ≤ n) (h2 : n < F.length) (hd : d < F.length) :
    Calls Try.prog 54 #[.pointer (some ⟨kb, 0, none⟩), .int .i64 (n : Int), .int .i64 (d : Int)] W fun e W' => e = .returned (.tuple #[]) ∧ ∃ lv' fs' ls', Kc w W' kb b sv mb L Z0 fv tv lv' F fs' ls' ∧ Tk W' (kfoot kb fv tv lv') hx u ∧ Lk L F fs' ls' (fun m e => X m e ∧ ¬ (m = n ∧ e = d)) s := by
  have hF : F.length ≤ 1048577 := by have := hl.lenF; have := h.st.len; omega
  refine (wait_any kb fv tv lv b F fs ls n d W h.kn hd hl.lenf hF (by have := hl.lenl; omega) hl.lpos).mono ?_
  rintro e W' ⟨rfl, lv', k, m⟩
  exact ⟨rfl, lv', _, _, h.step k m, ht.step m, hl.wait h1 h2 hd⟩
theorem one_bool (x : Bool) : ∀ u ∈ [Value.bool x], u.oneCell' = true := by intro u hu; simp at hu; subst hu; rfl
theorem one_int (x : Int) : ∀ u ∈ [Value.int .i64 x], u.oneCell' = true := by intro u hu; simp at hu; subst hu; rfl

set_option maxRecDepth 100000 in
set_option maxHeartbeats 8000000 in
theorem read_any (kb : Nat) (fv tv lv : Value) (b : Nat) (F : List Bool) (fs : List Nat) (ls : List (Nat × Nat)) (sv : Value) (mb : Nat) (L : List Tm) (K : Nat → Prop) (w : World) (h : Kn w kb fv tv lv b F fs ls) (hl : Lk L F fs ls none2 0) (hs : Sm L K F [] none1) (hS : St w b sv mb L) (hd : ∀ x ∈ kfoot kb fv tv lv, x ∉ foot b sv mb) :
    Calls Try.prog 36 #[.pointer (some ⟨kb, 0, none⟩)] w fun e w' => e = .returned (.tuple #[]) ∧ ∃ fv' tv' lv' F' fs' ls', Kc w w' kb b sv mb L (kfoot kb fv tv lv) fv' tv' lv' F' fs' ls' ∧ Lk L F' fs' ls' none2 0 ∧ Sm L K F' [] none1 ∧ F'.length = L.length + 1 := by
  obtain ⟨i0, hi, hz0, hz1, hzb⟩ := info_parts Try.infoBool
  obtain ⟨j0, hj, hy0, hy1, hyb⟩ := info_parts Try.infoInt
  obtain ⟨_, c1, _, _, _⟩ := h.cells
  obtain ⟨a1, cap1, hfv⟩ := own_slice h.rf
  rw [hfv] at c1
  have hG := hS.good
  have hL := hS.len
  have hFL := hl.lenF
  obtain ⟨N, hN⟩ : ∃ N, N = L.length := ⟨_, rfl⟩
  obtain ⟨Z0, hZ0⟩ : ∃ Z0, Z0 = kfoot kb fv tv lv := ⟨_, rfl⟩
  have h0 : Kc w w kb b sv mb L Z0 fv tv lv F fs ls := by rw [hZ0]; exact Kc.start h hS hd
  rw [← hZ0]
  have HI : Hid (∃ fv' tv' lv' F' fs' ls', Kc w w kb b sv mb L Z0 fv' tv' lv' F' fs' ls' ∧ Lk L F' fs' ls' none2 0 ∧ Sm L K F' [] none1 ∧ F'.length = F.length) := ⟨fv, tv, lv, F, fs, ls, h0, hl, hs, rfl⟩
  have HN := hide (And.intro hN (And.intro hG hL))
  have hNb : (N : Int) ≤ 1048576 := by omega
  have hFb : (F.length : Int) ≤ 1048577 := by omega
  clear h hl hs hS hd hfv hG hL hFL hN hZ0 h0
  go_enter Try.func36, Try.ntmps36
  go_wp2_with fail
  go_loopw [2] (fun nv wr => ∃ m : Nat, nv = .int .i64 (m : Int) ∧ Hid (∃ fv' tv' lv' F' fs' ls', Kc w wr kb b sv mb L Z0 fv' tv' lv' F' fs' ls' ∧ Lk L F' fs' ls' none2 0 ∧ Sm L K F' [] none1 ∧ F'.length = m)) (fun nv _ => (N + 1 - intOf nv).toNat)
  case atStart => exact ⟨F.length, rfl, HI⟩
  case round =>
    obtain ⟨m, rfl, HR⟩ := hrel
    obtain ⟨fv1, tv1, lv1, F1, fs1, ls1, k1, l1, s1, e1⟩ := unhide HR
    obtain ⟨hN, hG, hL⟩ := unhide HN
    have KL := len_any b sv mb L wr k1.st
    obtain ⟨d0, _, _, _, _⟩ := k1.kn.cells
    rw [← hN] at KL
    have hm1 : 1 ≤ m := by have := l1.zero.lt; omega
    have hmN : m ≤ N + 1 := by have := l1.lenF; omega
    have HC := hide (And.intro k1 (And.intro l1 (And.intro s1 e1)))
    by_cases hc : m ≤ N
    · have KG := get_nat b sv mb L m wr k1.st hm1 (by omega)
      have hc2 : (m : Int) ≤ (N : Int) := by omega
      obtain ⟨hp1, hp2⟩ := hG.parts hm1 (show m ≤ L.length by omega)
      obtain ⟨kd, u0⟩ : ∃ x, x = kdOf L m := ⟨_, rfl⟩
      obtain ⟨nn, u1⟩ : ∃ x, x = (tmAt L m).n := ⟨_, rfl⟩
      obtain ⟨A, u2⟩ : ∃ x, x = pA L m := ⟨_, rfl⟩
      obtain ⟨B, u3⟩ : ∃ x, x = pB L m := ⟨_, rfl⟩
      rw [← u0, ← u1, ← u2, ← u3] at KG
      have HU := hide (And.intro u0 (And.intro u2 (And.intro u3 (And.intro hp1 (And.intro hp2 (And.intro hm1 (And.intro hc (And.intro hN (And.intro hG hL)))))))))
      clear hN hG hL k1 l1 s1 e1 HR HI u0 u1 u2 u3 hp1 hp2 hc hm1
      go_wp2_with fail
      refine KL.mono ?_
      rintro e wr ⟨rfl, rfl⟩
      clear KL
      go_wp2_with fail
      refine KG.mono ?_
      rintro e z1 ⟨rfl, b1⟩
      have q0 : Hid (∃ W h, W = z1.alloc (.cells #[.int .u8 kd, .int .i64 nn, .int .i64 (A : Int), .int .i64 (B : Int)] 40) ∧ h = z1.heap.size ∧ Kc w W kb b sv mb L Z0 fv1 tv1 lv1 F1 fs1 ls1 ∧ Tk W (kfoot kb fv1 tv1 lv1) h ⟨kd, nn, A, B⟩) := by
        obtain ⟨k1, l1, s1, e1⟩ := unhide HC
        exact ⟨_, _, rfl, rfl, (k1.new b1).new (bw_alloc z1 _), tat_new z1 ⟨kd, nn, A, B⟩ _, fun c => by have := (k1.new b1).kn.lt _ c; omega⟩
      clear KG b1
      go_upto_region 4 with fail
      obtain ⟨W, hx, e1, e2, k2, t2⟩ := unhide q0
      rw [← e1, ← e2]
      clear q0 e1 e2 d0
      obtain ⟨d0, d1, d2, d3, df⟩ := k2.kn.cells
      obtain ⟨t0, t1, t2', t3⟩ := t2.cells
      simp only at t0 t1 t2' t3
      have HP : Hid (A < F1.length ∧ B < F1.length ∧ F1.length ≤ 1048577) := by
        obtain ⟨_, u2, u3, hp1, hp2, hm1, hc, hN, hG, hL⟩ := unhide HU
        obtain ⟨_, _, _, e⟩ := unhide HC
        rw [u2, u3]
        exact ⟨by omega, by omega, by omega⟩
      have KM : Hid (∀ V, Below W.heap.size W V → _) := fun V hV => canMake_any kb fv1 tv1 lv1 b F1 fs1 ls1 kd nn A B V (k2.kn.bw hV) (unhide HP).1 (unhide HP).2.1 (unhide HP).2.2
      obtain ⟨cm, hcm⟩ : ∃ cm, cm = (!decide (kd = 1) && onB F1 A && onB F1 B) := ⟨_, rfl⟩
      rw [← hcm] at KM
      have HK2 := hide k2
      have HT2 := hide t2
      have HCM := hide hcm
      have hxk : kb ≠ hx := fun c => t2.out (by rw [← c]; exact mem_kfoot.2 (Or.inl rfl))
      have hxl : hx < W.heap.size := t2.lay.lt
      have hkl : kb < W.heap.size := lt_of_blk k2.kn.blk
      have bW : Below W.heap.size W W.drew := (Below.refl _ _).drew
      have sof : Hid (∀ V, Below W.heap.size W V → (V.cell? ⟨hx, 0, none⟩ = some (.int .u8 kd) ∧ V.cell? ⟨hx, 1, none⟩ = some (.int .i64 nn) ∧ V.cell? ⟨hx, 2, none⟩ = some (.int .i64 (A : Int)) ∧ V.cell? ⟨hx, 3, none⟩ = some (.int .i64 (B : Int))) ∧ V.cell? ⟨kb, 1, none⟩ = some fv1) := fun V hV =>
        ⟨(t2.new hV).cells, by rw [World.cell?_of_block (w := W) (hV.block _ (lt_of_cell d1))]; exact d1⟩
      have HMX : Hid (F1.length + 1 ≤ maxLen ∧ (F1.length + 1) * 1 ≤ 140737488355328) := by have := (unhide HP).2.2; unfold maxLen; exact ⟨by omega, by omega⟩
      clear hcm k2 t2
      go_cut [28] from 28 to 40 (fun _ wx => ∃ v1, Hid (Kc w wx kb b sv mb L Z0 v1 tv1 lv1 (F1 ++ [cm]) fs1 ls1 ∧ Tk wx (kfoot kb v1 tv1 lv1) hx ⟨kd, nn, A, B⟩))
      case first =>
        go_region_law (first
          | (refine step_append_own rfl (.tmp 32) (.tmp 36) 73 rfl 0 4 i0 (.bool false) 1 1 Try.underlying73 hi hz0 hz1 hzb rfl (by decide) fv1 F1.length (F1.map .bool) (by simp [Act.eval]) (((unhide HK2).kn.bw b3).rf.alloc _) ⟨z2.heap.size, 0, none⟩ 1 1 [.bool cm] (by simp [Act.eval]) rfl (cell_one_new _ _ _) (one_bool cm) (unhide HMX).1 (unhide HMX).2 (Nat.zero_le _) ?_; intro v' w3 hown' hgrow hat; obtain ⟨r1, r2, r3, r4, g', cp, rfl⟩ := ((unhide HK2).kn.bw b3).growF (x := cm) ((Fr.refl [] z2).alloc _) hown' hgrow hat)
          | (go_simp; go_wp2_with (first | (go_at_call 53; refine (unhide KM _ bW).mono ?_; rintro e z2 ⟨rfl, b2⟩; have b3 := bw_tr bW b2; obtain ⟨_, y1⟩ := unhide sof _ b3; have b4 := b3.alloc b3.size (.cells #[.bool cm] 4); obtain ⟨_, y2⟩ := unhide sof _ b4))))
        all_goals
          go_wp2_with fail
          go_meet
          case rel => exact ⟨_, ((unhide HK2).new b3).step r1 r2, ((unhide HT2).new b3).step r2⟩
      case rest =>
        obtain ⟨v1, HK3⟩ := hcut
        have k3 := (unhide HK3).1
        obtain ⟨_, _, e2, _, ef⟩ := k3.kn.cells
        have e2f := ef 2
        have hrow := k3.kn.rt
        unfold NRow at hrow
        have HL5 : Hid (Lk L (F1 ++ [cm]) (fs1 ++ [0]) ls1 (fun m' _ => m' = m) 3 ∧ Sm L K (F1 ++ [cm]) [] none1 ∧ fs1.length ≤ 1048577) := by
          obtain ⟨_, l1, s1, e1⟩ := unhide HC
          obtain ⟨v0, v2, v3, hp1, hp2, hm1, hc, hN, hG, hL⟩ := unhide HU
          refine ⟨l1.moreN hG e1 (by omega) cm, ?_, by have := l1.lenf; omega⟩
          have ec : cm = cmk L F1 F1.length := by rw [unhide HCM, e1, v0, v2, v3]; rfl
          rw [ec]
          exact s1.more hG (by omega) (by omega)
        have h1m : fs1.length + 1 ≤ maxLen := by have := (unhide HL5).2.2; unfold maxLen; omega
        have h1b : (fs1.length + 1) * 8 ≤ 140737488355328 := by have := (unhide HL5).2.2; omega
        have HMY := hide (And.intro h1m h1b)
        clear k3 ef t0 t1 t2' t3 d0 d1 d2 d3 df sof KM HK2 HT2 HMX h1m h1b HP HCM
        go_wp2_with (at_builtin; refine wpList_append_own_at _ rfl (.tmp 44) (.tmp 45) 37 rfl 0 3 j0 (.int .i64 0) 1 8 Try.underlying37 hj hy0 hy1 hyb rfl (by decide) _ fs1.length _ rfl (World.ownsRow.alloc hrow _) ⟨wc.heap.size, 0, none⟩ 1 1 [_] rfl rfl (cell_one_new _ _ _) ?c2 ?c3 ?c4 ?c5 ?nx)
        case c2 => exact one_int 0
        case c3 => exact (unhide HMY).1
        case c4 => exact (unhide HMY).2
        case c5 => exact Nat.zero_le _
        case nx =>
          intro v' w3 hown' hgrow _ hat
          obtain ⟨k3, t3⟩ := unhide HK3
          obtain ⟨r1, r2, r3, r4, g', cp, rfl⟩ := k3.kn.growT (x := 0) ((Fr.refl [] wc).alloc _) hown' hgrow (by simpa using hat)
          have k4 := k3.step r1 r2
          have t4 := t3.step r2
          have HK4 := hide (And.intro k4 t4)
          obtain ⟨x0, x1, x2, x3⟩ := t4.cells
          simp only at x0 x1 x2 x3
          clear k3 t3 r1 r2 k4 t4 hown' hgrow hat HK3 hrow e2 e2f x0 x1 x3
          go_upto_region 6 with fail
          obtain ⟨W4, hW4⟩ : ∃ W4, W4 = w3.setCell ⟨kb, 2, none⟩ (.slice (some ⟨g', 0, none⟩) (fs1.length + 1) cp) := ⟨_, rfl⟩
          rw [← hW4] at HK4 x2 ⊢
          obtain ⟨tv4, htv4⟩ : ∃ tv4, tv4 = Value.slice (some ⟨g', 0, none⟩) (fs1.length + 1) cp := ⟨_, rfl⟩
          rw [← htv4] at HK4
          clear r3 r4 hW4 htv4
          have HB : Hid (1 ≤ m ∧ m < (F1 ++ [cm]).length ∧ A < (F1 ++ [cm]).length ∧ B < (F1 ++ [cm]).length) := by
            obtain ⟨_, l1, s1, e1⟩ := unhide HC
            obtain ⟨v0, v2, v3, hp1, hp2, hm1, hc, hN, hG, hL⟩ := unhide HU
            rw [List.length_append]; simp only [List.length_cons, List.length_nil]
            exact ⟨by omega, by omega, by omega, by omega⟩
          have KW1 := wait_kc kb b sv mb L Z0 v1 tv4 lv1 _ _ _ _ 2 m A w W4 hx _ (unhide HK4).1 (unhide HK4).2 (unhide HL5).1 (unhide HB).1 (unhide HB).2.1 (unhide HB).2.2.1
          go_wp2_with fail
          refine KW1.mono ?_
          rintro e W5 ⟨rfl, lv5, fs5, ls5, k5, t5, l5⟩
          have KW2 := wait_kc kb b sv mb L Z0 v1 tv4 lv5 _ _ _ _ 1 m B w W5 hx _ k5 t5 l5 (unhide HB).1 (unhide HB).2.1 (unhide HB).2.2.2
          obtain ⟨_, _, _, x3⟩ := t5.cells
          simp only at x3
          clear KW1 k5 t5 l5 x2 HK4
          go_wp2_with fail
          refine KW2.mono ?_
          rintro e W6 ⟨rfl, lv6, fs6, ls6, k6, t6, l6⟩
          obtain ⟨y0, y1, y2, y3⟩ := t6.cells
          simp only at y0 y1 y2 y3
          have HK6 := hide (And.intro k6 (And.intro t6 l6))
          clear KW2 k6 t6 l6 x3
          by_cases hk6 : kd = 6
          · have HO : Hid (1 ≤ A ∧ A ≤ L.length ∧ opA L A < (F1 ++ [cm]).length ∧ opA L A = opn L m) := by
              obtain ⟨_, l1, s1, e1⟩ := unhide HC
              obtain ⟨v0, v2, v3, hp1, hp2, hm1, hc, hN, hG, hL⟩ := unhide HU
              have k6' : kdOf L m = 6 := by rw [← v0]; exact hk6
              have q1 := hG.pos2 hm1 (by omega) (Or.inr k6')
              have q2 := hG.opn hm1 (by omega) k6'
              have eo : opA L A = opn L m := by rw [v2]; rfl
              refine ⟨by omega, by omega, ?_, eo⟩
              rw [List.length_append, eo]; simp only [List.length_cons, List.length_nil]
              omega
            obtain ⟨z0, _, _, _, _⟩ := (unhide HK6).1.kn.cells
            have KO := opener_any kb b sv mb L kd nn A (B : Int) W6 (unhide HK6).1.st z0 (unhide HO).1 (unhide HO).2.1
            subst hk6
            clear z0
            go_wp2_with fail
            refine KO.mono ?_
            rintro e W7 ⟨rfl, b7⟩
            have KW3 := wait_kc kb b sv mb L Z0 v1 tv4 lv6 _ _ _ _ 0 m (opA L A) w W7 hx _ ((unhide HK6).1.new b7) ((unhide HK6).2.1.new b7) (unhide HK6).2.2 (unhide HB).1 (unhide HB).2.1 (unhide HO).2.2.1
            clear KO b7 y0 y1 y2 y3
            go_wp2_with fail
            refine KW3.mono ?_
            rintro e W8 ⟨rfl, lv8, fs8, ls8, k8, t8, l8⟩
            have HE : Hid (∃ fv' tv' lv' F' fs' ls', Kc w W8 kb b sv mb L Z0 fv' tv' lv' F' fs' ls' ∧ Lk L F' fs' ls' none2 0 ∧ Sm L K F' [] none1 ∧ F'.length = m + 1) := by
              obtain ⟨_, l1, s1, e1⟩ := unhide HC
              obtain ⟨v0, v2, v3, hp1, hp2, hm1, hc, hN, hG, hL⟩ := unhide HU
              exact ⟨_, _, _, _, _, _, k8, l8.done3 v2 v3 (unhide HO).2.2.2, (unhide HL5).2.1, by simp [e1]⟩
            clear k8 t8 l8 KW3
            go_wp2_with fail
            go_roundw
            case rel => exact ⟨m + 1, by go_num, HE⟩
            case measure => simp only [intOf]; omega
          · have hk7 : (kd == 6) = false := by simp [hk6]
            have hk8 : decide (kd = 6) = false := by simp [hk6]
            have HE : Hid (∃ fv' tv' lv' F' fs' ls', Kc w W6 kb b sv mb L Z0 fv' tv' lv' F' fs' ls' ∧ Lk L F' fs' ls' none2 0 ∧ Sm L K F' [] none1 ∧ F'.length = m + 1) := by
              obtain ⟨_, l1, s1, e1⟩ := unhide HC
              obtain ⟨v0, v2, v3, hp1, hp2, hm1, hc, hN, hG, hL⟩ := unhide HU
              exact ⟨_, _, _, _, _, _, (unhide HK6).1, (unhide HK6).2.2.done2 v2 v3 (by rw [← v0]; exact hk6), (unhide HL5).2.1, by simp [e1]⟩
            go_wp2_with fail
            go_roundw
            case rel => exact ⟨m + 1, by go_num, HE⟩
            case measure => simp only [intOf]; omega
    · obtain rfl : m = N + 1 := by omega
      have HE : Hid (∃ fv' tv' lv' F' fs' ls', Kc w wr kb b sv mb L Z0 fv' tv' lv' F' fs' ls' ∧ Lk L F' fs' ls' none2 0 ∧ Sm L K F' [] none1 ∧ F'.length = L.length + 1) := ⟨_, _, _, _, _, _, k1, l1, s1, by rw [e1, hN]⟩
      have hc3 : ¬ (((N + 1 : Nat) : Int) ≤ (N : Int)) := by omega
      clear k1 l1 s1 e1 hN hG hL HR HI HC
      go_wp2_with fail
      refine KL.mono ?_
      rintro e wr ⟨rfl, rfl⟩
      go_wp2_with fail
      go_end0
      exact ⟨rfl, unhide HE⟩

end Go.Proofs.Ytkaioidneknmjaa.Tn
