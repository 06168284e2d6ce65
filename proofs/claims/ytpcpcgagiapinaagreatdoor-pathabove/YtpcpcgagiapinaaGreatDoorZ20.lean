/- Texts joined: NDdE NDdF NDdPureB. -/
import Derived.Test.YtpcpcgagiapinaaGreatDoorZ19
import Derived.Test.YtpcpcgagiapinaaGreatDoorZ16
/- The contract of learn of package deduce. -/
namespace Go.Proofs.YtpcpcgagiapinaaGreatDoor.Tn
open Go.RowKit Go.Maps
def nfW (w : World) (kb : Nat) : Nat :=
  match w.cell? ⟨kb, 1, none⟩ with
  | some (.slice (some a) n _) => (List.range n).countP (fun i => match w.cell? ⟨a.block, i, none⟩ with | some (.bool x) => !x | _ => false)
  | _ => 0
theorem nf_range (F : List Bool) : nf F = (List.range F.length).countP (fun i => !onB F i) := by
  have e : F = (List.range F.length).map (onB F) := by
    apply List.ext_getElem
    · simp
    · intro i h1 h2; simp [onB, List.getD, List.getElem?_eq_getElem h1]
  unfold nf
  conv => lhs; rw [e]
  rw [List.countP_map]
  rfl
theorem Kn.nf {w : World} {kb : Nat} {fv tv lv : Value} {b : Nat} {F : List Bool} {fs : List Nat} {ls : List (Nat × Nat)} (h : Kn w kb fv tv lv b F fs ls) (h0 : 0 < F.length) : nfW w kb = nf F := by
  obtain ⟨g, cap, hfv, hg, hm, _⟩ := h.marks h0
  have c1 := h.cells.2.1
  rw [hfv] at c1
  unfold nfW
  rw [c1, nf_range]
  simp only
  refine List.countP_congr fun i hi => ?_
  rw [hm i (by simpa using hi)]
theorem Sm.weakT {L : List Tm} {K : Nat → Prop} {F : List Bool} {l : List Nat} {T T' : Nat → Prop} (h : Sm L K F l T) (hT : ∀ x, T x → T' x) : Sm L K F l T' :=
  ⟨h.sound, h.psound, h.krng, h.known, fun m a b c d => h.make m a b (fun q => c (hT m q)) d, fun m a b c d => h.pair m a b (fun q => c (hT m q)) d, fun m a b c d e => h.opens m a b (fun q => c (hT m q)) d e⟩
structure Le (w W : World) (kb b : Nat) (sv : Value) (mb : Nat) (L : List Tm) (fv tv lv v0 v : Value) (l : List Nat) (F : List Bool) (fs : List Nat) (ls : List (Nat × Nat)) : Prop where
  kn : Kn W kb fv tv lv b F fs ls
  st : St W b sv mb L
  row : NRow 0 W v l
  fr : Fr (kfoot kb fv tv lv ++ v0.ownBlock.toList) w W
  pl : ∀ k, v.ownBlock = some k → v0.ownBlock = some k ∨ w.heap.size ≤ k
  sep : ∀ k, v.ownBlock = some k → k ∉ kfoot kb fv tv lv ∧ k ∉ foot b sv mb
  dis : ∀ x ∈ kfoot kb fv tv lv, x ∉ foot b sv mb
theorem Le.look {w W W' : World} {kb b : Nat} {sv : Value} {mb : Nat} {L : List Tm} {fv tv lv v0 v v' : Value} {l l' : List Nat} {F : List Bool} {fs : List Nat} {ls : List (Nat × Nat)} (h : Le w W kb b sv mb L fv tv lv v0 v l F fs ls) (k : Nw W W' v v' l') : Le w W' kb b sv mb L fv tv lv v0 v' l' F fs ls := by
  refine ⟨h.kn.keep k.fr (fun x hx c => (h.sep x (by simpa using c)).1 hx), h.st.keep k.fr (fun x hx c => (h.sep x (by simpa using c)).2 hx), k.row, ?_, fun x hx => ?_, fun x hx => ?_, h.dis⟩
  · refine h.fr.trans k.fr (fun _ _ c => c) (fun x hx c => ?_)
    rcases h.pl x (by simpa using c) with q | q
    · exact List.mem_append_right _ (by simpa using q)
    · omega
  · rcases k.pl x hx with q | q
    · exact h.pl x q
    · exact Or.inr (Nat.le_trans h.fr.size q)
  · rcases k.pl x hx with q | q
    · exact h.sep x q
    · exact ⟨fun c => by have := h.kn.lt x c; omega, fun c => by have := h.st.lt x c; omega⟩
theorem Le.mark {w W : World} {kb b : Nat} {sv : Value} {mb : Nat} {L : List Tm} {g n cap : Nat} {tv lv v0 v : Value} {l : List Nat} {F : List Bool} {fs : List Nat} {ls : List (Nat × Nat)} (h : Le w W kb b sv mb L (.slice (some ⟨g, 0, none⟩) n cap) tv lv v0 v l F fs ls) (m : Nat) (x : Bool) :
    Le w (W.setCell ⟨g, m, none⟩ (.bool x)) kb b sv mb L (.slice (some ⟨g, 0, none⟩) n cap) tv lv v0 v l (F.set m x) fs ls := by
  obtain ⟨k1, k2⟩ := h.kn.setF m x
  have hz : g ∈ kfoot kb (.slice (some ⟨g, 0, none⟩) n cap) tv lv := mem_kfoot.2 (Or.inr (Or.inl rfl))
  refine ⟨k1, h.st.keep k2.fr (fun x hx c => h.dis x c hx), h.row.keep (fun k hk => k2.fr.block k (h.row.lt k hk).2 (fun c => (h.sep k hk).1 c)), ?_, h.pl, h.sep, h.dis⟩
  exact h.fr.trans k2.fr (fun _ _ c => c) (fun x _ c => List.mem_append_left _ c)
theorem Le.row_to {w W : World} {kb b : Nat} {sv : Value} {mb : Nat} {L : List Tm} {fv tv lv v0 v v' : Value} {l l' : List Nat} {F : List Bool} {fs : List Nat} {ls : List (Nat × Nat)} (h : Le w W kb b sv mb L fv tv lv v0 v l F fs ls) (hr : NRow 0 W v' l') (hv : v'.ownBlock = v.ownBlock) : Le w W kb b sv mb L fv tv lv v0 v' l' F fs ls :=
  ⟨h.kn, h.st, hr, h.fr, by rw [hv]; exact h.pl, by rw [hv]; exact h.sep, h.dis⟩
theorem meas_mark {M q x a b : Nat} (h : b = a + 1) (hx : x ≤ q + 2 + 2 * M) : x + (2 * M + 3) * a < q + 1 + (2 * M + 3) * b := by
  subst h
  rw [Nat.mul_succ]
  generalize (2 * M + 3) * a = Z
  omega
set_option maxRecDepth 100000 in
set_option maxHeartbeats 8000000 in
theorem learn_any (kb : Nat) (fv tv lv : Value) (b : Nat) (F : List Bool) (fs : List Nat) (ls : List (Nat × Nat)) (sv : Value) (mb : Nat) (L : List Tm) (K : Nat → Prop) (v : Value) (l : List Nat) (w : World) (h : Kn w kb fv tv lv b F fs ls) (hS : St w b sv mb L) (hd : ∀ x ∈ kfoot kb fv tv lv, x ∉ foot b sv mb)
    (hl : Lk L F fs ls none2 0) (hr : NRow 0 w v l) (hsep : ∀ k, v.ownBlock = some k → k ∉ kfoot kb fv tv lv ∧ k ∉ foot b sv mb) (hs : Sm L K F l none1) (hb : l.length + (2 * ls.length + 3) * nf F ≤ 16000000000000) :
    Calls Tryz.prog 81 #[.pointer (some ⟨kb, 0, none⟩), v] w fun e w' => e = .returned (.tuple #[]) ∧ ∃ F' v' l', Le w w' kb b sv mb L fv tv lv v v' l' F' fs ls ∧ Lk L F' fs ls none2 0 ∧ Sm L K F' [] none1 ∧ F'.length = F.length := by
  have hG := hS.good
  have hL := hS.len
  have h0 : Le w w kb b sv mb L fv tv lv v v l F fs ls := ⟨h, hS, hr, Fr.refl _ _, fun _ hk => Or.inl hk, hsep, hd⟩
  obtain ⟨M, hM⟩ : ∃ M, M = ls.length := ⟨_, rfl⟩
  rw [← hM] at hb
  have HI : Hid (∃ l' F', Le w w kb b sv mb L fv tv lv v v l' F' fs ls ∧ Lk L F' fs ls none2 0 ∧ Sm L K F' l' none1 ∧ F'.length = F.length ∧ l'.length + (2 * M + 3) * nf F' ≤ 16000000000000) := ⟨l, F, h0, hl, hs, rfl, hb⟩
  have HN := hide (And.intro hM (And.intro hG hL))
  have hfs := hl.lenf
  obtain ⟨g, capF, hfv, _, _, _⟩ := h.marks hl.zero.lt
  obtain ⟨g2, capT, htv, _, _, _⟩ := h.firsts (by have := hl.zero.lt; omega)
  obtain ⟨g3, capL, hlv, _, _⟩ := h.lnks hl.lpos
  obtain ⟨N, hNF⟩ : ∃ N, N = F.length := ⟨_, rfl⟩
  rw [← hNF] at hfv
  rw [hfs, ← hNF] at htv
  rw [← hM] at hlv
  have hNb : (N : Int) ≤ 1048577 := by have := hl.lenF; omega
  have hMb : (M : Int) ≤ 3145731 := by have := hl.lenF; have := hl.lenl; omega
  have HNF := hide (And.intro hNF hfs)
  clear h hS hd hl hr hsep hs hb h0 hG hL hM hNF hfs
  subst hfv htv hlv
  go_enter Tryz.func81, Tryz.ntmps81
  go_wp2_with fail
  go_loopw [1] (fun vv wr => Hid (∃ l' F', Le w wr kb b sv mb L (.slice (some ⟨g, 0, none⟩) N capF) (.slice (some ⟨g2, 0, none⟩) N capT) (.slice (some ⟨g3, 0, none⟩) M capL) v vv l' F' fs ls ∧ Lk L F' fs ls none2 0 ∧ Sm L K F' l' none1 ∧ F'.length = F.length ∧ l'.length + (2 * M + 3) * nf F' ≤ 16000000000000)) (fun vv wr => lenOf vv + (2 * M + 3) * nfW wr kb)
  case atStart => exact HI
  case round =>
    clear HI
    obtain ⟨l1, F1, e1, k1, s1, n1, b1⟩ := unhide hrel
    obtain ⟨hM, hG, hL⟩ := unhide HN
    rcases List.eq_nil_or_concat l1 with rfl | ⟨s, n, hl1⟩
    · obtain ⟨va, vc, rfl⟩ := own_slice e1.row
      have HE : Hid (∃ F' v' l', Le w wr kb b sv mb L (.slice (some ⟨g, 0, none⟩) N capF) (.slice (some ⟨g2, 0, none⟩) N capT) (.slice (some ⟨g3, 0, none⟩) M capL) v v' l' F' fs ls ∧ Lk L F' fs ls none2 0 ∧ Sm L K F' [] none1 ∧ F'.length = F.length) := ⟨F1, _, _, e1, k1, s1, n1⟩
      clear e1 k1 s1 n1 b1 hrel hM hG hL
      go_wp2_with fail
      go_end0
      exact ⟨rfl, unhide HE⟩
    · obtain rfl : l1 = s ++ [n] := by rw [hl1]; simp
      clear hl1
      obtain ⟨hNF, hfs⟩ := unhide HNF
      obtain ⟨hfn, hnN⟩ := s1.psound n (by simp)
      have hn1 := (hfn.rng hG).1
      have hn2 : n < N := by omega
      obtain ⟨q, hq⟩ : ∃ q, q = s.length := ⟨_, rfl⟩
      obtain ⟨g5, cap5, hv5, hg5, hc5, _⟩ := own_open e1.row (by simp)
      have hlen : (s ++ [n]).length = q + 1 := by rw [hq]; simp
      rw [hlen] at hv5 hc5
      have cq : wr.cell? ⟨g5, q, none⟩ = some (.int .i64 (n : Int)) := e1.row.at (by rw [hv5]; rfl) (by rw [hq]; simp)
      obtain ⟨_, c1, c2, c3, _⟩ := e1.kn.cells
      have cF := e1.kn.rf.cell rfl (m := n) (by omega)
      have cT := nrow_cell e1.kn.rt rfl (m := n) (by omega)
      have fz := own_frozen e1.kn.rf (g := g) rfl n
      have hgl := (World.ownsRow.lt e1.kn.rf g rfl).2
      have hqb : (q : Int) ≤ 16000000000000 := by rw [hlen] at b1; omega
      have hnN' : (n : Int) < (N : Int) := by omega
      have hsl : ∀ W, (Instr.slice 27 (.slice (some ⟨g5, 0, none⟩) (q + 1) cap5) none (some (.int .i64 (q : Int))) none).run Tryz.prog W = .ok (.slice (some ⟨g5, 0, none⟩) q cap5) W := fun W => slice_upto W g5 (q + 1) cap5 q (by omega) hc5
      subst hv5
      have hpop : NRow 0 wr (.slice (some ⟨g5, 0, none⟩) q cap5) s := by have := e1.row; rw [hq] at this ⊢; exact this.pop
      have e2 := e1.row_to hpop rfl
      have HB := hide (And.intro hM (And.intro hG (And.intro hL (And.intro hNF (And.intro hfs (And.intro hn1 (And.intro hn2 (And.intro hq (And.intro b1 (And.intro hlen (And.intro n1 (And.intro k1 s1))))))))))))
      have HE2 := hide e2
      have hnf := e1.kn.nf k1.zero.lt
      have HNFW := hide hnf
      clear hrel e1 k1 s1 n1 b1 hM hG hL hNF hfs hfn hnN hn1 hn2 hq hlen hpop e2 hnf hc5
      cases on : onB F1 n
      · rw [on] at cF
        have hz := hide on
        have e3 := (unhide HE2).mark n true
        have HL2 : Hid (Lk L (F1.set n true) fs ls none2 0 ∧ Sm L K (F1.set n true) (s ++ lkA L (F1.set n true) n) (fun m => InCh ls (fs.getD n 0) m) ∧ (F1.set n true).length = F.length ∧ nf F1 = nf (F1.set n true) + 1 ∧ fs.getD n 0 < M) := by
          obtain ⟨hM, hG, hL, hNF, hfs, hn1, hn2, hq, b1, hlen, n1, k1, s1⟩ := unhide HB
          have hno : ¬ On F1 n := fun c => by have := onB_iff.2 c; rw [on] at this; cases this
          have k2 := k1.mark (n := n) (by omega)
          refine ⟨k2, ?_, by simpa using n1, nf_set (by omega) hno, ?_⟩
          · exact (s1.mark k1 hno).look hG k2.lenF hn1 (by simp; omega) (fun x hx => hx)
          · rw [hM]; exact k1.fst n _ (by simp [List.getD, List.getElem?_eq_getElem (show n < fs.length by omega)])
        have KA : Calls Tryz.prog 128 #[.pointer (some ⟨kb, 0, none⟩), .int .i64 (n : Int), .slice (some ⟨g5, 0, none⟩) q cap5] (wr.setCell ⟨g, n, none⟩ (.bool true)) fun e w' => ∃ v', e = .returned v' ∧ Nw (wr.setCell ⟨g, n, none⟩ (.bool true)) w' (.slice (some ⟨g5, 0, none⟩) q cap5) v' (s ++ lkA L (F1.set n true) n) := by
          obtain ⟨hM, hG, hL, hNF, hfs, hn1, hn2, hq, b1, hlen, n1, k1, s1⟩ := unhide HB
          have k2 := (unhide HL2).1
          have := e3.row
          rw [hq] at this ⊢
          exact lookAt_any kb _ _ _ b _ fs ls sv mb L n (some ⟨g5, 0, none⟩) cap5 s _ e3.kn e3.st k2.lenF hn1 (by simp; omega) k2.zero this (by rw [hlen] at b1; omega)
        have HE3 := hide e3
        have hkl := lt_of_cell c1
        clear e3 on
        generalize (F1.set n true) = F2 at *
        obtain ⟨x, hx⟩ : ∃ x, x = fs.getD n 0 := ⟨_, rfl⟩
        rw [← hx] at HL2
        have HX := hide hx
        clear hx cT
        go_wp2_with fail
        refine KA.mono ?_
        rintro e w3 ⟨v3, rfl, nw3⟩
        have e4 := (unhide HE3).look nw3
        obtain ⟨_, d1, d2, d3, _⟩ := e4.kn.cells
        have dT := nrow_cell e4.kn.rt rfl (m := n) (by obtain ⟨hM, hG, hL, hNF, hfs, hn1, hn2, hq, b1, hlen, n1, k1, s1⟩ := unhide HB; omega)
        rw [← unhide HX] at dT
        have HE4 := hide e4
        obtain ⟨q4, hq4⟩ : ∃ q4, q4 = (s ++ lkA L F2 n).length := ⟨_, rfl⟩
        obtain ⟨va, vc, hv4⟩ := own_slice e4.row
        rw [← hq4] at hv4
        subst hv4
        clear hq4
        clear KA e4 nw3 c1 c2 c3 cF cq fz HE2 HE3 hsl d1 d3 hgl
        go_wp2_with fail
        have HI2 : Hid (∃ l2, Le w w3 kb b sv mb L (.slice (some ⟨g, 0, none⟩) N capF) (.slice (some ⟨g2, 0, none⟩) N capT) (.slice (some ⟨g3, 0, none⟩) M capL) v (.slice va q4 vc) l2 F2 fs ls ∧ Sm L K F2 l2 (fun m => InCh ls x m) ∧ l2.length + 2 * x ≤ q + 2 + 2 * x) := by
          refine ⟨_, unhide HE4, (unhide HL2).2.1, ?_⟩
          have := lkA_len L F2 n
          have hq := (unhide HB).2.2.2.2.2.2.2.1
          rw [List.length_append]; omega
        have hxM := (unhide HL2).2.2.2.2
        obtain ⟨zo, hzo⟩ : ∃ zo, zo = nfW wr kb := ⟨_, rfl⟩
        have HZ := hide hzo
        clear d2 dT HE4 hzo
        go_loopw [1, 5] (fun vv av w4 => ∃ at' : Nat, av = .int .i64 (at' : Int) ∧ at' ≤ x ∧ Hid (∃ l2, Le w w4 kb b sv mb L (.slice (some ⟨g, 0, none⟩) N capF) (.slice (some ⟨g2, 0, none⟩) N capT) (.slice (some ⟨g3, 0, none⟩) M capL) v vv l2 F2 fs ls ∧ Sm L K F2 l2 (fun m => InCh ls at' m) ∧ l2.length + 2 * at' ≤ q + 2 + 2 * x)) (fun _ av _ => (intOf av).toNat)
        case atStart => exact ⟨x, rfl, Nat.le_refl _, HI2⟩
        case round =>
          clear HI2
          obtain ⟨at', rfl, hax, HR2⟩ := hrel
          obtain ⟨l2, e5, s5, b5⟩ := unhide HR2
          by_cases ha : at' = 0
          · subst ha
            have HE : Hid ((∃ l' F', Le w wr kb b sv mb L (.slice (some ⟨g, 0, none⟩) N capF) (.slice (some ⟨g2, 0, none⟩) N capT) (.slice (some ⟨g3, 0, none⟩) M capL) v u1 l' F' fs ls ∧ Lk L F' fs ls none2 0 ∧ Sm L K F' l' none1 ∧ F'.length = F.length ∧ l'.length + (2 * M + 3) * nf F' ≤ 16000000000000) ∧ lenOf u1 + (2 * M + 3) * nfW wr kb < q + 1 + (2 * M + 3) * zo) := by
              obtain ⟨hM, hG, hL, hNF, hfs, hn1, hn2, hq, b1, hlen, n1, k1, s1⟩ := unhide HB
              obtain ⟨m1, m2, m3, m4, m5⟩ := unhide HL2
              have hlt : l2.length + (2 * M + 3) * nf F2 < q + 1 + (2 * M + 3) * nf F1 := meas_mark m4 (by omega)
              obtain ⟨ua, uc, hu⟩ := own_slice e5.row
              refine ⟨⟨l2, F2, e5, m1, s5.weakT (fun y hy => hy.zero), m3, by rw [hlen] at b1; omega⟩, ?_⟩
              rw [e5.kn.nf m1.zero.lt, unhide HZ, unhide HNFW, hu]
              exact hlt
            clear e5 s5 b5 HR2
            go_wp2_with fail
            go_roundw
            case rel => exact (unhide HE).1
            case measure => have := (unhide HE).2; rw [unhide HZ] at this; exact this
          · obtain ⟨p, hp⟩ : ∃ p, ls[at']? = some p := ⟨_, List.getElem?_eq_getElem (by obtain ⟨hM, _⟩ := unhide HB; omega)⟩
            have HP : Hid (1 ≤ p.1 ∧ p.1 < F2.length ∧ p.2 < at') := (unhide HL2).1.lnk at' p (by omega) hp
            have KA : ∃ ua uc q6, u1 = .slice ua q6 uc ∧ Calls Tryz.prog 128 #[.pointer (some ⟨kb, 0, none⟩), .int .i64 (p.1 : Int), .slice ua q6 uc] wr fun e w' => ∃ v', e = .returned v' ∧ Nw wr w' (.slice ua q6 uc) v' (l2 ++ lkA L F2 p.1) := by
              obtain ⟨hM, hG, hL, hNF, hfs, hn1, hn2, hq, b1, hlen, n1, k1, s1⟩ := unhide HB
              obtain ⟨m1, m2, m3, m4, m5⟩ := unhide HL2
              obtain ⟨ua, uc, hu⟩ := own_slice e5.row
              have hr := e5.row
              rw [hu] at hr
              refine ⟨ua, uc, l2.length, hu, lookAt_any kb _ _ _ b _ fs ls sv mb L p.1 ua uc l2 _ e5.kn e5.st m1.lenF (unhide HP).1 (unhide HP).2.1 m1.zero hr ?_⟩
              have hb4 : (2 * M + 3) * nf F1 = (2 * M + 3) * nf F2 + (2 * M + 3) := by rw [m4, Nat.mul_succ]
              rw [hlen, hb4] at b1
              generalize (2 * M + 3) * nf F2 = ZZ at b1
              omega
            obtain ⟨ua, uc, q6, rfl, KA⟩ := KA
            obtain ⟨_, _, _, d3, _⟩ := e5.kn.cells
            obtain ⟨r0, r1⟩ := e5.kn.rl.cell (g := g3) rfl hp
            have hp2 : Hid (∀ W V l', Le w W kb b sv mb L (.slice (some ⟨g, 0, none⟩) N capF) (.slice (some ⟨g2, 0, none⟩) N capT) (.slice (some ⟨g3, 0, none⟩) M capL) v V l' F2 fs ls → W.cell? ⟨kb, 3, none⟩ = some (.slice (some ⟨g3, 0, none⟩) M capL) ∧ W.cell? ⟨g3, at' * 2, none⟩ = some (.int .i64 (p.1 : Int)) ∧ W.cell? ⟨g3, at' * 2 + 1, none⟩ = some (.int .i64 (p.2 : Int))) := fun W V l' hle => by
              obtain ⟨_, _, _, d3, _⟩ := hle.kn.cells
              obtain ⟨r0, r1⟩ := hle.kn.rl.cell (g := g3) rfl hp
              exact ⟨d3, r0, r1⟩
            have haM : (at' : Int) < (M : Int) := by omega
            have ha2 : (at' == 0) = false := by simp [ha]
            have ha3 : ((at' : Int) == 0) = false := by simp; omega
            have ha4 : ¬ ((at' : Int) = 0) := by omega
            have HE5 := hide (And.intro e5 (And.intro s5 (And.intro b5 (And.intro hp hax))))
            clear e5 s5 b5 hp HR2
            obtain ⟨P1, hp1⟩ : ∃ P1, P1 = p.1 := ⟨_, rfl⟩
            obtain ⟨P2, hp2'⟩ : ∃ P2, P2 = p.2 := ⟨_, rfl⟩
            rw [← hp1] at KA r0
            rw [← hp2'] at r1
            rw [← hp1, ← hp2'] at hp2
            have HPP := hide (And.intro hp1 hp2')
            have HH3 := hide hp2
            clear hp1 hp2' hp2
            go_wp2_with fail
            refine KA.mono ?_
            rintro e w6 ⟨v6, rfl, nw6⟩
            have e6 := (unhide HE5).1.look nw6
            obtain ⟨d3', r0', r1'⟩ := unhide (unhide HH3) _ _ _ e6
            have HE : Hid (∃ l2, Le w w6 kb b sv mb L (.slice (some ⟨g, 0, none⟩) N capF) (.slice (some ⟨g2, 0, none⟩) N capT) (.slice (some ⟨g3, 0, none⟩) M capL) v v6 l2 F2 fs ls ∧ Sm L K F2 l2 (fun m => InCh ls P2 m) ∧ l2.length + 2 * P2 ≤ q + 2 + 2 * x) := by
              obtain ⟨hM, hG, hL, hNF, hfs, hn1, hn2, hq, b1, hlen, n1, k1, s1⟩ := unhide HB
              obtain ⟨m1, m2, m3, m4, m5⟩ := unhide HL2
              obtain ⟨_, s5, b5, hp, _⟩ := unhide HE5
              obtain ⟨p1, p2⟩ := unhide HPP
              obtain ⟨o1, o2, o3⟩ := unhide HP
              rw [p1] at e6
              refine ⟨_, e6, ?_, ?_⟩
              · rw [p2]; exact s5.look hG m1.lenF o1 o2 (fun y hy => hy.open_ hp)
              · have := lkA_len L F2 p.1
                rw [List.length_append, p2]
                omega
            have hP2 : P2 < at' := by rw [(unhide HPP).2]; exact (unhide HP).2.2
            clear KA nw6 e6 d3 r0 r1 r0'
            go_wp2_with fail
            go_roundw
            case rel => exact ⟨P2, rfl, by omega, HE⟩
            case measure => simp only [intOf]; omega
      · rw [on] at cF
        have HE : Hid (∃ l' F', Le w wr kb b sv mb L (.slice (some ⟨g, 0, none⟩) N capF) (.slice (some ⟨g2, 0, none⟩) N capT) (.slice (some ⟨g3, 0, none⟩) M capL) v (.slice (some ⟨g5, 0, none⟩) q cap5) l' F' fs ls ∧ Lk L F' fs ls none2 0 ∧ Sm L K F' l' none1 ∧ F'.length = F.length ∧ l'.length + (2 * M + 3) * nf F' ≤ 16000000000000) := by
          obtain ⟨hM, hG, hL, hNF, hfs, hn1, hn2, hq, b1, hlen, n1, k1, s1⟩ := unhide HB
          exact ⟨s, F1, unhide HE2, k1, s1.skip (onB_iff.1 on), n1, by rw [hlen] at b1; omega⟩
        clear on
        go_wp2_with fail
        go_roundw
        case rel => exact HE
        case measure => simp only [lenOf]; omega
end Go.Proofs.YtpcpcgagiapinaaGreatDoor.Tn

/- Contracts of Has, Learn and Clone of package deduce. -/
namespace Go.Proofs.YtpcpcgagiapinaaGreatDoor.Tn
open Go.RowKit Go.Maps
noncomputable def hasB (L : List Tm) (K : Nat → Prop) (x : Int) : Bool := @decide (1 ≤ x ∧ Fol L K x.toNat) (Classical.propDecidable _)
theorem hasB_iff {L : List Tm} {K : Nat → Prop} {x : Int} : hasB L K x = true ↔ 1 ≤ x ∧ Fol L K x.toNat := by
  unfold hasB; exact @decide_eq_true_iff _ (Classical.propDecidable _)
theorem hasB_nat {L : List Tm} {K : Nat → Prop} (hG : Good L) {m : Nat} : hasB L K (m : Int) = true ↔ Fol L K m := by
  rw [hasB_iff, Int.toNat_natCast]
  exact ⟨fun h => h.2, fun h => ⟨by have := h.rng hG; omega, h⟩⟩
theorem hasB_out {L : List Tm} {K : Nat → Prop} (hG : Good L) {x : Int} (h : thr L.length x = false) : hasB L K x = false := by
  cases e : hasB L K x
  · rfl
  · obtain ⟨h1, h2⟩ := hasB_iff.1 e
    have := h2.rng hG
    exact absurd (by omega : 1 ≤ x ∧ x ≤ (L.length : Int)) (thr_false.1 h)
set_option maxRecDepth 100000 in
set_option maxHeartbeats 4000000 in
theorem kHas_any (kb b : Nat) (sv : Value) (mb : Nat) (L : List Tm) (K : Nat → Prop) (Z : List Nat) (x : Int) (w : World) (h : KS w kb b L K Z) (hS : St w b sv mb L) (hd : ∀ y ∈ Z, y ∉ foot b sv mb) :
    Calls Tryz.prog 29 #[.pointer (some ⟨kb, 0, none⟩), .int .i64 x] w fun e w' => e = .returned (.bool (hasB L K x)) ∧ ∃ Z', KS w' kb b L K Z' ∧ Mv w w' Z Z' := by
  obtain ⟨fv, tv, lv, F, fs, ls, rfl, hK, hl, hs⟩ := h
  obtain ⟨c0, _, _, _, _⟩ := hK.cells
  have K0 := kmissing_any kb _ w c0
  have KG := get_any b sv mb L x w hS
  have hG := hS.good
  cases hx : thr L.length x
  · have e : hasB L K x = false := hasB_out hG hx
    rw [e]
    rw [hx] at KG
    have HE : Hid (∀ W, Below w.heap.size w W → ∃ Z', KS W kb b L K Z' ∧ Mv w W (kfoot kb fv tv lv) Z') := fun W hW => ⟨_, ⟨fv, tv, lv, F, fs, ls, rfl, hK.bw hW, hl, hs⟩, Mv.same _ hW⟩
    clear e hx hG hS hd hK hl hs
    generalize getT L x = t at *
    go_enter Tryz.func29, Tryz.ntmps29
    go_wp2_with fail
    refine K0.mono ?_
    rintro e w ⟨rfl, rfl⟩
    go_wp2_with fail
    refine KG.mono ?_
    rintro e w1 ⟨rfl, b1⟩
    have b2 := b1.alloc b1.size (.cells #[.int .u8 t.kd, .int .i64 t.n, .int .i64 t.a, .int .i64 t.b] 64)
    go_wp2_with fail
    go_ret
    exact ⟨rfl, unhide HE _ b2⟩
  · rw [hx] at KG
    obtain ⟨m, rfl⟩ : ∃ m : Nat, x = m := ⟨x.toNat, by have := thr_iff.1 hx; omega⟩
    have hm := thr_iff.1 hx
    have HI := hide (And.intro hK (And.intro hl (And.intro hs (And.intro hS (And.intro hd (And.intro hG hm))))))
    obtain ⟨rb, hrb⟩ : ∃ rb, rb = hasB L K (m : Int) := ⟨_, rfl⟩
    rw [← hrb]
    have HRB := hide hrb
    clear hx hG hS hd hK hl hs hm hrb
    generalize getT L (m : Int) = t at *
    go_enter Tryz.func29, Tryz.ntmps29
    go_wp2_with fail
    refine K0.mono ?_
    rintro e w ⟨rfl, rfl⟩
    go_wp2_with fail
    refine KG.mono ?_
    rintro e w1 ⟨rfl, b1⟩
    have b2 := b1.alloc b1.size (.cells #[.int .u8 t.kd, .int .i64 t.n, .int .i64 t.a, .int .i64 t.b] 64)
    obtain ⟨hK, hl, hs, hS, hd, hG, hm⟩ := unhide HI
    have KR := read_any kb fv tv lv b F fs ls sv mb L K _ (hK.bw b2) hl hs (hS.bw b2) hd
    have HB := hide b2
    clear K0 KG hK hl hs hS hd hG hm b1 b2 c0
    go_wp2_with fail
    refine KR.mono ?_
    rintro e w2 ⟨rfl, fv2, tv2, lv2, F2, fs2, ls2, k2, l2, s2, n2⟩
    obtain ⟨hK, hl, hs, hS, hd, hG, hm⟩ := unhide HI
    obtain ⟨_, d1, _, _, _⟩ := k2.kn.cells
    obtain ⟨g, cap, hfv, _, hmk, _⟩ := k2.kn.marks l2.zero.lt
    have mm := hmk m (by omega)
    have eb : onB F2 m = hasB L K (m : Int) := by
      rw [Bool.eq_iff_iff, onB_iff, hasB_nat hG]
      exact s2.tells hG n2 l2.zero (by omega)
    rw [eb, ← unhide HRB] at mm
    rw [hfv, n2] at d1
    have hmb : (m : Int) < ((L.length + 1 : Nat) : Int) := by omega
    have hLb : ((L.length + 1 : Nat) : Int) ≤ 1048577 := by have := hS.len; omega
    have HE : Hid (∃ Z', KS w2 kb b L K Z' ∧ Mv w w2 (kfoot kb fv tv lv) Z') := ⟨_, ⟨fv2, tv2, lv2, F2, fs2, ls2, rfl, k2.kn, l2, s2⟩, k2.mv.before (unhide HB)⟩
    clear KR hK hl hs hS hd hG hm k2 l2 s2 n2 hfv hmk eb HI HB
    generalize L.length + 1 = N at *
    go_wp2_with fail
    go_ret
    exact ⟨rfl, unhide HE⟩
theorem mul_bound {M n : Nat} (hM : M ≤ 3145731) (hn : n ≤ 1048577) : (2 * M + 3) * n ≤ 7000000000000 :=
  Nat.le_trans (Nat.mul_le_mul (show 2 * M + 3 ≤ 6291465 by omega) hn) (by decide)
theorem Lk.cap {L : List Tm} {F : List Bool} {fs : List Nat} {ls : List (Nat × Nat)} (h : Lk L F fs ls none2 0) (hL : L.length ≤ 1048576) : (2 * ls.length + 3) * nf F ≤ 7000000000000 := by
  have h1 := h.lenF
  have h2 := h.lenl
  have h3 := nf_le F
  exact mul_bound (by omega) (by omega)
theorem Le.done {w W : World} {kb b : Nat} {sv : Value} {mb : Nat} {L : List Tm} {fv tv lv v0 v : Value} {l : List Nat} {F : List Bool} {fs : List Nat} {ls : List (Nat × Nat)} {K : Nat → Prop} (h : Le w W kb b sv mb L fv tv lv v0 v l F fs ls) (hl : Lk L F fs ls none2 0) (hs : Sm L K F [] none1) : KS W kb b L K (kfoot kb fv tv lv) := ⟨fv, tv, lv, F, fs, ls, rfl, h.kn, hl, hs⟩
end Go.Proofs.YtpcpcgagiapinaaGreatDoor.Tn

/- What follows, of pairs and lists; of what is known already; of what is sealed with a key that is new. Nothing here speaks of the program. -/
namespace Go.Proofs.YtpcpcgagiapinaaGreatDoor.Tn
end Go.Proofs.YtpcpcgagiapinaaGreatDoor.Tn
