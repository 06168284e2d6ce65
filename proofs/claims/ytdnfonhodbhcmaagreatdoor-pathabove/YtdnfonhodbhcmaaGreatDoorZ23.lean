/- Texts joined: ScD PaR NTmRL PaS NTmAcW. -/
import Derived.Test.YtdnfonhodbhcmaaGreatDoorZ18
import Derived.Test.YtdnfonhodbhcmaaGreatDoorZ17
/- The contracts of sched.Next and sched.From, whatever is asked. -/
namespace Go.Proofs.YtdnfonhodbhcmaaGreatDoor.Tn
open Go.RowKit Go.Maps

def nx3 (L : List Tm) (i c x : Int) : Bool := thr L.length i && (thr L.length c && thr L.length x)
def nxtL (L : List Tm) (i c x : Int) : List Tm := if nx3 L i c x = true then secL (nxL L i c) (nxJ L i c : Nat) x else L
def nxtV (L : List Tm) (i c x : Int) : List Int := if nx3 L i c x = true then secV (nxL L i c) (nxJ L i c : Nat) x else [0, 0, 0, 0, 0, 0]
def nxtE (L : List Tm) (i c x : Int) : Int := if nx3 L i c x = true then 0 else 1
def fr2 (L : List Tm) (j x : Int) : Bool := thr L.length j && thr L.length x
def frL (L : List Tm) (j x : Int) : List Tm := if fr2 L j x = true then secL L j x else L
def frV (L : List Tm) (j x : Int) : List Int := if fr2 L j x = true then secV L j x else [0, 0, 0, 0, 0, 0]
def frE (L : List Tm) (j x : Int) : Int := if fr2 L j x = true then 0 else 1
theorem zero6 : secA [0, 0, 0, 0, 0, 0] = .agg #[.int .i64 0, .int .i64 0, .int .i64 0, .int .i64 0, .int .i64 0, .int .i64 0] := rfl
end Go.Proofs.YtdnfonhodbhcmaaGreatDoor.Tn

/- The document's Kdf, Pub and is; its secrets of a path, its Node. -/
namespace Go.Proofs.YtdnfonhodbhcmaaGreatDoor.Tn.Pa
open Go.RowKit Go.Maps

theorem rs_notin {w : World} {b : Nat} {sv : Value} {L : List Tm} {k : Nat} {cs : Array Value} {t : TypeId} (h : Rs w b sv L) (hk : w.heap[k]? = some (.cells cs t (0, 0))) (h1 : t ≠ 158) (h2 : t ≠ 64) : k ∉ rfoot b sv := by
  intro c
  rcases mem_rfoot.1 c with rfl | c
  · rw [h.blk] at hk; injection hk with hk; injection hk with _ hk; exact h1 hk.symm
  · obtain ⟨cur, e⟩ := h.row.block c; rw [e] at hk; injection hk with hk; injection hk with _ hk; exact h2 hk.symm
theorem rmk {b : Nat} {sv : Value} {L : List Tm} {w : World} (h : Rs w b sv L) (k n x y : Int) (ht : Tm.ok ⟨k, n, x, y⟩) (hm : may L.length ⟨k, n, x, y⟩ = true) (hl : L.length < 1048576) :
    Calls Tryz.prog 32 #[.pointer (some ⟨b, 0, none⟩), .agg #[.int .u8 k, .int .i64 n, .int .i64 x, .int .i64 y]] w fun e w' => e = .returned (.tuple #[.int .i64 (mkN L ⟨k, n, x, y⟩ : Nat), .int .i64 0]) ∧ ∃ sv', RStep w w' b sv sv' (mkL L ⟨k, n, x, y⟩) := by
  refine (rmake_any b sv L ⟨k, n, x, y⟩ w h ht).mono ?_
  rintro e w' ⟨rfl, s⟩
  rw [(mk_ok hm hl).1]
  exact ⟨rfl, s⟩
set_option maxRecDepth 100000 in
theorem rkdf {b : Nat} {sv : Value} {L : List Tm} {w : World} (h : Rs w b sv L) (l s c : Int) (ho : Tm.ok ⟨4, l, s, c⟩) (hm : may L.length ⟨4, l, s, c⟩ = true) (hl : L.length < 1048576) :
    Calls Tryz.prog 39 #[.pointer (some ⟨b, 0, none⟩), .int .i64 l, .int .i64 s, .int .i64 c] w fun e w' => e = .returned (.int .i64 (mkN L ⟨4, l, s, c⟩ : Nat)) ∧ ∃ sv', RStep w w' b sv sv' (mkL L ⟨4, l, s, c⟩) := by
  have K := hide (rmk h 4 l s c ho hm hl)
  obtain ⟨n, hn⟩ : ∃ n : Nat, n = mkN L ⟨4, l, s, c⟩ := ⟨_, rfl⟩
  rw [← hn] at K ⊢
  clear h hl hn ho hm
  go_enter Tryz.func39, Tryz.ntmps39
  go_wp2_with fail
  refine (unhide K).mono ?_
  rintro e w1 ⟨rfl, s⟩
  have S := hide s
  clear s K
  go_wp2
  go_ret
  exact ⟨rfl, unhide S⟩
set_option maxRecDepth 100000 in
theorem rpub {b : Nat} {sv : Value} {L : List Tm} {w : World} (h : Rs w b sv L) (s : Int) (ho : Tm.ok ⟨5, 0, s, 0⟩) (hm : may L.length ⟨5, 0, s, 0⟩ = true) (hl : L.length < 1048576) :
    Calls Tryz.prog 43 #[.pointer (some ⟨b, 0, none⟩), .int .i64 s] w fun e w' => e = .returned (.int .i64 (mkN L ⟨5, 0, s, 0⟩ : Nat)) ∧ ∃ sv', RStep w w' b sv sv' (mkL L ⟨5, 0, s, 0⟩) := by
  have K := hide (rmk h 5 0 s 0 ho hm hl)
  obtain ⟨n, hn⟩ : ∃ n : Nat, n = mkN L ⟨5, 0, s, 0⟩ := ⟨_, rfl⟩
  rw [← hn] at K ⊢
  clear h hl hn ho hm
  go_enter Tryz.func43, Tryz.ntmps43
  go_wp2_with fail
  refine (unhide K).mono ?_
  rintro e w1 ⟨rfl, s⟩
  have S := hide s
  clear s K
  go_wp2
  go_ret
  exact ⟨rfl, unhide S⟩
set_option maxRecDepth 100000 in
theorem ris {b : Nat} {sv : Value} {L : List Tm} {w : World} (h : Rs w b sv L) (x : Int) :
    Calls Tryz.prog 38 #[.pointer (some ⟨b, 0, none⟩), .int .i64 x] w fun e w' => e = .returned (.bool (thr L.length x)) ∧ Below w.heap.size w w' := by
  have K := hide (rget_any b sv L x w h)
  clear h
  generalize thr L.length x = r at *
  generalize getT L x = t at *
  go_enter Tryz.func38, Tryz.ntmps38
  go_wp2_with fail
  refine (unhide K).mono ?_
  rintro e w1 ⟨rfl, y⟩
  clear K
  go_wp2
  go_ret
  exact ⟨rfl, y.alloc y.size _⟩
/-- The document's store and a row of numbers, made since. -/
structure RQ (w W : World) (b : Nat) (sv sv' : Value) (L' : List Tm) (lv : Value) (acc : List Nat) : Prop where
  s : RStep w W b sv sv' L'
  r : NRow w.heap.size W lv acc
theorem RQ.step {w W W' : World} {b : Nat} {sv sv1 sv2 : Value} {L1 L2 : List Tm} {lv : Value} {acc : List Nat} (h : RQ w W b sv sv1 L1 lv acc) (s : RStep W W' b sv1 sv2 L2) : RQ w W' b sv sv2 L2 lv acc :=
  ⟨h.s.trans s, h.r.keep (fun k hk => by obtain ⟨cur, e⟩ := h.r.block hk; exact s.fr.block k (lt_of_blk e) (rs_notin h.s.st e (by decide) (by decide)))⟩
theorem RQ.grown {w W W5 : World} {b : Nat} {sv sv1 : Value} {L1 : List Tm} {lv v' : Value} {acc acc' : List Nat} {ob : Obj} (h : RQ w W b sv sv1 L1 lv acc) (hr : NRow w.heap.size W5 v' acc') (hg : (W.alloc ob).grownBy W5 lv.ownBlock) : RQ w W5 b sv sv1 L1 v' acc' := by
  have f1 : Fr lv.ownBlock.toList W W5 := ((Fr.refl lv.ownBlock.toList W).alloc ob).tr (Fr.ofGrown hg)
  exact ⟨⟨h.s.st.keep f1 (fun k hk c => by
      obtain ⟨cur, e⟩ := h.r.block (k := k) (by simpa using c)
      exact rs_notin h.s.st e (by decide) (by decide) hk), h.s.fr.trans f1 (fun _ _ c => c) (fun k hk c => by have := (h.r.lt k (by simpa using c)).1; omega), h.s.place⟩, hr⟩
set_option maxRecDepth 100000 in
set_option maxHeartbeats 4000000 in
theorem qSecrets_ok {b : Nat} {sv : Value} {w : World} (p : List Tm × Nat) (n : Nat) (h : Rs w b sv p.1) (hg : Gd p) (hn : n ≤ 16) (hl : p.1.length + 100 ≤ 1048575) :
    Calls Tryz.prog 9 #[.pointer (some ⟨b, 0, none⟩), .int .i64 (p.2 : Nat), .int .i64 (n : Int)] w fun e w' => ∃ a cap, e = .returned (.tuple #[.slice a (n + 1) cap, .int .i64 0]) ∧ ∃ sv', RQ w w' b sv sv' (sec p n).1 (.slice a (n + 1) cap) (row p n) := by
  obtain ⟨j0, hj, hy0, hy1, hy2⟩ := info_parts Tryz.infoInt
  have KI := hide (ris h (p.2 : Nat))
  rw [hg.thr] at KI
  have S0 : Hid (∀ W, Below w.heap.size w W → RQ w (W.alloc (.cells #[.int .i64 (p.2 : Nat)] 3)) b sv sv (sec p 0).1 (.slice (some ⟨W.heap.size, 0, none⟩) 1 1) (row p 0)) := fun W hW => by
    have hW2 := hW.alloc hW.size (.cells #[.int .i64 (p.2 : Nat)] 3)
    exact ⟨RStep.same h hW2, rfl, Or.inr ⟨W.heap.size, 1, #[.int .i64 (p.2 : Nat)], rfl, hW.size, heap_alloc_new _ _, Nat.le_refl _, by unfold maxLen; omega, rfl, rfl⟩⟩
  have HP : Hid (∀ i, i < n → ∀ W sv', Rs W b sv' (sec p i).1 → Calls Tryz.prog 39 #[.pointer (some ⟨b, 0, none⟩), .int .i64 1, .int .i64 ((sec p i).2 : Nat), .int .i64 0] W fun e w' => e = .returned (.int .i64 ((sec p (i + 1)).2 : Nat)) ∧ ∃ sv2, RStep W w' b sv' sv2 (sec p (i + 1)).1) := fun i hi W sv' S => by
    have g1 := sec_gd hg i (by omega)
    have g2 := sec_len p i
    exact rkdf S 1 _ 0 (ok_nx g1 1 (by omega) (by omega)) (may_nx g1 1 (by omega)) (by omega)
  have hnI : (n : Int) ≤ 16 := by omega
  have hn0 : (0 : Int) ≤ (n : Int) := by omega
  clear h hg hl
  go_enter Tryz.func9, Tryz.ntmps9
  go_wp2_with fail
  refine (unhide KI).mono ?_
  rintro e w1 ⟨rfl, b1⟩
  have S1 := hide (unhide S0 w1 b1)
  clear KI S0 b1
  go_wp2_with fail
  go_loopw [8, 9] (fun lv iv wr => ∃ (i : Nat) (a : Option Addr) (cap : Nat), lv = .slice a (i + 1) cap ∧ iv = .int .i64 (i : Int) ∧ i ≤ n ∧ Hid (∃ sv1, RQ w wr b sv sv1 (sec p i).1 (.slice a (i + 1) cap) (row p i))) (fun _ iv _ => (n - intOf iv).toNat)
  case atStart => exact ⟨0, _, _, rfl, rfl, by omega, ⟨sv, unhide S1⟩⟩
  case round =>
    clear S1
    obtain ⟨i, a, cap, rfl, rfl, hi, HR⟩ := hrel
    obtain ⟨sv1, R1⟩ := unhide HR
    by_cases hlt : i < n
    · have q1 : (i : Int) < (n : Int) := by omega
      have q0 : (0 : Int) ≤ (i : Int) := by omega
      obtain ⟨g, cp, e, -⟩ := own_open R1.r (by rw [row_len]; omega)
      simp only [Value.slice.injEq] at e
      obtain ⟨rfl, -, -⟩ := e
      have dx := R1.r.at (g := g) rfl (row_last p i)
      obtain ⟨x, hx⟩ : ∃ x : Nat, x = (sec p i).2 := ⟨_, rfl⟩
      obtain ⟨y, hy⟩ : ∃ y : Nat, y = (sec p (i + 1)).2 := ⟨_, rfl⟩
      have K1 := hide (unhide HP i hlt wr sv1 R1.s.st)
      rw [← hx, ← hy] at K1
      rw [← hx] at dx
      have HY : Hid (row p (i + 1) = row p i ++ [y] ∧ (row p i).length = i + 1) := ⟨by rw [hy]; rfl, row_len p i⟩
      have HR1 := hide R1
      clear HR R1 HP hx hy
      go_wp2_with fail
      refine (unhide K1).mono ?_
      rintro e w3 ⟨rfl, sv3, s3⟩
      have R3 := hide ((unhide HR1).step s3)
      have hrow : w3.ownsRow w.heap.size 3 1 (.slice (some ⟨g, 0, none⟩) (i + 1) cap) (i + 1) ((row p i).map (fun m => .int .i64 ((m : Nat) : Int))) := by have := (unhide R3).r; unfold NRow at this; rw [(unhide HY).2] at this; exact this
      have hsz := (unhide R3).s.fr.size
      clear s3 HR1 K1 dx
      go_wp2_with (at_builtin; refine wpList_append_own_at _ rfl (.tmp 29) (.tmp 36) 27 rfl w.heap.size 3 j0 (.int .i64 0) 1 8 Tryz.underlying27 hj hy0 hy1 hy2 rfl (by decide) _ (i + 1) _ rfl (World.ownsRow.alloc hrow _) ⟨w3.heap.size, 0, none⟩ 1 1 [_] rfl rfl (cell_one_new _ _ _) ?c2 ?c3 ?c4 ?c5 ?nx)
      case c2 => intro u hu; simp at hu; subst hu; rfl
      case c3 => unfold maxLen; omega
      case c4 => omega
      case c5 => simp; omega
      case nx =>
        intro v' w5 hown' hgrow _ hpl
        have hn5 : NRow w.heap.size w5 v' (row p (i + 1)) := by
          rw [(unhide HY).1]; unfold NRow; rw [List.length_append, (unhide HY).2]; simpa using hown'
        obtain ⟨a5, cap5, rfl⟩ : ∃ a5 cap5, v' = .slice a5 (i + 1 + 1) cap5 := own_slice hown'
        have R5 : Hid (∃ sv1, RQ w w5 b sv sv1 (sec p (i + 1)).1 (.slice a5 (i + 1 + 1) cap5) (row p (i + 1))) := ⟨sv3, (unhide R3).grown hn5 hgrow⟩
        clear hown' hgrow hpl hn5 R3 hrow
        go_wp2_with fail
        go_roundw
        case rel => exact ⟨i + 1, a5, cap5, rfl, by go_num, by omega, R5⟩
        case measure => simp only [intOf]; omega
    · have hie : i = n := by omega
      subst hie
      clear R1 HP hlt hi
      go_wp2
      go_ret2
      exact ⟨a, cap, rfl, unhide HR⟩
set_option maxRecDepth 100000 in
set_option maxHeartbeats 4000000 in
theorem qNode_ok {b : Nat} {sv : Value} {w : World} (p : List Tm × Nat) (h : Rs w b sv p.1) (hg : Gd p) (hl : p.1.length + 100 ≤ 1048575) :
    Calls Tryz.prog 11 #[.pointer (some ⟨b, 0, none⟩), .int .i64 (p.2 : Nat)] w fun e w' => e = .returned (.tuple #[.int .i64 ((key p).2 : Nat), .int .i64 ((pub p).2 : Nat), .int .i64 0]) ∧ ∃ sv', RStep w w' b sv sv' (pub p).1 := by
  have KI := hide (ris h (p.2 : Nat))
  rw [hg.thr] at KI
  have hkl := key_len p
  have K1 : Hid (∀ W, Below w.heap.size w W → Calls Tryz.prog 39 #[.pointer (some ⟨b, 0, none⟩), .int .i64 2, .int .i64 (p.2 : Nat), .int .i64 0] W fun e W2 => e = .returned (.int .i64 ((key p).2 : Nat)) ∧ Calls Tryz.prog 43 #[.pointer (some ⟨b, 0, none⟩), .int .i64 ((key p).2 : Nat)] W2 fun e W3 => e = .returned (.int .i64 ((pub p).2 : Nat)) ∧ ∃ sv', RStep w W3 b sv sv' (pub p).1) := fun W hW => by
    have s := RStep.same h hW
    refine (rkdf s.st 2 _ 0 (ok_nx hg 2 (by omega) (by omega)) (may_nx hg 2 (by omega)) (by omega)).mono ?_
    rintro e W2 ⟨e1, sv2, h2⟩
    refine ⟨e1, (rpub h2.st _ (ok_pb (key_gd hg (by omega)) (by simp only [key] at hkl ⊢; omega)) (may_pb (key_gd hg (by omega))) (by simp only [key] at hkl; omega)).mono ?_⟩
    rintro e W3 ⟨e2, sv3, h3⟩
    exact ⟨e2, sv3, (s.trans h2).trans h3⟩
  clear h hg hl hkl
  generalize (key p).2 = k1 at *
  generalize (pub p).1 = L2 at *
  generalize (pub p).2 = k2 at *
  generalize p.2 = x at *
  go_enter Tryz.func11, Tryz.ntmps11
  go_wp2_with fail
  refine (unhide KI).mono ?_
  rintro e w1 ⟨rfl, b1⟩
  have Q1 := hide (unhide K1 w1 b1)
  clear KI K1 b1
  go_wp2_with fail
  refine (unhide Q1).mono ?_
  rintro e w2 ⟨rfl, Q2⟩
  have HQ2 := hide Q2
  clear Q2 Q1
  go_wp2_with fail
  refine (unhide HQ2).mono ?_
  rintro e w3 ⟨rfl, sv3, s3⟩
  have S3 := hide s3
  clear s3 HQ2
  go_wp2
  exact bodyPost_ret (v := .tuple #[.int .i64 (k1 : Int), .int .i64 (k2 : Int), .int .i64 0]) (by simp [results, Tryz.results11, go_sem]) rfl ⟨rfl, sv3, unhide S3⟩
end Go.Proofs.YtdnfonhodbhcmaaGreatDoor.Tn.Pa

/- Contracts of the document's List and Data. -/
namespace Go.Proofs.YtdnfonhodbhcmaaGreatDoor.Tn
open Go.RowKit Go.Maps

theorem rls_step {p : List Tm × Int × Int} {L' : List Tm} {n e : Int} {w w' : World} {b : Nat} {sv sv' : Value} (h : p = (L', n, e)) (k : RStep w w' b sv sv' L') : RStep w w' b sv sv' p.1 := by subst h; exact k
theorem NRow.rfoot {B : Nat} {w : World} {v : Value} {l : List Nat} {b : Nat} {sv : Value} {L : List Tm} (h : NRow B w v l) (hs : Rs w b sv L) : ∀ k, v.ownBlock = some k → k ∉ rfoot b sv := by
  intro k hk c
  obtain ⟨cur, hc⟩ := h.block hk
  rcases mem_rfoot.1 c with rfl | c
  · have := hs.blk; rw [hc] at this; simp at this
  · exact rows_apart hs.row h c hk
theorem RStep.rbeside {w w4 w5 : World} {b : Nat} {sv sv2 : Value} {L : List Tm} {nv : Value} {acc : List Nat} {ob : Obj} (h : RStep w w4 b sv sv2 L) (hn : NRow w.heap.size w4 nv acc) (hg : (w4.alloc ob).grownBy w5 nv.ownBlock) : RStep w w5 b sv sv2 L := by
  have f1 : Fr nv.ownBlock.toList w4 w5 := ((Fr.refl nv.ownBlock.toList w4).alloc ob).tr (Fr.ofGrown hg)
  have hd := hn.rfoot h.st
  refine ⟨h.st.keep f1 (fun x hx c => hd x (by simpa using c) hx), ?_, h.place⟩
  exact h.fr.trans f1 (fun _ _ c => c) (fun x hx c => by have := (hn.lt x (by simpa using c)).1; omega)

end Go.Proofs.YtdnfonhodbhcmaaGreatDoor.Tn

/- What the document's Secrets and Node refuse; path.Secrets without a store. -/
namespace Go.Proofs.YtdnfonhodbhcmaaGreatDoor.Tn.Pa
open Go.RowKit Go.Maps

set_option maxRecDepth 100000 in
set_option maxHeartbeats 4000000 in
theorem qSecrets_err {b : Nat} {sv : Value} {L : List Tm} {w : World} (h : Rs w b sv L) (x n : Int) (hx : (decide (0 ≤ n) && decide (n ≤ 16) && thr L.length x) = false) :
    Calls Tryz.prog 9 #[.pointer (some ⟨b, 0, none⟩), .int .i64 x, .int .i64 n] w fun e w' => e = .returned (.tuple #[.slice none 0 0, .int .i64 1]) ∧ Below w.heap.size w w' := by
  have KI := hide (ris h x)
  generalize thr L.length x = tt at *
  clear h
  have fin : (n < 0 ∨ ¬ n < 0 ∧ 16 < n ∨ ¬ n < 0 ∧ ¬ 16 < n ∧ tt = false) := by
    by_cases c1 : n < 0
    · exact Or.inl c1
    · by_cases c2 : 16 < n
      · exact Or.inr (Or.inl ⟨c1, c2⟩)
      · refine Or.inr (Or.inr ⟨c1, c2, ?_⟩)
        rw [decide_eq_true (show (0 : Int) ≤ n by omega), decide_eq_true (show n ≤ 16 by omega)] at hx
        simpa using hx
  clear hx
  rcases fin with c1 | ⟨c1, c2⟩ | ⟨c1, c2, rfl⟩
  all_goals
    first
    | have d1 : decide (n < 0) = true := decide_eq_true c1
    | have d1 : decide (n < 0) = false := decide_eq_false c1
    try first
    | have d2 : decide (16 < n) = true := decide_eq_true c2
    | have d2 : decide (16 < n) = false := decide_eq_false c2
    go_enter Tryz.func9, Tryz.ntmps9
    go_wp2_with fail
    first
    | (refine (unhide KI).mono ?_
       rintro e w2 ⟨rfl, b2⟩
       have B2 := hide b2
       clear KI b2
       go_wp2
       go_ret2
       exact ⟨rfl, unhide B2⟩)
    | (go_ret2
       exact ⟨rfl, Below.refl _ _⟩)
set_option maxRecDepth 100000 in
set_option maxHeartbeats 4000000 in
theorem qNode_err {b : Nat} {sv : Value} {L : List Tm} {w : World} (h : Rs w b sv L) (x : Int) (hx : thr L.length x = false) :
    Calls Tryz.prog 11 #[.pointer (some ⟨b, 0, none⟩), .int .i64 x] w fun e w' => e = .returned (.tuple #[.int .i64 0, .int .i64 0, .int .i64 1]) ∧ Below w.heap.size w w' := by
  have KI := hide (ris h x)
  rw [hx] at KI
  clear h hx
  go_enter Tryz.func11, Tryz.ntmps11
  go_wp2_with fail
  refine (unhide KI).mono ?_
  rintro e w2 ⟨rfl, b2⟩
  have B2 := hide b2
  clear KI b2
  go_wp2
  exact bodyPost_ret (v := .tuple #[.int .i64 0, .int .i64 0, .int .i64 1]) (by simp [results, Tryz.results11, go_sem]) rfl ⟨rfl, unhide B2⟩
set_option maxRecDepth 100000 in
set_option maxHeartbeats 4000000 in
theorem pSecrets_nil (x n : Int) (w : World) : Calls Tryz.prog 8 #[.pointer none, .int .i64 x, .int .i64 n] w fun e w' => e = .returned (.tuple #[.slice none 0 0, .int .i64 2]) ∧ Below w.heap.size w w' := by
  obtain ⟨w0, hw0⟩ : ∃ w0, w0 = (w.alloc (.cells #[.int .i64 x] 3)).alloc (.cells #[.int .i64 n] 3) := ⟨_, rfl⟩
  obtain ⟨-, -, x0⟩ := blk2c w (.cells #[.int .i64 x] 3) (.cells #[.int .i64 n] 3)
  rw [← hw0] at x0
  have HW := hide hw0
  have HX := hide x0
  have K := hide (hmissing_nil w0)
  clear x0 hw0
  go_enter Tryz.func8, Tryz.ntmps8
  go_upto_region 1 with fail
  rw [← unhide HW]
  clear HW
  go_wp2_with fail
  refine (unhide K).mono ?_
  rintro e w1 ⟨rfl, rfl⟩
  go_wp2
  go_ret2
  exact ⟨rfl, unhide HX⟩
end Go.Proofs.YtdnfonhodbhcmaaGreatDoor.Tn.Pa

/- The contract of Across. -/
namespace Go.Proofs.YtdnfonhodbhcmaaGreatDoor.Tn
open Go.RowKit Go.Maps

theorem mapT_ok {ph : List Nat} {t : Tm} (h : t.ok) (hb : ∀ i, ph.getD i 0 ≤ 1048576) : (mapT ph t).ok :=
  ⟨h.k1, h.k2, h.n1, h.n2, by have := hb t.a.toNat; simp only [mapT]; omega, by have := hb t.a.toNat; simp only [mapT]; omega, by have := hb t.b.toNat; simp only [mapT]; omega, by have := hb t.b.toNat; simp only [mapT]; omega⟩
theorem Acr.bound {L : List Tm} {i : Nat} {R : List Tm} {ph : List Nat} (h : Acr L i R ph) (k : Nat) : ph.getD k 0 ≤ 1048576 := by
  have hl := h.good.len
  have hlen := h.len
  by_cases c : k < ph.length
  · by_cases c0 : k = 0
    · subst c0; rw [h.zero]; omega
    · have := h.rng k (by omega) (by omega); omega
  · simp [List.getD, List.getElem?_eq_none (Nat.le_of_not_lt c)]

set_option maxRecDepth 100000 in
set_option maxHeartbeats 8000000 in
theorem across_any (w wr : World) (b : Nat) (sv : Value) (mb rb : Nat) (rv : Value) (L R : List Tm) (h : Two w wr b sv mb rb rv L R) (hL : L.length ≤ 3000) (hR : R.length ≤ 3000) :
    Calls Tryz.prog 12 #[.pointer (some ⟨b, 0, none⟩), .pointer (some ⟨rb, 0, none⟩)] wr fun e w' => ∃ mp lv rv' R' ph, e = .returned (.tuple #[.pointer (some ⟨mp, 0, none⟩), .bool true]) ∧ Ac w w' b sv mb rb rv' L R' mp lv ph ∧ Acr L L.length R' ph ∧ ∃ x, R' = R ++ x := by
  have S0 := Ac.start h
  have hG := h.st.good
  have A0 := acr_start h.rs.good L
  obtain ⟨j0, hj, hy0, hy1, hy2⟩ := info_parts Tryz.infoInt
  obtain ⟨N, hN⟩ : ∃ N, N = L.length := ⟨_, rfl⟩
  have hNb : (N : Int) ≤ 3000 := by omega
  have KL : ∀ W rv' R' mp lv ph, Ac w W b sv mb rb rv' L R' mp lv ph → Calls Tryz.prog 44 #[.pointer (some ⟨b, 0, none⟩)] W fun e w' => e = .returned (.int .i64 (N : Int)) ∧ w' = W := fun W rv' R' mp lv ph hA => by
    rw [hN]; exact len_any b sv mb L W hA.two.st
  have HH := hide (And.intro hN (And.intro hG (And.intro hR (And.intro S0 A0))))
  have HKL := hide KL
  have KL0 := KL _ _ _ _ _ _ S0
  clear hG hN h hL hR S0 A0 KL
  go_enter Tryz.func12, Tryz.ntmps12
  go_wp2_with fail
  refine KL0.mono ?_
  rintro e w1 ⟨rfl, rfl⟩
  have HS : Hid (Ac w ((wr.alloc (.cells #[.int .i64 0] 3)).alloc (.cells #[.slice (some ⟨wr.heap.size, 0, none⟩) 1 1] 98)) b sv mb rb rv L R (wr.heap.size + 1) (.slice (some ⟨wr.heap.size, 0, none⟩) 1 1) [0] ∧ Acr L 0 R [0] ∧ R.length ≤ 3000 + 0 ∧ ∃ x, R = R ++ x) := ⟨(unhide HH).2.2.2.1, (unhide HH).2.2.2.2, (unhide HH).2.2.1, [], by simp⟩
  clear KL0
  obtain ⟨mp, hmp⟩ : ∃ mp, mp = wr.heap.size + 1 := ⟨_, rfl⟩
  rw [← hmp] at HS ⊢
  clear hmp
  go_wp2_with fail
  go_loopw [7] (fun iv wq => ∃ (i : Nat) (rv' lv : Value) (R' : List Tm) (ph : List Nat), i ≤ N ∧ iv = .int .i64 ((i : Int) + 1) ∧ Hid (Ac w wq b sv mb rb rv' L R' mp lv ph ∧ Acr L i R' ph ∧ R'.length ≤ 3000 + i ∧ ∃ x, R' = R ++ x)) (fun iv _ => (N + 1 - intOf iv).toNat)
  case atStart => exact ⟨0, rv, _, R, [0], by omega, rfl, HS⟩
  case round =>
    clear HS
    obtain ⟨i, rv', lv, R', ph, hi, rfl, HS⟩ := hrel
    have KLw := unhide HKL wr _ _ _ _ _ (unhide HS).1
    by_cases hlt : i < N
    · obtain ⟨hAc, hAr, hRl, hx⟩ := unhide HS
      obtain ⟨hN, hG, _⟩ := unhide HH
      have hi1 : 1 ≤ i + 1 := by omega
      have hi2 : i + 1 ≤ L.length := by omega
      obtain ⟨p1, p2⟩ := hG.parts hi1 hi2
      obtain ⟨ta, tb⟩ := hG.tmAt_parts hi1 hi2
      have hth : thr L.length ((i : Int) + 1) = true := thr_iff.2 (by omega)
      have eg : getT L ((i : Int) + 1) = tmAt L (i + 1) := by
        have : ((i : Int) + 1).toNat = i + 1 := by omega
        simp [getT, hth, this]
      have KG := get_any b sv mb L ((i : Int) + 1) wr hAc.two.st
      rw [hth, eg, ta, tb] at KG
      have hst := hAr.step hG (by omega) (by omega)
      have htok : (tmAt L (i + 1)).ok := hAc.two.st.fit _ (by
        have : L[i]? = some (tmAt L (i + 1)) := by simp [tmAt, List.getD, List.getElem?_eq_getElem (show i < L.length by omega)]
        exact List.mem_of_getElem? this)
      have hmok := mapT_ok (ph := ph) htok hAr.bound
      have emap : mapT ph (tmAt L (i + 1)) = ⟨(tmAt L (i + 1)).kd, (tmAt L (i + 1)).n, (ph.getD (pA L (i + 1)) 0 : Nat), (ph.getD (pB L (i + 1)) 0 : Nat)⟩ := rfl
      rw [emap] at hst hmok
      have hlen := hAr.len
      obtain ⟨g, cp, rfl, hgw⟩ := hAc.form (by omega)
      have hA1 : pA L (i + 1) < ph.length := by omega
      have hB1 : pB L (i + 1) < ph.length := by omega
      have HP := hide (And.intro hst (And.intro hmok (And.intro hlen (And.intro hA1 (And.intro hB1 (And.intro hx hRl))))))
      have HA := hide hAc
      have hphb : (ph.length : Int) ≤ 3001 := by omega
      have hlt' : (i : Int) < (N : Int) := by omega
      have eA : (pA L (i + 1) : Int) < (i : Int) + 1 := by omega
      have eB : (pB L (i + 1) : Int) < (i : Int) + 1 := by omega
      have eA2 : (pA L (i + 1) : Int) < (ph.length : Int) := by omega
      have eB2 : (pB L (i + 1) : Int) < (ph.length : Int) := by omega
      clear hN hG hi1 hi2 p1 p2 ta tb hth eg hst htok hmok emap hlen hA1 hB1 hx hAc hAr hRl HS hgw
      generalize (tmAt L (i + 1)).kd = kd at *
      generalize (tmAt L (i + 1)).n = nn at *
      generalize pA L (i + 1) = A at *
      generalize pB L (i + 1) = B at *
      generalize hfa : ph.getD A 0 = fa at *
      generalize hfb : ph.getD B 0 = fb at *
      have HF := hide (And.intro hfa hfb)
      clear hfa hfb
      go_wp2_with fail
      refine KLw.mono ?_
      rintro e w1 ⟨rfl, rfl⟩
      go_wp2_with fail
      refine KG.mono ?_
      rintro e w2 ⟨rfl, hb2⟩
      have A2 := (unhide HA).new hb2
      have HA2 := hide A2
      have cm := A2.cells.1
      have hmw := lt_of_blk A2.blk
      have cA := A2.at (unhide HP).2.2.2.1
      have cB := A2.at (unhide HP).2.2.2.2.1
      rw [(unhide HF).1] at cA
      rw [(unhide HF).2] at cB
      have hgw := lt_of_cell cA
      clear A2 KG KLw hb2 HA
      have zA : ¬ ((A : Int) < 0) := by omega
      have zB : ¬ ((B : Int) < 0) := by omega
      have dA : decide ((i : Int) + 1 ≤ (A : Int)) = false := decide_eq_false (by omega)
      have dB : decide ((i : Int) + 1 ≤ (B : Int)) = false := decide_eq_false (by omega)
      go_upto_region 10 with fail
      go_cut [54] from 54 to 62 (fun s54 wx => s54 = .pointer (some ⟨mp, 0, none⟩) ∧ Hid (Ac w wx b sv mb rb rv' L R' mp (.slice (some ⟨g, 0, none⟩) ph.length cp) ph ∧ wx.heap[w2.heap.size]? = some (.cells #[.int .u8 kd, .int .i64 nn, .int .i64 (fa : Int), .int .i64 (B : Int)] 64 (0, 0)) ∧ w2.heap.size < wx.heap.size ∧ Below w2.heap.size w2 wx))
      case first =>
        go_region_with fail
        all_goals
          go_wp2_with fail
          go_meet
          case rel =>
            exact ⟨rfl, (unhide HA2).new ((bw_alloc w2 _).drew), heap_alloc_new w2 _, by simp, (bw_alloc w2 _).drew⟩
      case rest =>
        obtain ⟨rfl, HC⟩ := hcut
        obtain ⟨hAc, hbk, hsz, hbl⟩ := unhide HC
        have y0 : wc.cell? ⟨w2.heap.size, 0, none⟩ = some (.int .u8 kd) := by simp [World.cell?, hbk]
        have y1 : wc.cell? ⟨w2.heap.size, 1, none⟩ = some (.int .i64 nn) := by simp [World.cell?, hbk]
        have y2 : wc.cell? ⟨w2.heap.size, 2, none⟩ = some (.int .i64 (fa : Int)) := by simp [World.cell?, hbk]
        have y3 : wc.cell? ⟨w2.heap.size, 3, none⟩ = some (.int .i64 (B : Int)) := by simp [World.cell?, hbk]
        have yf : ∀ j, wc.frozen? ⟨w2.heap.size, j, none⟩ = false := fun j => by simp [World.frozen?, hbk]
        have cm2 := hAc.cells.1
        have cB2 : wc.cell? ⟨g, B, none⟩ = some (.int .i64 (fb : Int)) := by
          have := hAc.at (unhide HP).2.2.2.2.1
          rw [(unhide HF).2] at this; exact this
        have hsb : (wc.setCell ⟨w2.heap.size, 3, none⟩ (.int .i64 (fb : Int))).heap[w2.heap.size]? = some (.cells #[.int .u8 kd, .int .i64 nn, .int .i64 (fa : Int), .int .i64 (fb : Int)] 64 (0, 0)) := by
          simp [World.setCell, Array.getElem?_modify, hbk]
        have HSB := hide hsb
        clear hAc hbk hsb cm cA cB dA dB zA zB eA eB hmw hgw
        go_upto_region 11 with fail
        go_cut [63] from 63 to 71 (fun s63 wx => s63 = .pointer (some ⟨mp, 0, none⟩) ∧ Hid (Ac w wx b sv mb rb rv' L R' mp (.slice (some ⟨g, 0, none⟩) ph.length cp) ph) ∧ wx.cell? ⟨w2.heap.size, 0, none⟩ = some (.int .u8 kd) ∧ wx.cell? ⟨w2.heap.size, 1, none⟩ = some (.int .i64 nn) ∧ wx.cell? ⟨w2.heap.size, 2, none⟩ = some (.int .i64 (fa : Int)) ∧ wx.cell? ⟨w2.heap.size, 3, none⟩ = some (.int .i64 (fb : Int)))
        case first =>
          go_region_with fail
          all_goals
            go_wp2_with fail
            go_meet
            case rel =>
              have hb9 : Below w2.heap.size w2 (wc.setCell ⟨w2.heap.size, 3, none⟩ (.int .i64 (fb : Int))).drew := ((unhide HC).2.2.2.setCell (by simp) _).drew
              have hk : ∀ W : World, W.heap = (wc.setCell ⟨w2.heap.size, 3, none⟩ (.int .i64 (fb : Int))).heap → W.cell? ⟨w2.heap.size, 0, none⟩ = some (.int .u8 kd) ∧ W.cell? ⟨w2.heap.size, 1, none⟩ = some (.int .i64 nn) ∧ W.cell? ⟨w2.heap.size, 2, none⟩ = some (.int .i64 (fa : Int)) ∧ W.cell? ⟨w2.heap.size, 3, none⟩ = some (.int .i64 (fb : Int)) := fun W e => by
                simp [World.cell?, e, unhide HSB]
              exact ⟨rfl, (unhide HA2).new hb9, hk _ rfl⟩
        case rest =>
          clear y0 y1 y2 y3 yf cm2 cB2 HSB HC hsz hbl HA2
          obtain ⟨rfl, HD, y0, y1, y2, y3⟩ := hcut
          have hD := unhide HD
          have KM := rmake_any rb rv' R' ⟨kd, nn, fa, fb⟩ _ hD.two.rs (unhide HP).2.1
          rw [(unhide HP).1.1] at KM
          simp only at KM
          have hnb := mkN_bd hD.two.rs.good ⟨kd, nn, fa, fb⟩
          obtain ⟨hst, _, hlen, _, _, hx, hRl⟩ := unhide HP
          have hR2 : (mkL R' ⟨kd, nn, fa, fb⟩).length ≤ 3000 + (i + 1) := by have := mkL_len R' ⟨kd, nn, fa, fb⟩; omega
          have hx2 : ∃ x, mkL R' ⟨kd, nn, fa, fb⟩ = R ++ x := by
            obtain ⟨x, hx⟩ := hx
            obtain ⟨r, hr⟩ := mkL_prefix R' ⟨kd, nn, fa, fb⟩
            exact ⟨x ++ r, by rw [hr, hx, List.append_assoc]⟩
          have HP2 := hide (And.intro hst.2 (And.intro hR2 hx2))
          have hnb2 : 0 ≤ ((mkN R' ⟨kd, nn, fa, fb⟩ : Nat) : Int) := by omega
          clear hD hst hlen hx hRl hR2 hx2 HP
          generalize mkN R' ⟨kd, nn, fa, fb⟩ = kn at *
          generalize mkL R' ⟨kd, nn, fa, fb⟩ = R2 at *
          go_wp2_with fail
          refine KM.mono ?_
          rintro e w5 ⟨rfl, rv2, s5⟩
          have A5 := (unhide HD).stepR s5
          have cm5 := A5.cells.1
          have hmw := lt_of_blk A5.blk
          have hrow : w5.ownsRow 0 3 1 (.slice (some ⟨g, 0, none⟩) ph.length cp) ph.length (ph.map (fun m => .int .i64 ((m : Nat) : Int))) := A5.row
          have HA5 := hide A5
          clear A5 s5 KM HD y0 y1 y2 y3
          go_wp2_with (at_builtin; refine wpList_append_own_at _ rfl (.tmp 84) (.tmp 86) 27 rfl 0 3 j0 (.int .i64 0) 1 8 Tryz.underlying27 hj hy0 hy1 hy2 rfl (by decide) _ ph.length _ rfl (World.ownsRow.alloc hrow _) ⟨w5.heap.size, 0, none⟩ 1 1 [_] rfl rfl (cell_one_new _ _ _) ?c2 ?c3 ?c4 ?c5 ?nx)
          case c2 => intro u hu; simp at hu; subst hu; rfl
          case c3 => unfold maxLen; omega
          case c4 => omega
          case c5 => exact Nat.zero_le _
          case nx =>
            intro v' w6 hown' hgrow _ hat
            obtain ⟨q1, q2, A6⟩ := (unhide HA5).push hown' hgrow (by simpa using hat)
            obtain ⟨g', cap', rfl⟩ := own_form hown'
            have HR : Hid (Ac w (w6.setCell ⟨mp, 0, none⟩ (.slice (some ⟨g', 0, none⟩) (ph.length + 1) cap')) b sv mb rb rv2 L R2 mp (.slice (some ⟨g', 0, none⟩) (ph.length + 1) cap') (ph ++ [kn]) ∧ Acr L (i + 1) R2 (ph ++ [kn]) ∧ R2.length ≤ 3000 + (i + 1) ∧ ∃ x, R2 = R ++ x) := ⟨A6, unhide HP2⟩
            clear A6 hown' hgrow hat HA5 HP2 hrow
            go_wp2_with fail
            go_roundw
            case rel => exact ⟨i + 1, rv2, _, R2, ph ++ [kn], by omega, by go_num, HR⟩
            case measure => simp only [intOf]; omega
    · obtain rfl : i = N := by omega
      clear hlt hi
      go_wp2_with fail
      refine KLw.mono ?_
      rintro e w1 ⟨rfl, rfl⟩
      go_wp2_with fail
      go_ret2
      obtain ⟨hAc, hAr, hRl, hx⟩ := unhide HS
      rw [(unhide HH).1] at hAr
      exact ⟨mp, lv, rv', R', ph, rfl, hAc, hAr, hx⟩

end Go.Proofs.YtdnfonhodbhcmaaGreatDoor.Tn
