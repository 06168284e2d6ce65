/- Texts joined: ChY ChZ ChLawPlays. -/
import Derived.Test.YtkaioidneknmjaaGreatDoorZ15
import Derived.Test.YtkaioidneknmjaaGreatDoorTdG
/- ChainPlays: chains that are not there; what the law keeps behind Across. -/
namespace Go.Proofs.YtkaioidneknmjaaGreatDoor.Tn
open Go.RowKit Go.Maps

set_option maxRecDepth 100000 in
set_option maxHeartbeats 4000000 in
theorem take_nil (W : World) (n : Int) : Calls Tryz.prog 7 #[.pointer none, .int .i64 n] W fun e W' => e = .returned (.tuple #[.int .i64 0, .int .i64 2]) ∧ W' = W := by
  have K := hide (chmissing_nil W)
  go_enter Tryz.func7, Tryz.ntmps7
  go_wp2_with fail
  refine (unhide K).mono ?_
  rintro e W ⟨rfl, rfl⟩
  go_wp2
  go_ret2
  exact ⟨rfl, rfl⟩
set_option maxRecDepth 100000 in
set_option maxHeartbeats 4000000 in
theorem take_zero (W : World) (c : Nat) (n : Int) (c1 : W.cell? ⟨c, 1, none⟩ = some (.map none)) : Calls Tryz.prog 7 #[.pointer (some ⟨c, 0, none⟩), .int .i64 n] W fun e W' => e = .returned (.tuple #[.int .i64 0, .int .i64 2]) ∧ W' = W := by
  have K := hide (chmissing_zero W c c1)
  clear c1
  go_enter Tryz.func7, Tryz.ntmps7
  go_wp2_with fail
  refine (unhide K).mono ?_
  rintro e W ⟨rfl, rfl⟩
  go_wp2
  go_ret2
  exact ⟨rfl, rfl⟩
set_option maxRecDepth 100000 in
set_option maxHeartbeats 4000000 in
theorem has_nil (W : World) : Calls Tryz.prog 8 #[.pointer none] W fun e W' => e = .returned (.slice none 0 0) ∧ W' = W := by
  have K := hide (chmissing_nil W)
  go_enter Tryz.func8, Tryz.ntmps8
  go_wp2_with fail
  refine (unhide K).mono ?_
  rintro e W ⟨rfl, rfl⟩
  go_wp2
  go_ret
  exact ⟨rfl, rfl⟩
/-- What a chain has. -/
def hasL (s : Cst) : List Nat := s.l.map (·.2) ++ [s.x]
theorem Cp.has_le {N i : Nat} {s : Cst} (h : Cp N i s) : ∀ k ∈ hasL s, k ≤ s.L.length := fun k hk => by
  rcases List.mem_append.1 hk with c | c
  · obtain ⟨p, hp, rfl⟩ := List.mem_map.1 c; exact h.keys p hp
  · simp at c; subst c; exact h.g.2
theorem Cp.has_len {N i : Nat} {s : Cst} (h : Cp N i s) : (hasL s).length ≤ 65 := by have := h.ll; unfold hasL; simp; omega
/-- Both chains and the map, and where they lie. -/
structure FP (D : List Nat) (W : World) (c b lm c2 b2 : Nat) (lv2 : Value) (s : Cst) (mp g9 np cp : Nat) : Prop where
  cn : Cn W c b lm s.l s.nx s.x
  rn : Rn W c2 b2 lv2 s.l s.nx s.x
  m0 : W.cell? ⟨mp, 0, none⟩ = some (.slice (some ⟨g9, 0, none⟩) np cp)
  m1 : ∀ k : Nat, k ≤ s.L.length → W.cell? ⟨g9, k, none⟩ = some (.int .i64 (k : Int))
  np : s.L.length < np ∧ np ≤ 4000
  d : D = c :: lm :: c2 :: mp :: g9 :: lv2.ownBlock.toList
section
variable {D : List Nat} {W W' : World} {c b lm c2 b2 : Nat} {lv2 : Value} {s : Cst} {mp g9 np cp : Nat}
theorem FP.keep (h : FP D W c b lm c2 b2 lv2 s mp g9 np cp) (hd : ∀ k ∈ D, W'.heap[k]? = W.heap[k]?) : FP D W' c b lm c2 b2 lv2 s mp g9 np cp := by
  have e := h.d
  exact ⟨h.cn.keep (hd c (by simp [e])) (hd lm (by simp [e])), h.rn.keep (hd c2 (by simp [e])) (fun k hk => hd k (by simp [e, hk])), (World.cell?_of_block (hd mp (by simp [e]))).trans h.m0, fun k hk => (World.cell?_of_block (hd g9 (by simp [e]))).trans (h.m1 k hk), h.np, e⟩
theorem FP.lt (h : FP D W c b lm c2 b2 lv2 s mp g9 np cp) : ∀ k ∈ D, k < W.heap.size := fun k hk => by
  rw [h.d] at hk
  simp only [List.mem_cons, Option.mem_toList] at hk
  rcases hk with rfl | rfl | rfl | rfl | rfl | hk
  · exact lt_of_blk h.cn.blk
  · exact h.cn.map.lt
  · exact lt_of_blk h.rn.blk
  · exact lt_of_cell h.m0
  · exact lt_of_cell (h.m1 0 (Nat.zero_le _))
  · obtain ⟨cur, e⟩ := h.rn.row.kind hk; exact lt_of_blk e
theorem FP.new (h : FP D W c b lm c2 b2 lv2 s mp g9 np cp) (hb : Below W.heap.size W W') : FP D W' c b lm c2 b2 lv2 s mp g9 np cp := h.keep (fun k hk => hb.block k (h.lt k hk))
theorem FP.numbers (h : FP D W c b lm c2 b2 lv2 s mp g9 np cp) {a1 a2 : Option Addr} {n p1 p2 B1 B2 : Nat} {ks : List Nat} (h1 : NRow B1 W (.slice a1 n p1) ks) (h2 : NRow B2 W (.slice a2 n p2) ks) (hn : n = ks.length) (hb : n ≤ 1000) (hk : ∀ k ∈ ks, k ≤ s.L.length) :
    Calls Tryz.prog 12 #[.pointer (some ⟨mp, 0, none⟩), .slice a1 n p1, .slice a2 n p2] W fun e w' => e = .returned (.bool true) ∧ Below W.heap.size W w' :=
  mnumbers_same h1 h2 hn hb (fun W' hb' k hk' => by
    have h' := h.new hb'
    exact msame_any mp g9 np cp k W' (by have := hk k hk'; have := h.np; omega) h.np.2 h'.m0 (h'.m1 k (hk k hk')))
theorem FP.has1 (h : FP D W c b lm c2 b2 lv2 s mp g9 np cp) (hk : Cok s 1000000) : Calls Tryz.prog 8 #[.pointer (some ⟨c, 0, none⟩)] W fun e W' => ∃ a cap, e = .returned (.slice a (hasL s).length cap) ∧ NRow W.heap.size W' (.slice a (hasL s).length cap) (hasL s) ∧ Below W.heap.size W W' ∧ FP D W' c b lm c2 b2 lv2 s mp g9 np cp := by
  refine (has_at h.cn (by have := hk.ll; omega) (by have := hk.nx; omega)).mono ?_
  rintro e W' ⟨v, h1, h2, h3⟩
  obtain ⟨a, cap, rfl⟩ : ∃ a cap, v = .slice a (hasL s).length cap := own_slice h2
  exact ⟨a, cap, h1, h2, h3, h.new h3⟩
theorem FP.has2 (h : FP D W c b lm c2 b2 lv2 s mp g9 np cp) (hk : Cok s 1000000) : Calls Tryz.prog 13 #[.pointer (some ⟨c2, 0, none⟩)] W fun e W' => ∃ a cap, e = .returned (.slice a (hasL s).length cap) ∧ NRow W.heap.size W' (.slice a (hasL s).length cap) (hasL s) ∧ Below W.heap.size W W' ∧ FP D W' c b lm c2 b2 lv2 s mp g9 np cp := by
  obtain ⟨a, cap, rfl⟩ : ∃ a cap, lv2 = .slice a s.l.length cap := own_slice h.rn.row
  refine (rhas_at h.rn hk.lf rfl hk.ll hk.nx).mono ?_
  rintro e W' ⟨v, h1, h2, h3⟩
  obtain ⟨a, cap, rfl⟩ : ∃ a cap, v = .slice a (hasL s).length cap := own_slice h2
  exact ⟨a, cap, h1, h2, h3, h.new h3⟩
end
theorem EP.has {w W : World} {c b mb c2 b2 : Nat} {s : Cst} {va vb : Value} {xs ys : List Nat} (h : EP w W c b mb c2 b2 s s va vb xs ys) (hk : Cok s 1000000) :
    Calls Tryz.prog 8 #[.pointer (some ⟨c, 0, none⟩)] W fun e W' => ∃ a cap, e = .returned (.slice a (hasL s).length cap) ∧ NRow W.heap.size W' (.slice a (hasL s).length cap) (hasL s) ∧ Below W.heap.size W W' ∧ EP w W' c b mb c2 b2 s s va vb xs ys := by
  obtain ⟨lm, sv, sv2, lv2, e⟩ := h.e
  refine (env_chas (rs := [resRh c2 b2 sv2 lv2 s, resN va xs, resN vb ys]) ⟨lm, sv, e⟩ (by have := hk.ll; omega) (by have := hk.nx; omega)).mono ?_
  rintro e' W' ⟨v, h1, h2, h3, -⟩
  obtain ⟨a, cap, rfl⟩ : ∃ a cap, v = .slice a (hasL s).length cap := own_slice h2
  exact ⟨a, cap, h1, h2, h3, h.new h3⟩
theorem nrow_rfr {B : Nat} {W W' : World} {v : Value} {l : List Nat} {b : Nat} {sv : Value} {L : List Tm} (h : NRow B W v l) (hr : Rs W b sv L) (hf : Fr (rfoot b sv) W W') : NRow B W' v l :=
  h.keep (fun k hk => by obtain ⟨cur, e⟩ := h.block hk; exact hf.block k (lt_of_blk e) (hr.notin e (by decide) (by decide)))
/-- Across, behind the takes. -/
theorem EP.across {w W : World} {c b mb c2 b2 : Nat} {s : Cst} {va vb vp vq : Value} {xs ys : List Nat} {Bp Bq : Nat} (h : EP w W c b mb c2 b2 s s va vb xs ys) (hk : Cok s 3000) (hp : NRow Bp W vp (hasL s)) (hq : NRow Bq W vq (hasL s)) :
    Calls Tryz.prog 11 #[.pointer (some ⟨b, 0, none⟩), .pointer (some ⟨b2, 0, none⟩)] W fun e W3 => ∃ (D : List Nat) (lm : Nat) (lv2 : Value) (mp g9 np cp : Nat), e = .returned (.tuple #[.pointer (some ⟨mp, 0, none⟩), .bool true]) ∧ FP D W3 c b lm c2 b2 lv2 s mp g9 np cp ∧ NRow 0 W3 va xs ∧ NRow 0 W3 vb ys ∧ NRow Bp W3 vp (hasL s) ∧ NRow Bq W3 vq (hasL s) ∧ Below w.heap.size w W3 ∧ (∀ v, v = vp ∨ v = vq → ∀ k, v.ownBlock = some k → k ∉ D) := by
  obtain ⟨lm, sv, sv2, lv2, e⟩ := h.e
  obtain ⟨h1, h2, h3⟩ : St W b sv mb s.L ∧ Cn W c b lm s.l s.nx s.x ∧ lm ∉ foot b sv mb := e.hd
  obtain ⟨r1, r2⟩ : Rs W b2 sv2 s.L ∧ Rn W c2 b2 lv2 s.l s.nx s.x := e.sd
  have hap := e.apart
  have two : Two w W b sv mb b2 sv2 s.L s.L := ⟨h1, r1, fun x hx => e.low (resCh c b mb lm sv s) (by simp) x (by simp [resCh, hx]), fun x hx => e.low (resRh c2 b2 sv2 lv2 s) (by simp) x (by simp [resRh, hx]), fun x hx q => hap x (by simp [resCh, hx]) (by simp [resRh, q]), e.bel⟩
  refine (acrosse_any w W b sv mb b2 sv2 s.L s.L two hk.len hk.len).mono ?_
  rintro e' W3 ⟨mp, lv, rv', R', ph, g1, hAc, hAr, hpre, hEx⟩
  have hlen := hAr.len
  have hid := hAr.ident hAc.two.st.good hpre
  obtain ⟨g9, cp, rfl, _⟩ := hAc.form (by omega)
  have hlm : lm ∉ rfoot b2 sv2 := fun q => hap lm (by simp [resCh]) (by simp [resRh, q])
  have hfp : FP (c :: lm :: c2 :: mp :: g9 :: lv2.ownBlock.toList) W3 c b lm c2 b2 lv2 s mp g9 ph.length cp := by
    refine ⟨h2.keep (hEx.fr.block c (lt_of_blk h2.blk) (r1.notin h2.blk (by decide) (by decide))) (hEx.fr.block lm h2.map.lt hlm), r2.keep (hEx.fr.block c2 (lt_of_blk r2.blk) (r1.notin r2.blk (by decide) (by decide))) (fun k hk => ?_), hAc.cells.1, fun k hk => ?_, ⟨by omega, by have := hk.len; omega⟩, rfl⟩
    · obtain ⟨cur, e2⟩ := r2.row.kind hk; exact hEx.fr.block k (lt_of_blk e2) (r1.notin e2 (by decide) (by decide))
    · have c1 := hAc.at (i := k) (by omega)
      rw [hid k hk] at c1
      exact c1
  refine ⟨_, lm, lv2, mp, g9, ph.length, cp, g1, hfp, nrow_rfr (e.hold (resN va xs) (by simp) : NRow 0 W va xs) r1 hEx.fr, nrow_rfr (e.hold (resN vb ys) (by simp) : NRow 0 W vb ys) r1 hEx.fr, nrow_rfr hp r1 hEx.fr, nrow_rfr hq r1 hEx.fr, hAc.two.bel, ?_⟩
  intro v hv k hvk hkD
  have hb : ∃ cur, W.heap[k]? = some (.cells cur 3 (0, 0)) := by
    rcases hv with rfl | rfl
    · exact hp.block hvk
    · exact hq.block hvk
  obtain ⟨cur, ek⟩ := hb
  have hkl := lt_of_blk ek
  simp only [List.mem_cons, Option.mem_toList] at hkD
  rcases hkD with rfl | rfl | rfl | rfl | rfl | q
  · rw [h2.blk] at ek; injection ek with ek; injection ek with _ ek; exact absurd ek (by decide)
  · obtain ⟨es, cl, e2⟩ := h2.map.block; rw [e2] at ek; cases ek
  · rw [r2.blk] at ek; injection ek with ek; injection ek with _ ek; exact absurd ek (by decide)
  · have := hEx.mlow; omega
  · have := hEx.llow k rfl; omega
  · obtain ⟨cur2, e2⟩ := r2.row.kind q; rw [e2] at ek; injection ek with ek; injection ek with _ ek; exact absurd ek (by decide)
end Go.Proofs.YtkaioidneknmjaaGreatDoor.Tn

/- ChainPlays: two rows in a Book, beside both chains and the map. -/
namespace Go.Proofs.YtkaioidneknmjaaGreatDoor.Tn
open Go.RowKit Go.Maps

theorem td_ints {B : Nat} {W : World} {v : Value} {ks : List Nat} (h : NRow B W v ks) : Td.Ints B W v (ks.map fun (k : Nat) => (k : Int)) := by
  unfold NRow at h
  unfold Td.Ints
  rw [List.length_map, List.map_map]
  exact h
theorem book_phase {w W : World} {D : List Nat} {c b lm c2 b2 : Nat} {lv2 : Value} {s : Cst} {mp g9 np cp : Nat} {a1 a2 : Option Addr} {n p1 p2 : Nat} {ks : List Nat} (h : FP D W c b lm c2 b2 lv2 s mp g9 np cp) (hbel : Below w.heap.size w W)
    (hp : NRow w.heap.size W (.slice a1 n p1) ks) (hq : NRow w.heap.size W (.slice a2 n p2) ks) (hks : ks.length ≤ 100) (hap : ∀ k, (Value.slice a1 n p1).ownBlock = some k → (Value.slice a2 n p2).ownBlock ≠ some k)
    (hD : ∀ v : Value, v = .slice a1 n p1 ∨ v = .slice a2 n p2 → ∀ k, v.ownBlock = some k → k ∉ D) {W6 : World} (hW6 : W6 = W.alloc (.cells (Td.bookCells 0 (.slice none 0 0)) 81)) :
    Calls Tryz.prog 14 #[.pointer (some ⟨W.heap.size, 0, none⟩), .slice a1 n p1] W6 fun e W7 => e = .returned (.tuple #[]) ∧
      Calls Tryz.prog 14 #[.pointer (some ⟨W.heap.size, 0, none⟩), .slice a2 n p2] W7 fun e W8 => e = .returned (.tuple #[]) ∧
        Calls Tryz.prog 15 #[.pointer (some ⟨W.heap.size, 0, none⟩)] W8 fun e W9 => e = .returned (.bool true) ∧ Below w.heap.size w W9 ∧ FP D W9 c b lm c2 b2 lv2 s mp g9 np cp := by
  have hb6 : Below W.heap.size W W6 := by rw [hW6]; exact (Below.refl _ _).alloc (Nat.le_refl _) _
  have hblk : W6.heap[W.heap.size]? = some (.cells (Td.bookCells 0 (.slice none 0 0)) 81 (0, 0)) := by rw [hW6]; exact heap_alloc_new _ _
  have k0 : Td.Bk w.heap.size W6 W.heap.size (.slice none 0 0) [] := ⟨hblk, World.ownsRow_nil _ _ _ _⟩
  have hs0 := hbel.size
  have s6 : w.heap.size ≤ W6.heap.size := Nat.le_trans hs0 hb6.size
  have bel6 := bw_tr hbel hb6
  have f6 := h.new hb6
  have j1 : Td.Ints w.heap.size W6 (.slice a1 n p1) (ks.map fun (k : Nat) => (k : Int)) := td_ints (hp.keep (fun k hk => hb6.block k (hp.lt k hk).2))
  have j2 : Td.Ints w.heap.size W6 (.slice a2 n p2) (ks.map fun (k : Nat) => (k : Int)) := td_ints (hq.keep (fun k hk => hb6.block k (hq.lt k hk).2))
  have hlt6 := f6.lt
  have hltW := h.lt
  refine (Td.numbers_any w.heap.size W.heap.size _ [] a1 n p1 W6 k0 s6 (by simp)).mono ?_
  rintro e W7 ⟨h7, lv1, k1, f1, q1⟩
  refine ⟨h7, ?_⟩
  have b7 := Td.fr_below k0 hs0 f1 s6
  have s7 := Nat.le_trans s6 f1.size
  have q1' : ∀ k, lv1.ownBlock = some k → W6.heap.size ≤ k := fun k hk => by
    rcases q1 k hk with c | c
    · simp [Value.ownBlock] at c
    · exact c
  refine (Td.numbers_any w.heap.size W.heap.size _ _ a2 n p2 W7 k1 s7 (by simp)).mono ?_
  rintro e W8 ⟨h8, lv3, k2, f2, q2⟩
  refine ⟨h8, ?_⟩
  have b8 := Td.fr_below k1 hs0 f2 s7
  have s8 := Nat.le_trans s7 f2.size
  have q2' : ∀ k, lv3.ownBlock = some k → W6.heap.size ≤ k := fun k hk => by
    rcases q2 k hk with c | c
    · exact q1' k c
    · exact Nat.le_trans f1.size c
  have fp7 : FP D W7 c b lm c2 b2 lv2 s mp g9 np cp := f6.keep (fun k hk => f1.block k (hlt6 k hk) (fun q => by
    rcases List.mem_cons.1 q with e | e
    · have := hltW k hk; omega
    · simp [Value.ownBlock] at e))
  have fp8 : FP D W8 c b lm c2 b2 lv2 s mp g9 np cp := fp7.keep (fun k hk => f2.block k (fp7.lt k hk) (fun q => by
    rcases List.mem_cons.1 q with e | e
    · have := hltW k hk; omega
    · have := q1' k (by simpa using e); have := hlt6 k hk; omega))
  have m1 := (j1.keep k0 f1).keep k1 f2
  have m2 := (j2.keep k0 f1).keep k1 f2
  have hH : Td.Hl w.heap.size W8 W.heap.size lv3 [.slice a1 n p1, .slice a2 n p2] [ks.map fun (k : Nat) => (k : Int), ks.map fun (k : Nat) => (k : Int)] := ⟨k2, rfl, Td.two_rows m1 m2, fun i j u v k hij hu hv hk hk2 => by
    match i, j, hij, hu, hv with
    | 0, 0, hij, _, _ => exact hij rfl
    | 0, 1, _, hu, hv => simp at hu hv; subst hu; subst hv; exact hap k hk hk2
    | 1, 0, _, hu, hv => simp at hu hv; subst hu; subst hv; exact hap k hk2 hk
    | 1, 1, hij, _, _ => exact hij rfl
    | 0, j + 2, _, _, hv => simp at hv
    | 1, j + 2, _, _, hv => simp at hv
    | i + 2, _, _, hu, _ => simp at hu⟩
  refine (Td.apart_any w.heap.size W.heap.size lv3 _ _ W8 hH (by simp) (by simp) (fun l hl => by simp at hl; subst hl; rw [List.length_map]; omega) s8 D (fun v hv k hk => hD v (by simpa using hv) k hk) (fun k hk q => by have := q2' k hk; have := hlt6 k q; omega) fp8.lt).mono ?_
  rintro e W9 ⟨h9, bz⟩
  exact ⟨h9, ((bel6.trans b7).trans b8).trans bz.b, fp8.keep bz.d⟩
end Go.Proofs.YtkaioidneknmjaaGreatDoor.Tn

/- ChainPlays, the walk. -/
namespace Go.Proofs.YtkaioidneknmjaaGreatDoor.Tn
open Go.RowKit Go.Maps

theorem cp_new {L : List Tm} {app snd : Int} (ha : thr L.length app = true) (hG : Good L) (hl : L.length ≤ 2000) : Cp L.length 0 ⟨(beg L app snd).1, [], 0, (beg L app snd).2⟩ :=
  ⟨beg_gd ha (by omega), beg_good hG app snd, by simp, Lf.nil _, by simp, by have := (beg_len L app snd).1; simp only; omega, by simp⟩
/-- What the loop keeps. -/
structure LP (w W : World) (c b mb c2 b2 N i : Nat) (s : Cst) (va vb : Value) (xs : List Nat) : Prop where
  e : EP w W c b mb c2 b2 s s va vb xs xs
  len : xs.length = i
  le : ∀ k ∈ xs, k ≤ s.L.length
  cp : Cp N i s
/-- One take of each. -/
theorem LP.take {w W : World} {c b mb c2 b2 N i : Nat} {s : Cst} {va vb : Value} {xs : List Nat} (h : LP w W c b mb c2 b2 N i s va vb xs) (hN : N ≤ 2000) (hi : i < 300) (n : Int) (hn : i64r n) :
    ∃ (k : Nat) (E : Int), Calls Tryz.prog 7 #[.pointer (some ⟨c, 0, none⟩), .int .i64 n] W fun e W1 => e = .returned (.tuple #[.int .i64 (k : Int), .int .i64 E]) ∧ Below w.heap.size w W1 ∧
      Calls Tryz.prog 10 #[.pointer (some ⟨c2, 0, none⟩), .int .i64 n] W1 fun e W2 => e = .returned (.tuple #[.int .i64 (k : Int), .int .i64 E]) ∧ EP w W2 c b mb c2 b2 (s.take n) (s.take n) va vb xs xs ∧ (∀ j ∈ xs ++ [k], j ≤ (s.take n).L.length) ∧ Cp N (i + 1) (s.take n) := by
  obtain ⟨t1, t2, k, t3, t4⟩ := h.cp.take hN (by omega) n
  have hk : Cok s 1000000 := (h.cp.cok hN (by omega)).mono (by omega)
  refine ⟨k, tkE s.l s.nx n, ?_⟩
  have h1 := h.e.take1 hk n hn
  rw [t3] at h1
  refine h1.mono ?_
  rintro e W1 ⟨e1, h2⟩
  refine ⟨e1, h2.bel, ?_⟩
  have h3 := h2.take2 hk n hn
  rw [t3] at h3
  refine h3.mono ?_
  rintro e W2 ⟨e2, h4⟩
  refine ⟨e2, h4, fun j hj => ?_, t1⟩
  rcases List.mem_append.1 hj with q | q
  · exact Nat.le_trans (h.le j q) t2
  · simp at q; subst q; exact t4
set_option maxRecDepth 100000 in
set_option maxHeartbeats 8000000 in
theorem ChainPlays_walk (w : World) (la : Option Addr) (lc : Nat) (l : List Tm) (hl : Tms w (.slice la l.length lc) l) (hok : ∀ t ∈ l, t.ok) (app : Int) (_a1 : -9223372036854775808 ≤ app) (_a2 : app ≤ 9223372036854775807) (snd : Int) (s1 : -9223372036854775808 ≤ snd) (s2 : snd ≤ 9223372036854775807) (ta : Option Addr) (tc : Nat) (ts : List Int) (ht : NIs w (.slice ta ts.length tc) ts) :
    Calls Tryz.prog 3 #[.slice la l.length lc, .int .i64 app, .int .i64 snd, .slice ta ts.length tc] w fun e w' => e = .returned (.bool true) ∧ Below w.heap.size w w' := by
  clear _a1 _a2
  obtain ⟨j0, hj, hy0, hy1, hy2⟩ := info_parts Tryz.infoInt
  obtain ⟨M, hM⟩ : ∃ M, M = l.length := ⟨_, rfl⟩
  have hlen := (hl.get).1
  rw [← hM] at hlen hl ⊢
  have hMI : (M : Int) ≤ 140737488355328 := by omega
  obtain ⟨N, hN⟩ : ∃ N, N = ts.length := ⟨_, rfl⟩
  have hNb : (N : Int) ≤ 140737488355328 := by obtain ⟨a, c, e, h, -⟩ := ht; omega
  have HT : Hid (∀ W, Below w.heap.size w W → ∀ (i : Nat) (z : Int), ts[i]? = some z → i64r z ∧ ∃ g o, ta = some ⟨g, o, none⟩ ∧ W.cell? ⟨g, o + i, none⟩ = some (.int .i64 z)) := fun W hb i z hz => by
    obtain ⟨a, c, e, h1, h2, h3⟩ := ht.bw hb
    refine ⟨h2 z (List.mem_of_getElem? hz), ?_⟩
    rcases h3 with h3 | ⟨g, o, h4, h5⟩
    · rw [h3] at hz; cases hz
    · simp only [Value.slice.injEq] at e
      exact ⟨g, o, by rw [e.1, h4], h5 i z hz⟩
  rw [← hN]
  by_cases hbig : 2000 < M
  · have hbI : (2000 : Int) < (M : Int) := by omega
    clear HT ht hN s1 s2 hl hok hlen hM hj hy0 hy1 hy2
    go_enter Tryz.func3, Tryz.ntmps3
    go_wp2
    go_ret
    exact ⟨rfl, Below.refl _ _⟩
  have hsm : (M : Int) ≤ 2000 := by omega
  by_cases hbigN : 300 < N
  · have hbI : (300 : Int) < (N : Int) := by omega
    clear HT ht hN s1 s2 hl hok hlen hM hj hy0 hy1 hy2
    go_enter Tryz.func3, Tryz.ntmps3
    go_wp2
    go_ret
    exact ⟨rfl, Below.refl _ _⟩
  have hsmN : (N : Int) ≤ 300 := by omega
  have KB : Hid (Calls Tryz.prog 4 #[.slice la M lc] w fun e w' => ∃ b sv mb rb rv, e = .returned (.tuple #[.pointer (some ⟨b, 0, none⟩), .pointer (some ⟨rb, 0, none⟩), .bool true]) ∧ Two w w' b sv mb rb rv (fillL [] l) (fillL [] l)) := by
    have := build_any w la lc l (by rw [hM] at hl; exact hl) hok (by omega)
    rw [← hM] at this
    exact this
  obtain ⟨L0, hL0⟩ : ∃ L0, L0 = fillL [] l := ⟨_, rfl⟩
  have hL0l : L0.length ≤ 2000 := by have := fillL_len l []; rw [hL0]; simp at *; omega
  have hL0g : Good L0 := by rw [hL0]; exact fill_good l [] good_nil
  rw [← hL0] at KB
  have KE : Hid (∀ W, Below w.heap.size w W → Calls Tryz.prog 9 #[] W fun e w' => e = .returned (.bool true) ∧ Below w.heap.size w w') := fun W hW => lives11 hW
  cases ha : thr L0.length app
  · have K1 : Hid (∀ W b sv mb rb rv, Two w W b sv mb rb rv L0 L0 → Calls Tryz.prog 5 #[.pointer (some ⟨b, 0, none⟩), .int .i64 app, .int .i64 snd] W fun e W1 => e = .returned (.tuple #[.pointer none, .int .i64 1]) ∧ Calls Tryz.prog 6 #[.pointer (some ⟨rb, 0, none⟩), .int .i64 app, .int .i64 snd] W1 fun e W2 => e = .returned (.tuple #[.pointer none, .int .i64 1]) ∧ Below w.heap.size w W2) := fun W b sv mb rb rv tw => by
      refine (new_err tw.st app snd ha).mono ?_
      rintro e W1 ⟨e1, b1⟩
      refine ⟨e1, (rnew_err (tw.rs.bw b1) app snd ha).mono ?_⟩
      rintro e W2 ⟨e2, b2⟩
      exact ⟨e2, bw_tr (bw_tr tw.bel b1) b2⟩
    have KT : Hid (∀ W : World, Calls Tryz.prog 7 #[.pointer none, .int .i64 0] W fun e W' => e = .returned (.tuple #[.int .i64 0, .int .i64 2]) ∧ W' = W) := fun W => take_nil W 0
    have KZ : Hid (∀ W : World, Calls Tryz.prog 7 #[.pointer (some ⟨W.heap.size, 0, none⟩), .int .i64 0] (W.alloc (.cells #[.pointer none, .map none, .int .i64 0, .int .i64 0] 39)) fun e W' => e = .returned (.tuple #[.int .i64 0, .int .i64 2]) ∧ W' = W.alloc (.cells #[.pointer none, .map none, .int .i64 0, .int .i64 0] 39)) := fun W => take_zero _ _ 0 (blk_cell (heap_alloc_new W (.cells #[.pointer none, .map none, .int .i64 0, .int .i64 0] 39)) rfl)
    have KH : Hid (∀ W : World, Calls Tryz.prog 8 #[.pointer none] W fun e W' => e = .returned (.slice none 0 0) ∧ W' = W) := fun W => has_nil W
    clear HT ht hN s1 s2 hl hok hlen hM hj hy0 hy1 hy2 hL0 hL0l hL0g ha hbig hbigN
    go_enter Tryz.func3, Tryz.ntmps3
    go_wp2_with fail
    refine (unhide KB).mono ?_
    rintro e w1 ⟨b, sv, mb, rb, rv, rfl, T1⟩
    have Q1 := hide (unhide K1 _ _ _ _ _ _ T1)
    clear T1 KB K1
    go_wp2_with fail
    refine (unhide Q1).mono ?_
    rintro e w2 ⟨rfl, Q2⟩
    have HQ2 := hide Q2
    clear Q2 Q1
    go_wp2_with fail
    refine (unhide HQ2).mono ?_
    rintro e w3 ⟨rfl, b3⟩
    have B4 : Hid (Below w.heap.size w (w3.alloc (.cells #[.pointer none, .map none, .int .i64 0, .int .i64 0] 39))) := b3.alloc b3.size _
    clear HQ2 b3
    go_wp2_with fail
    refine (unhide KT w3).mono ?_
    rintro e w3 ⟨rfl, rfl⟩
    go_wp2_with fail
    refine (unhide KZ w3).mono ?_
    rintro e w4 ⟨rfl, rfl⟩
    go_wp2_with fail
    refine (unhide KH _).mono ?_
    rintro e w4 ⟨rfl, rfl⟩
    have Q5 := hide (unhide KE _ (unhide B4))
    clear KT KZ KH KE B4
    go_wp2_with fail
    refine (unhide Q5).mono ?_
    rintro e w6 ⟨rfl, b6⟩
    go_wp2
    go_ret
    exact ⟨rfl, b6⟩
  have HNN := hide (And.intro hN (show N ≤ 300 by omega))
  have HL0 := hide hL0l
  have K1 : Hid (∀ W b sv mb rb rv, Two w W b sv mb rb rv L0 L0 → Calls Tryz.prog 5 #[.pointer (some ⟨b, 0, none⟩), .int .i64 app, .int .i64 snd] W fun e W1 => ∃ c, e = .returned (.tuple #[.pointer (some ⟨c, 0, none⟩), .int .i64 0]) ∧ Calls Tryz.prog 6 #[.pointer (some ⟨rb, 0, none⟩), .int .i64 app, .int .i64 snd] W1 fun e W2 => ∃ c2, e = .returned (.tuple #[.pointer (some ⟨c2, 0, none⟩), .int .i64 0]) ∧ LP w W2 c b mb c2 rb L0.length 0 ⟨(beg L0 app snd).1, [], 0, (beg L0 app snd).2⟩ (.slice none 0 0) (.slice none 0 0) []) := fun W b sv mb rb rv tw => by
    refine (ep_start (p := beg L0 app snd) (Env.ofTwo tw) app snd ha ⟨s1, s2⟩ (by omega) rfl).mono ?_
    rintro e W1 ⟨c, e1, h1⟩
    refine ⟨c, e1, h1.mono ?_⟩
    rintro e W2 ⟨c2, e2, h2⟩
    exact ⟨c2, e2, h2, rfl, by simp, cp_new ha hL0g hL0l⟩
  clear ht hN s1 s2 hl hok hlen hM hL0 hL0l hL0g ha hbig hbigN
  generalize (⟨(beg L0 app snd).1, [], 0, (beg L0 app snd).2⟩ : Cst) = s0 at *
  go_enter Tryz.func3, Tryz.ntmps3
  go_wp2_with fail
  refine (unhide KB).mono ?_
  rintro e w1 ⟨b, sv, mb, rb, rv, rfl, T1⟩
  have Q1 := hide (unhide K1 _ _ _ _ _ _ T1)
  clear T1 KB K1
  go_wp2_with fail
  refine (unhide Q1).mono ?_
  rintro e w2 ⟨c, rfl, Q2⟩
  have HQ2 := hide Q2
  clear Q2 Q1
  go_wp2_with fail
  refine (unhide HQ2).mono ?_
  rintro e w3 ⟨c2, rfl, P0⟩
  have HP0 := hide P0
  clear HQ2 P0
  go_wp2_with fail
  go_loopw [20, 21, 22] (fun av bv iv wr => ∃ (i : Nat) (a1 a2 : Option Addr) (k1 k2 : Nat) (xs : List Nat) (s : Cst), av = .slice a1 i k1 ∧ bv = .slice a2 i k2 ∧ iv = .int .i64 (i : Int) ∧ i ≤ N ∧ Hid (LP w wr c b mb c2 rb L0.length i s (.slice a1 i k1) (.slice a2 i k2) xs)) (fun _ _ iv _ => (N - intOf iv).toNat)
  case atStart => exact ⟨0, none, none, 0, 0, [], s0, rfl, rfl, rfl, by omega, HP0⟩
  case round =>
    clear HP0
    obtain ⟨i, a1, a2, k1, k2, xs, s, rfl, rfl, rfl, hi, HP⟩ := hrel
    by_cases hlt : i < N
    · obtain ⟨z, hz⟩ : ∃ z, ts[i]? = some z := ⟨_, List.getElem?_eq_getElem (by rw [← (unhide HNN).1]; exact hlt)⟩
      obtain ⟨hzr, g, o, rfl, dz⟩ := unhide HT wr (unhide HP).e.bel i z hz
      have q1 : (i : Int) < (N : Int) := by omega
      have q0 : (0 : Int) ≤ (i : Int) := by omega
      obtain ⟨k, E, KK⟩ := (unhide HP).take (unhide HL0) (by have := (unhide HNN).2; omega) z hzr
      have HZ : Hid (∀ W, Below w.heap.size w W → W.cell? ⟨g, o + i, none⟩ = some (.int .i64 z)) := fun W hW => by
        obtain ⟨-, g', o', e', d'⟩ := unhide HT W hW i z hz
        simp only [Option.some.injEq, Addr.mk.injEq] at e'
        obtain ⟨rfl, rfl, -⟩ := e'
        exact d'
      have HKK := hide KK
      have HXl := hide (unhide HP).len
      clear KK HP hzr hz
      go_wp2_with fail
      refine (unhide HKK).mono ?_
      rintro e w4 ⟨rfl, b4, Q4⟩
      have dz4 := unhide HZ w4 b4
      have HQ4 := hide Q4
      clear Q4 HKK dz b4 HZ
      go_wp2_with fail
      refine (unhide HQ4).mono ?_
      rintro e w5 ⟨rfl, E5, le5, cp5⟩
      have HE5 := hide (And.intro E5 (And.intro le5 cp5))
      have hrow : w5.ownsRow 0 3 1 (.slice a1 i k1) i (xs.map (fun m => .int .i64 ((m : Nat) : Int))) := by have := E5.rowA; unfold NRow at this; rw [unhide HXl] at this; exact this
      have hib : i ≤ 300 := by have := (unhide HNN).2; omega
      clear E5 le5 cp5 dz4 HQ4
      go_wp2_with (at_builtin; refine wpList_append_own_at _ rfl (.tmp 127) (.tmp 129) 23 rfl 0 3 j0 (.int .i64 0) 1 8 Tryz.underlying23 hj hy0 hy1 hy2 rfl (by decide) _ i _ rfl (World.ownsRow.alloc hrow _) ⟨w5.heap.size, 0, none⟩ 1 1 [_] rfl rfl (cell_one_new _ _ _) ?c2 ?c3 ?c4 ?c5 ?nx)
      case c2 => intro u hu; simp at hu; subst hu; rfl
      case c3 => unfold maxLen; omega
      case c4 => omega
      case c5 => simp
      case nx =>
        intro v' w6 hown' hgrow _ hpl
        have P := (unhide HE5).1.growA (x := k) (by rw [unhide HXl]; exact hown') hgrow (by simpa using hpl)
        obtain ⟨a6, k6, rfl⟩ : ∃ a6 k6, v' = .slice a6 (i + 1) k6 := own_slice hown'
        have HP6 := hide P
        have hrow2 : w6.ownsRow 0 3 1 (.slice a2 i k2) i (xs.map (fun m => .int .i64 ((m : Nat) : Int))) := by have := P.rowB; unfold NRow at this; rw [unhide HXl] at this; exact this
        clear P hown' hgrow hpl hrow
        go_wp2_with (at_builtin; refine wpList_append_own_at _ rfl (.tmp 131) (.tmp 133) 23 rfl 0 3 j0 (.int .i64 0) 1 8 Tryz.underlying23 hj hy0 hy1 hy2 rfl (by decide) _ i _ rfl (World.ownsRow.alloc hrow2 _) ⟨w6.heap.size, 0, none⟩ 1 1 [_] rfl rfl (cell_one_new _ _ _) ?d2 ?d3 ?d4 ?d5 ?ny)
        case d2 => intro u hu; simp at hu; subst hu; rfl
        case d3 => unfold maxLen; omega
        case d4 => omega
        case d5 => simp
        case ny =>
          intro v' w7 hown' hgrow _ hpl
          have P := (unhide HP6).growB (x := k) (by rw [unhide HXl]; exact hown') hgrow (by simpa using hpl)
          obtain ⟨a7, k7, rfl⟩ : ∃ a7 k7, v' = .slice a7 (i + 1) k7 := own_slice hown'
          have HP7 : Hid (LP w w7 c b mb c2 rb L0.length (i + 1) (s.take z) (.slice a6 (i + 1) k6) (.slice a7 (i + 1) k7) (xs ++ [k])) := ⟨P, by rw [List.length_append, unhide HXl]; rfl, (unhide HE5).2.1, (unhide HE5).2.2⟩
          clear P hown' hgrow hpl hrow2 HP6 HE5
          go_wp2_with fail
          go_roundw
          case rel => exact ⟨i + 1, a6, a7, k6, k7, xs ++ [k], s.take z, rfl, rfl, by go_num, by omega, HP7⟩
          case measure => simp only [intOf]; omega
    · have hie : i = N := by omega
      subst hie
      clear HT hlt hi hj hy0 hy1 hy2
      have hcp := (unhide HP).cp
      have hck3 : Cok s 3000 := hcp.cok (unhide HL0) (by have := (unhide HNN).2; omega)
      have hck : Cok s 1000000 := hck3.mono (by omega)
      have HCK := hide (And.intro hck3 hck)
      have HXS := hide (And.intro (unhide HP).len (unhide HP).le)
      have HKS := hide (And.intro hcp.has_le hcp.has_len)
      have Q1 := hide ((unhide HP).e.has hck)
      have HP0w := hide (unhide HP).e.bel
      clear hcp hck3 hck HP
      obtain ⟨ks, hks⟩ : ∃ ks, ks = hasL s := ⟨_, rfl⟩
      have HKE := hide hks
      obtain ⟨Kn, hKn⟩ : ∃ Kn, Kn = (hasL s).length := ⟨_, rfl⟩
      rw [← hKn] at Q1
      have HKn := hide hKn
      clear hks hKn
      go_wp2_with fail
      refine (unhide Q1).mono ?_
      rintro e w4 ⟨pa, pc, rfl, p4, b4, E4⟩
      have Q2 := hide (E4.has (unhide HCK).2)
      rw [← unhide HKn] at Q2
      have HP4 := hide p4
      have HB4 := hide b4
      clear Q1 p4 b4 E4
      go_wp2_with fail
      refine (unhide Q2).mono ?_
      rintro e w5 ⟨qa, qc, rfl, q5, b5, E5⟩
      have p5 : NRow wr.heap.size w5 (.slice pa Kn pc) (hasL s) := (unhide HP4).keep (fun k hk => b5.block k ((unhide HP4).lt k hk).2)
      have HAP : Hid (∀ k, (Value.slice pa Kn pc).ownBlock = some k → (Value.slice qa Kn qc).ownBlock ≠ some k) := fun k h1 h2 => by have := ((unhide HP4).lt k h1).2; have := (q5.lt k h2).1; omega
      have HSZ : Hid (w.heap.size ≤ wr.heap.size ∧ w.heap.size ≤ w4.heap.size) := by
        have h1 := (unhide HP0w).size
        exact ⟨h1, Nat.le_trans h1 (unhide HB4).size⟩
      have Q3 := hide (E5.across (unhide HCK).1 p5 q5)
      clear Q2 p5 q5 b5 E5 HP4
      go_wp2_with fail
      refine (unhide Q3).mono ?_
      rintro e w6 ⟨D, lm, lv2, mp, g9, np, cp, rfl, F6, ra6, rb6, rp6, rq6, bel6, hD6⟩
      have HD := hide hD6
      have K6 := hide (F6.numbers ra6 rb6 (unhide HXS).1.symm (by have := (unhide HNN).2; omega) (unhide HXS).2)
      have HF6 : Hid (FP D w6 c b lm c2 rb lv2 s mp g9 np cp ∧ NRow w.heap.size w6 (.slice pa Kn pc) (hasL s) ∧ NRow w.heap.size w6 (.slice qa Kn qc) (hasL s) ∧ Below w.heap.size w w6) := ⟨F6, own_monoT rp6 (unhide HSZ).1, own_monoT rq6 (unhide HSZ).2, bel6⟩
      clear Q3 F6 ra6 rb6 rp6 rq6 bel6 hD6
      go_wp2_with fail
      refine (unhide K6).mono ?_
      rintro e w7 ⟨rfl, b7⟩
      have HF7 : Hid (FP D w7 c b lm c2 rb lv2 s mp g9 np cp ∧ NRow w.heap.size w7 (.slice pa Kn pc) (hasL s) ∧ NRow w.heap.size w7 (.slice qa Kn qc) (hasL s) ∧ Below w.heap.size w w7) := by
        obtain ⟨f1, f2, f3, f4⟩ := unhide HF6
        exact ⟨f1.new b7, f2.keep (fun k hk => b7.block k (f2.lt k hk).2), f3.keep (fun k hk => b7.block k (f3.lt k hk).2), bw_tr f4 b7⟩
      have K7 := hide ((unhide HF7).1.has2 (unhide HCK).2)
      rw [← unhide HKn] at K7
      clear K6 HF6 b7
      go_wp2_with fail
      refine (unhide K7).mono ?_
      rintro e w8 ⟨ha8, hc8, rfl, r8, b8, F8⟩
      have HF8 : Hid (FP D w8 c b lm c2 rb lv2 s mp g9 np cp ∧ NRow w.heap.size w8 (.slice pa Kn pc) (hasL s) ∧ NRow w.heap.size w8 (.slice qa Kn qc) (hasL s) ∧ Below w.heap.size w w8) := by
        obtain ⟨f1, f2, f3, f4⟩ := unhide HF7
        exact ⟨F8, f2.keep (fun k hk => b8.block k (f2.lt k hk).2), f3.keep (fun k hk => b8.block k (f3.lt k hk).2), bw_tr f4 b8⟩
      have K8 := hide (F8.numbers (unhide HF8).2.1 r8 (unhide HKn) (by have := (unhide HKS).2; have := unhide HKn; omega) (unhide HKS).1)
      clear K7 HF7 b8 r8 F8
      go_wp2_with fail
      refine (unhide K8).mono ?_
      rintro e w9 ⟨rfl, b9⟩
      have hF9 : FP D w9 c b lm c2 rb lv2 s mp g9 np cp ∧ NRow w.heap.size w9 (.slice pa Kn pc) (hasL s) ∧ NRow w.heap.size w9 (.slice qa Kn qc) (hasL s) ∧ Below w.heap.size w w9 := by
        obtain ⟨f1, f2, f3, f4⟩ := unhide HF8
        exact ⟨f1.new b9, f2.keep (fun k hk => b9.block k (f2.lt k hk).2), f3.keep (fun k hk => b9.block k (f3.lt k hk).2), bw_tr f4 b9⟩
      obtain ⟨W10, hW10⟩ : ∃ W10, W10 = w9.alloc (.cells (Td.bookCells 0 (.slice none 0 0)) 81) := ⟨_, rfl⟩
      have K9 := hide (book_phase hF9.1 hF9.2.2.2 hF9.2.1 hF9.2.2.1 (by have := (unhide HKS).2; omega) (unhide HAP) (unhide HD) hW10)
      have HW10 := hide hW10
      clear K8 HF8 b9 hF9 hW10
      have hzero : ∀ w, (zeroValue 81).run Tryz.prog w = .ok (.agg (Td.bookCells 0 (.slice none 0 0))) w := fun w => by kernel_rfl
      go_upto_region 30 with fail
      rw [← unhide HW10]
      clear hzero HW10
      go_wp2_with fail
      refine (unhide K9).mono ?_
      rintro e w11 ⟨rfl, Q11⟩
      have HQ11 := hide Q11
      clear Q11 K9
      go_wp2_with fail
      refine (unhide HQ11).mono ?_
      rintro e w12 ⟨rfl, Q12⟩
      have HQ12 := hide Q12
      clear Q12 HQ11
      go_wp2_with fail
      refine (unhide HQ12).mono ?_
      rintro e w13 ⟨rfl, bel13, F13⟩
      have K13 := hide (F13.has1 (unhide HCK).2)
      rw [← unhide HKn] at K13
      have HB13 := hide bel13
      clear HQ12 F13 bel13
      go_wp2_with fail
      refine (unhide K13).mono ?_
      rintro e w14 ⟨xa, xc, rfl, x14, b14, F14⟩
      have K14 := hide (F14.has2 (unhide HCK).2)
      rw [← unhide HKn] at K14
      have HB14 := hide (bw_tr (unhide HB13) b14)
      have HX14 := hide x14
      clear K13 b14 F14 x14 HB13
      go_wp2_with fail
      refine (unhide K14).mono ?_
      rintro e w15 ⟨ya, yc, rfl, y15, b15, F15⟩
      have x15 : NRow w13.heap.size w15 (.slice xa Kn xc) (hasL s) := (unhide HX14).keep (fun k hk => b15.block k ((unhide HX14).lt k hk).2)
      have K15 := hide (F15.numbers x15 y15 (unhide HKn) (by have := (unhide HKS).2; have := unhide HKn; omega) (unhide HKS).1)
      have HB15 := hide (bw_tr (unhide HB14) b15)
      clear K14 y15 b15 F15 x15 HX14 HB14
      go_wp2_with fail
      refine (unhide K15).mono ?_
      rintro e w16 ⟨rfl, b16⟩
      have K16 := hide (unhide KE w16 (bw_tr (unhide HB15) b16))
      clear K15 b16 HB15
      go_wp2_with fail
      refine (unhide K16).mono ?_
      rintro e w17 ⟨rfl, b17⟩
      go_wp2
      go_ret
      exact ⟨rfl, b17⟩
end Go.Proofs.YtkaioidneknmjaaGreatDoor.Tn
