/- Texts joined: ChU ChV ChX ChAc ChW. -/
import Derived.Test.YtkaioidneknmjaaGreatDoorZ14
import Derived.Test.YtkaioidneknmjaaGreatDoorZ07
import Derived.Test.YtkaioidneknmjaaGreatDoorZ11
/- The document's Has. -/
namespace Go.Proofs.YtkaioidneknmjaaGreatDoor.Tn
open Go.RowKit Go.Maps

/-- The keys of the numbers below one. -/
def kbl (l : Lfs) (n : Nat) : List Nat := (l.filter fun p => decide (p.1 < n)).map (·.2)
theorem kbl_all {nx : Nat} {l : Lfs} (h : Lf nx l) : kbl l nx = l.map (·.2) := by
  unfold kbl
  rw [List.filter_eq_self.2 (fun p hp => decide_eq_true (h.lt p hp))]
/-- Of the first i rows those of the number n. -/
def kat (l : Lfs) (n i : Nat) : List Nat := ((l.take i).filter fun p => decide (p.1 = n)).map (·.2)
theorem kat_zero (l : Lfs) (n : Nat) : kat l n 0 = [] := rfl
theorem kat_hit {l : Lfs} {n i : Nat} {p : Nat × Nat} (hp : l[i]? = some p) (h : p.1 = n) : kat l n (i + 1) = kat l n i ++ [p.2] := by
  unfold kat
  rw [List.take_add_one, hp, List.filter_append, List.map_append]
  simp [h]
theorem kat_miss {l : Lfs} {n i : Nat} {p : Nat × Nat} (hp : l[i]? = some p) (h : p.1 ≠ n) : kat l n (i + 1) = kat l n i := by
  unfold kat
  rw [List.take_add_one, hp, List.filter_append, List.map_append]
  simp [h]
theorem kbl_succ {nx : Nat} {l : Lfs} (h : Lf nx l) (n : Nat) : kbl l (n + 1) = kbl l n ++ kat l n l.length := by
  obtain ⟨up, -⟩ := h
  unfold kbl kat
  rw [List.take_of_length_le (Nat.le_refl _), ← List.map_append]
  congr 1
  induction l with
  | nil => rfl
  | cons p l ih =>
    have h1 := (List.pairwise_cons.1 up).1
    have ih := ih (List.pairwise_cons.1 up).2
    rw [List.filter_cons, List.filter_cons, List.filter_cons]
    by_cases c1 : p.1 < n
    · have c2 : p.1 < n + 1 := by omega
      have c3 : ¬ p.1 = n := by omega
      simp only [c1, c2, c3, decide_true, decide_false, if_true, Bool.false_eq_true, if_false, List.cons_append]
      rw [ih]
    · by_cases c2 : p.1 = n
      · have c3 : p.1 < n + 1 := by omega
        have e : l.filter (fun p => decide (p.1 < n)) = [] := List.filter_eq_nil_iff.2 (fun q hq => by have := h1 q hq; simp; omega)
        rw [e, List.nil_append] at ih
        simp only [c2, decide_true, decide_false, if_true, Bool.false_eq_true, if_false, e, List.nil_append, Nat.lt_irrefl, Nat.lt_succ_self]
        rw [ih]
      · have c3 : ¬ p.1 < n + 1 := by omega
        simp only [c1, c2, c3, decide_false, Bool.false_eq_true, if_false]
        exact ih
theorem kat_len (l : Lfs) (n i : Nat) : (kat l n i).length ≤ l.length := by
  unfold kat
  rw [List.length_map]
  exact Nat.le_trans (List.length_filter_le _ _) (by rw [List.length_take]; omega)
theorem kbl_len (l : Lfs) (n : Nat) : (kbl l n).length ≤ l.length := by
  unfold kbl
  rw [List.length_map]
  exact List.length_filter_le _ _
set_option maxRecDepth 100000 in
set_option maxHeartbeats 4000000 in
theorem rhas_at {W : World} {c b : Nat} {a : Option Addr} {N cap : Nat} {l : Lfs} {nx x : Nat} (h : Rn W c b (.slice a N cap) l nx x) (hlf : Lf nx l) (hN : N = l.length) (hll : N ≤ 64) (hnx : nx ≤ 1000000) :
    Calls Tryz.prog 13 #[.pointer (some ⟨c, 0, none⟩)] W fun e W' => ∃ v, e = .returned v ∧ NRow W.heap.size W' v (l.map (·.2) ++ [x]) ∧ Below W.heap.size W W' := by
  obtain ⟨j0, hj, hy0, hy1, hy2⟩ := info_parts Tryz.infoInt
  have HC : Hid (∀ W', Below W.heap.size W W' → W'.cell? ⟨c, 1, none⟩ = some (.int .i64 (x : Int)) ∧ W'.cell? ⟨c, 2, none⟩ = some (.int .i64 (nx : Int)) ∧ W'.cell? ⟨c, 3, none⟩ = some (.slice a N cap) ∧ ∀ (i : Nat) (p : Nat × Nat), l[i]? = some p → ∃ g, a = some ⟨g, 0, none⟩ ∧ W'.cell? ⟨g, i * 2, none⟩ = some (.int .i64 (p.1 : Int)) ∧ W'.cell? ⟨g, i * 2 + 1, none⟩ = some (.int .i64 (p.2 : Int))) := fun W' hb => by
    have h' : Rn W' c b (.slice a N cap) l nx x := h.keep (hb.block c (lt_of_blk h.blk)) (fun k hk => by obtain ⟨cur, e⟩ := h.row.kind hk; exact hb.block k (lt_of_blk e))
    refine ⟨blk_cell h'.blk rfl, blk_cell h'.blk rfl, blk_cell h'.blk rfl, fun i p hp => ?_⟩
    obtain ⟨g, e, -, z0, z1, -⟩ := h'.row.cells hp
    exact ⟨g, e, z0, z1⟩
  have HK : Hid (kbl l 0 = [] ∧ (∀ n, kbl l (n + 1) = kbl l n ++ kat l n N) ∧ kbl l nx = l.map (·.2) ∧ (∀ n i, (kbl l n ++ kat l n i).length ≤ 200)) := ⟨by unfold kbl; rw [List.filter_eq_nil_iff.2 (fun q _ => by simp)]; rfl, fun n => by rw [hN]; exact kbl_succ hlf n, kbl_all hlf, fun n i => by rw [List.length_append]; have := kbl_len l n; have := kat_len l n i; omega⟩
  have HN := hide hN
  have hnI : (N : Int) ≤ 64 := by omega
  have hxI : (nx : Int) ≤ 1000000 := by omega
  clear h hlf hll hnx hN
  go_enter Tryz.func13, Tryz.ntmps13
  go_wp2_with fail
  go_loopw [3, 4] (fun lv nv wr => ∃ n : Nat, nv = .int .i64 (n : Int) ∧ n ≤ nx ∧ Hid (NRow W.heap.size wr lv (kbl l n) ∧ Below W.heap.size W wr)) (fun _ nv _ => (nx - intOf nv).toNat)
  case atStart => exact ⟨0, rfl, by omega, by unfold Hid; rw [(unhide HK).1]; exact ⟨NRow.nil _ _, Below.refl _ _⟩⟩
  case round =>
    obtain ⟨n, rfl, hn, HR⟩ := hrel
    obtain ⟨d1, d2, d3, -⟩ := unhide HC _ (unhide HR).2
    by_cases hlt : n < nx
    · have q1 : (n : Int) < (nx : Int) := by omega
      have q0 : (0 : Int) ≤ (n : Int) := by omega
      have HR0 : Hid (NRow W.heap.size wr u3 (kbl l n ++ kat l n 0) ∧ Below W.heap.size W wr) := by unfold Hid; rw [kat_zero, List.append_nil]; exact unhide HR
      clear HR d1 d3
      go_wp2_with fail
      go_loopw [3, 5] (fun lv iv wq => ∃ i : Nat, iv = .int .i64 (i : Int) ∧ i ≤ N ∧ Hid (NRow W.heap.size wq lv (kbl l n ++ kat l n i) ∧ Below W.heap.size W wq)) (fun _ iv _ => (N - intOf iv).toNat)
      case atStart => exact ⟨0, rfl, by omega, HR0⟩
      case round =>
        clear HR0 d2
        obtain ⟨i, rfl, hi, HR⟩ := hrel
        obtain ⟨d1, d2, d3, d4⟩ := unhide HC _ (unhide HR).2
        clear d1 d2
        by_cases hil : i < N
        · obtain ⟨p, hp⟩ : ∃ p, l[i]? = some p := ⟨_, List.getElem?_eq_getElem (by rw [← unhide HN]; exact hil)⟩
          obtain ⟨g, rfl, z0, z1⟩ := d4 i p hp
          have r1 : (i : Int) < (N : Int) := by omega
          have r0 : (0 : Int) ≤ (i : Int) := by omega
          by_cases hpn : p.1 = n
          · have hs := kat_hit hp hpn
            have e1 : ((p.1 : Int)) = (n : Int) := by omega
            rw [e1] at z0
            obtain ⟨p2, hp2⟩ : ∃ p2, p2 = p.2 := ⟨_, rfl⟩
            rw [← hp2] at z1 hs
            obtain ⟨cur, hcur⟩ : ∃ cur, cur = kbl l n ++ kat l n i := ⟨_, rfl⟩
            have hsn : Hid (kbl l n ++ kat l n (i + 1) = cur ++ [p2]) := by unfold Hid; rw [hs, hcur, List.append_assoc]
            have hcl : cur.length ≤ 200 := by rw [hcur]; exact (unhide HK).2.2.2 n i
            rw [← hcur] at HR
            obtain ⟨M, hM⟩ : ∃ M, M = cur.length := ⟨_, rfl⟩
            have hrow : wr.ownsRow W.heap.size 3 1 u3 M (cur.map (fun m => .int .i64 ((m : Nat) : Int))) := by have := (unhide HR).1; unfold NRow at this; rw [← hM] at this; exact this
            have hMI : M ≤ 200 := by omega
            have hsz := (unhide HR).2.size
            have HM := hide hM
            clear hs hcur hcl hM hp hp2 d4 hpn e1
            go_wp2_with (at_builtin; refine wpList_append_own _ rfl (.tmp 33) (.tmp 42) 23 rfl W.heap.size 3 j0 (.int .i64 0) 1 8 Tryz.underlying23 hj hy0 hy1 hy2 rfl (by decide) _ M _ rfl (World.ownsRow.alloc hrow _) ⟨wr.heap.size, 0, none⟩ 1 1 [_] rfl rfl (cell_one_new _ _ _) ?c2 ?c3 ?c4 ?c5 ?nx)
            case c2 => intro u hu; simp at hu; subst hu; rfl
            case c3 => unfold maxLen; omega
            case c4 => omega
            case c5 => simp; omega
            case nx =>
              intro v' w4 hown' hgrow _
              have R := nrow_snoc p2 (unhide HR).2 (unhide HR).1 (by rw [← unhide HM]; exact hown') hgrow
              rw [← unhide hsn] at R
              have HR2 := hide R
              clear hown' hgrow R hrow HR d3 z0 z1
              go_wp2_with fail
              go_roundw
              case rel => exact ⟨i + 1, by go_num, by omega, HR2⟩
              case measure => simp only [intOf]; omega
          · have hs := kat_miss hp hpn
            have e1 : decide ((p.1 : Int) = (n : Int)) = false := decide_eq_false (by omega)
            have e2 : ((p.1 : Int) == (n : Int)) = false := by simp; omega
            have HR2 : Hid (NRow W.heap.size wr u3 (kbl l n ++ kat l n (i + 1)) ∧ Below W.heap.size W wr) := by unfold Hid; rw [hs]; exact unhide HR
            clear hs HR hp d4 hpn z1
            go_wp2_with fail
            go_roundw
            case rel => exact ⟨i + 1, by go_num, by omega, HR2⟩
            case measure => simp only [intOf]; omega
        · have hie : i = N := by omega
          subst hie
          have HR2 : Hid (NRow W.heap.size wr u3 (kbl l (n + 1)) ∧ Below W.heap.size W wr) := by unfold Hid; rw [(unhide HK).2.1 n]; exact unhide HR
          clear HR hil hi d4
          go_wp2_with fail
          go_roundw
          case rel => exact ⟨n + 1, by go_num, by omega, HR2⟩
          case measure => simp only [intOf]; omega
    · have hne : n = nx := by omega
      subst hne
      rw [(unhide HK).2.2.1] at HR
      obtain ⟨cur, hcur⟩ : ∃ cur, cur = l.map (·.2) := ⟨_, rfl⟩
      rw [← hcur] at HR
      obtain ⟨M, hM⟩ : ∃ M, M = cur.length := ⟨_, rfl⟩
      have hrow : wr.ownsRow W.heap.size 3 1 u3 M (cur.map (fun m => .int .i64 ((m : Nat) : Int))) := by have := (unhide HR).1; unfold NRow at this; rw [← hM] at this; exact this
      have hMI : M ≤ 200 := by rw [hM, hcur, List.length_map, ← unhide HN]; omega
      have hsz := (unhide HR).2.size
      have HM := hide hM
      have HCu := hide hcur
      clear hlt hn d3 hM hcur
      go_wp2_with (at_builtin; refine wpList_append_own _ rfl (.tmp 44) (.tmp 49) 23 rfl W.heap.size 3 j0 (.int .i64 0) 1 8 Tryz.underlying23 hj hy0 hy1 hy2 rfl (by decide) _ M _ rfl (World.ownsRow.alloc hrow _) ⟨wr.heap.size, 0, none⟩ 1 1 [_] rfl rfl (cell_one_new _ _ _) ?c2 ?c3 ?c4 ?c5 ?nx)
      case c2 => intro u hu; simp at hu; subst hu; rfl
      case c3 => unfold maxLen; omega
      case c4 => omega
      case c5 => simp; omega
      case nx =>
        intro v' w4 hown' hgrow _
        have R := nrow_snoc x (unhide HR).2 (unhide HR).1 (by rw [← unhide HM]; exact hown') hgrow
        rw [unhide HCu] at R
        have HR2 := hide R
        clear hown' hgrow R hrow HR d1 d2
        go_wp2
        go_ret
        exact ⟨v', rfl, (unhide HR2).1, (unhide HR2).2⟩
end Go.Proofs.YtkaioidneknmjaaGreatDoor.Tn

/- Map.Numbers of equal rows. -/
namespace Go.Proofs.YtkaioidneknmjaaGreatDoor.Tn
open Go.RowKit Go.Maps

set_option maxRecDepth 100000 in
set_option maxHeartbeats 4000000 in
theorem mnumbers_same {W : World} {mp : Nat} {a1 a2 : Option Addr} {n c1 c2 B1 B2 : Nat} {ks : List Nat} (h1 : NRow B1 W (.slice a1 n c1) ks) (h2 : NRow B2 W (.slice a2 n c2) ks) (hn : n = ks.length) (hb : n ≤ 1000)
    (hS : ∀ W', Below W.heap.size W W' → ∀ k ∈ ks, Calls Tryz.prog 35 #[.pointer (some ⟨mp, 0, none⟩), .int .i64 (k : Int), .int .i64 (k : Int)] W' fun e w' => e = .returned (.bool true) ∧ w' = W') :
    Calls Tryz.prog 12 #[.pointer (some ⟨mp, 0, none⟩), .slice a1 n c1, .slice a2 n c2] W fun e w' => e = .returned (.bool true) ∧ Below W.heap.size W w' := by
  have HJ : Hid (∀ (j : Nat), j < n → ∃ (g1 g2 k : Nat), a1 = some ⟨g1, 0, none⟩ ∧ a2 = some ⟨g2, 0, none⟩ ∧ k ∈ ks ∧ ∀ W', Below W.heap.size W W' → W'.cell? ⟨g1, j, none⟩ = some (.int .i64 (k : Int)) ∧ W'.cell? ⟨g2, j, none⟩ = some (.int .i64 (k : Int))) := fun j hj => by
    obtain ⟨k, hk⟩ : ∃ k, ks[j]? = some k := ⟨_, List.getElem?_eq_getElem (by omega)⟩
    obtain ⟨g1, cp1, e1, -⟩ := own_open h1 (by omega)
    obtain ⟨g2, cp2, e2, -⟩ := own_open h2 (by omega)
    simp only [Value.slice.injEq] at e1 e2
    obtain ⟨rfl, -, -⟩ := e1
    obtain ⟨rfl, -, -⟩ := e2
    refine ⟨g1, g2, k, rfl, rfl, List.mem_of_getElem? hk, fun W' hb => ?_⟩
    have r1 : NRow B1 W' (.slice (some ⟨g1, 0, none⟩) n c1) ks := h1.keep (fun k hk => hb.block k (h1.lt k hk).2)
    have r2 : NRow B2 W' (.slice (some ⟨g2, 0, none⟩) n c2) ks := h2.keep (fun k hk => hb.block k (h2.lt k hk).2)
    exact ⟨r1.at rfl hk, r2.at rfl hk⟩
  have HS := hide hS
  have hnI : (n : Int) ≤ 1000 := by omega
  clear h1 h2 hn hb hS
  go_enter Tryz.func12, Tryz.ntmps12
  go_wp2_with fail
  go_loopw [7] (fun iv wr => ∃ j : Nat, iv = .int .i64 (j : Int) ∧ j ≤ n ∧ Hid (Below W.heap.size W wr)) (fun iv _ => (n - intOf iv).toNat)
  case atStart => exact ⟨0, rfl, by omega, Below.refl _ _⟩
  case round =>
    obtain ⟨j, rfl, hj, HB⟩ := hrel
    by_cases hlt : j < n
    · obtain ⟨g1, g2, k, rfl, rfl, hk, hc⟩ := unhide HJ j hlt
      have b1 : Below W.heap.size W wr.drew := (unhide HB).drew
      obtain ⟨x1, x2⟩ := hc _ (unhide HB)
      obtain ⟨y1, y2⟩ := hc _ b1
      have K := hide (unhide HS _ b1 k hk)
      have HB1 := hide b1
      have qj : (j : Int) < (n : Int) := by omega
      have qj0 : (0 : Int) ≤ (j : Int) := by omega
      clear hc hk HB b1
      go_upto_region 6 with fail
      go_region_law ((go_simp; go_wp2_with (first | (go_at_call 35; refine (unhide K).mono ?_; rintro e_ zz ⟨rfl, rfl⟩))))
      all_goals
        go_wp2_with fail
        go_roundw
        case rel => exact ⟨j + 1, by go_num, by omega, HB1⟩
        case measure => simp only [intOf]; omega
    · have hje : j = n := by omega
      subst hje
      clear HJ HS hlt hj
      go_wp2
      go_ret
      exact ⟨rfl, unhide HB⟩
end Go.Proofs.YtkaioidneknmjaaGreatDoor.Tn

/- The document's Take, whatever comes of it; New and Has of it beside other things. -/
namespace Go.Proofs.YtkaioidneknmjaaGreatDoor.Tn
open Go.RowKit Go.Maps

set_option maxRecDepth 100000 in
set_option maxHeartbeats 4000000 in
theorem rtake_neg (W : World) (c : Nat) (n : Int) (hn : n < 0) :
    Calls Tryz.prog 10 #[.pointer (some ⟨c, 0, none⟩), .int .i64 n] W fun e W' => e = .returned (.tuple #[.int .i64 0, .int .i64 1]) ∧ W' = W := by
  have hn' : decide (n < 0) = true := decide_eq_true hn
  go_enter Tryz.func10, Tryz.ntmps10
  go_wp2
  go_ret2
  exact ⟨rfl, rfl⟩
theorem Lf.fst {nx : Nat} {l : Lfs} (h : Lf nx l) {i : Nat} {p : Nat × Nat} (hp : l[i]? = some p) : ∀ (j : Nat) (q : Nat × Nat), j < i → l[j]? = some q → q.1 ≠ p.1 := fun j q hj hq => by
  obtain ⟨h1, e1⟩ := List.getElem?_eq_some_iff.1 hp
  obtain ⟨h2, e2⟩ := List.getElem?_eq_some_iff.1 hq
  have := List.pairwise_iff_getElem.1 h.up j i h2 h1 hj
  rw [e1, e2] at this
  omega
theorem rtake_any {w : World × List Nat} {W : World} {c b : Nat} {s : Cst} (h : RC w W c b s) (hk : Cok s 1000000) (n : Int) (hn : i64r n) :
    Calls Tryz.prog 10 #[.pointer (some ⟨c, 0, none⟩), .int .i64 n] W fun e W' => e = .returned (.tuple #[.int .i64 (s.ans n), .int .i64 (tkE s.l s.nx n)]) ∧ RC w W' c b (s.take n) := by
  obtain ⟨sv, lv, hr⟩ := h
  by_cases t0 : n < 0
  · have q : decide (0 ≤ n) = false := decide_eq_false (by omega)
    have q2 : tkG s.l s.nx n = false := by unfold tkG; rw [q]; rfl
    have e : s.take n = s := by unfold Cst.take; rw [q, q2]; rfl
    have e2 : s.ans n = 0 := by unfold Cst.ans; rw [q, q2]; rfl
    have e3 : tkE s.l s.nx n = 1 := by unfold tkE; rw [if_pos t0]
    rw [e, e2, e3]
    refine (rtake_neg W c n t0).mono ?_
    rintro e' W' ⟨h1, rfl⟩
    exact ⟨h1, sv, lv, hr⟩
  obtain ⟨t, rfl⟩ : ∃ k : Nat, n = k := ⟨n.toNat, by omega⟩
  have q : decide (0 ≤ (t : Int)) = true := decide_eq_true (by omega)
  obtain ⟨a, cap, rfl⟩ : ∃ a cap, lv = .slice a s.l.length cap := own_slice hr.cn.row
  cases hsome : lkp s.l (t : Int) with
  | some v =>
    have e : s.take t = { s with l := rmv s.l t } := by unfold Cst.take; rw [q, hsome]; rfl
    have e2 : s.ans t = (v : Int) := by unfold Cst.ans lkV; rw [q, hsome]; rfl
    have e3 : tkE s.l s.nx t = 0 := by unfold tkE; rw [if_neg t0, hsome]; rfl
    obtain ⟨p, hp, p1, p2⟩ := lkp_some hsome
    obtain ⟨i, hi⟩ := List.mem_iff_getElem?.1 hp
    have p3 : p.1 = t := by omega
    have := rtake_found hr hk.lf rfl hk.ll hi (hk.lf.fst hi)
    rw [p3, p2] at this
    rw [e, e2, e3]
    refine this.mono ?_
    rintro e' W' ⟨h1, lv', h2⟩
    exact ⟨h1, sv, lv', h2⟩
  | none =>
    have hmiss : ∀ (j : Nat) (q : Nat × Nat), s.l[j]? = some q → q.1 ≠ t := fun j q hq c => by
      have := lkp_at hk.lf hq
      rw [c, hsome] at this
      cases this
    refine (rtake_miss hr hk.g hk.lf rfl hk.ll t hmiss hn.2 hk.len hk.nx).mono ?_
    have hll := hk.ll
    rintro e' W' (⟨h1, h2, h3⟩ | ⟨h1, h0, h2, h3⟩ | ⟨d, h1, h0, h2, sv', lv', h3⟩)
    · have q2 : tkG s.l s.nx t = false := by
        have : decide ((s.nx : Int) ≤ (t : Int)) = false := decide_eq_false (by omega)
        unfold tkG; rw [this]; simp
      have e : s.take t = s := by unfold Cst.take; rw [q, hsome, q2]; rfl
      have e2 : s.ans t = 0 := by unfold Cst.ans; rw [q, hsome, q2]; rfl
      have e3 : tkE s.l s.nx t = 10 := by unfold tkE; rw [if_neg t0, hsome, if_neg (by simp), if_pos (by omega)]
      rw [e, e2, e3]
      exact ⟨h2, _, _, h3⟩
    · have q2 : tkG s.l s.nx t = false := by
        have : decide ((t : Int) - (s.nx : Int) + (s.l.length : Int) ≤ 64) = false := decide_eq_false (by omega)
        unfold tkG; rw [this]; simp
      have e : s.take t = s := by unfold Cst.take; rw [q, hsome, q2]; rfl
      have e2 : s.ans t = 0 := by unfold Cst.ans; rw [q, hsome, q2]; rfl
      have e3 : tkE s.l s.nx t = 3 := by unfold tkE; rw [if_neg t0, hsome, if_neg (by simp), if_neg (by omega), if_pos (by omega)]
      rw [e, e2, e3]
      exact ⟨h2, _, _, h3⟩
    · have q2 : tkG s.l s.nx t = true := by
        unfold tkG; rw [hsome, q, decide_eq_true (show (s.nx : Int) ≤ (t : Int) by omega), decide_eq_true (show (t : Int) - (s.nx : Int) + (s.l.length : Int) ≤ 64 by omega)]; rfl
      have hd : ((t : Int) - (s.nx : Int)).toNat = d := by omega
      have e : s.take t = s.goes d := by unfold Cst.take; rw [q, hsome, q2, hd]; rfl
      have e2 : s.ans t = ((kyS (wkS (s.L, s.x) d)).2 : Nat) := by unfold Cst.ans; rw [q, hsome, q2, hd]; rfl
      have e3 : tkE s.l s.nx t = 0 := by unfold tkE; rw [if_neg t0, hsome, if_neg (by simp), if_neg (by omega), if_neg (by omega)]
      rw [e, e2, e3]
      exact ⟨h2, sv', lv', h3⟩
/-- The document's chain beside other things. -/
def resRh (c b : Nat) (sv lv : Value) (s : Cst) : Res :=
  ⟨c :: (lv.ownBlock.toList ++ rfoot b sv), fun W => Rs W b sv s.L ∧ Rn W c b lv s.l s.nx s.x,
   fun w w' S h hf hd => ⟨h.1.keep hf (fun x hx => hd x (by simp [hx])), h.2.keep (hf.block c (lt_of_blk h.2.blk) (hd c (by simp))) (fun k hk => by obtain ⟨cur, e⟩ := h.2.row.kind hk; exact hf.block k (lt_of_blk e) (hd k (by simp [hk])))⟩,
   fun w h x hx => by
     simp only [List.mem_cons, List.mem_append, Option.mem_toList] at hx
     rcases hx with rfl | hx | hx
     · exact lt_of_blk h.2.blk
     · obtain ⟨cur, e⟩ := h.2.row.kind hx; exact lt_of_blk e
     · exact h.1.lt x hx⟩
def ERh (w W : World) (c b : Nat) (s : Cst) (rs : List Res) : Prop := ∃ sv lv, Env w W (resRh c b sv lv s :: rs)
theorem ERh.of {w W W' : World} {c b : Nat} {s' : Cst} {rs : List Res} {r : Res} (h : Env w W (r :: rs)) (hc : RC (W, r.Z) W' c b s') : ERh w W' c b s' rs := by
  obtain ⟨sv', lv', cs⟩ := hc
  exact ⟨sv', lv', h.step (r' := resRh c b sv' lv' s') cs.mv ⟨cs.st, cs.cn⟩⟩
theorem env_rtake {w W : World} {c b : Nat} {s : Cst} {rs : List Res} (h : ERh w W c b s rs) (hk : Cok s 1000000) (n : Int) (hn : i64r n) :
    Calls Tryz.prog 10 #[.pointer (some ⟨c, 0, none⟩), .int .i64 n] W fun e W' => e = .returned (.tuple #[.int .i64 (s.ans n), .int .i64 (tkE s.l s.nx n)]) ∧ ERh w W' c b (s.take n) rs := by
  obtain ⟨sv, lv, e⟩ := h
  obtain ⟨h1, h2⟩ := e.hd
  refine (rtake_any (w := (W, c :: (lv.ownBlock.toList ++ rfoot b sv))) ⟨sv, lv, h1, h2, Mv.refl _ _⟩ hk n hn).mono ?_
  rintro e' W' ⟨h4, h5⟩
  exact ⟨h4, ERh.of e h5⟩
theorem env_rnew {w W : World} {b : Nat} {sv : Value} {L : List Tm} {rs : List Res} (h : Env w W (resR b sv L :: rs)) (app snd : Int) (ha : thr L.length app = true) (hs : i64r snd) (hl : L.length + 2 ≤ 1048576) :
    Calls Tryz.prog 6 #[.pointer (some ⟨b, 0, none⟩), .int .i64 app, .int .i64 snd] W fun e W' => ∃ c, e = .returned (.tuple #[.pointer (some ⟨c, 0, none⟩), .int .i64 0]) ∧ ERh w W' c b ⟨(beg L app snd).1, [], 0, (beg L app snd).2⟩ rs := by
  refine (rnew_ok (L := L) h.hd app snd ha hs hl).mono ?_
  rintro e W' ⟨c, sv', h4, h5⟩
  exact ⟨c, h4, ERh.of h ⟨sv', _, h5⟩⟩
theorem env_rhas {w W : World} {c b : Nat} {s : Cst} {rs : List Res} (h : ERh w W c b s rs) (hk : Cok s 1000000) :
    Calls Tryz.prog 13 #[.pointer (some ⟨c, 0, none⟩)] W fun e W' => ∃ v, e = .returned v ∧ NRow W.heap.size W' v (s.l.map (·.2) ++ [s.x]) ∧ Below W.heap.size W W' ∧ ERh w W' c b s rs := by
  obtain ⟨sv, lv, e⟩ := h
  obtain ⟨h1, h2⟩ := e.hd
  obtain ⟨a, cap, rfl⟩ : ∃ a cap, lv = .slice a s.l.length cap := own_slice h2.row
  refine (rhas_at h2 hk.lf rfl hk.ll hk.nx).mono ?_
  rintro e' W' ⟨v, h4, h5, h6⟩
  exact ⟨v, h4, h5, h6, sv, _, e.new h6⟩
end Go.Proofs.YtkaioidneknmjaaGreatDoor.Tn

/- Across, with where the map lies. -/
namespace Go.Proofs.YtkaioidneknmjaaGreatDoor.Tn
open Go.RowKit Go.Maps

set_option maxRecDepth 100000 in
set_option maxHeartbeats 8000000 in
theorem acrosse_any (w wr : World) (b : Nat) (sv : Value) (mb rb : Nat) (rv : Value) (L R : List Tm) (h : Two w wr b sv mb rb rv L R) (hL : L.length ≤ 3000) (hR : R.length ≤ 3000) :
    Calls Tryz.prog 11 #[.pointer (some ⟨b, 0, none⟩), .pointer (some ⟨rb, 0, none⟩)] wr fun e w' => ∃ mp lv rv' R' ph, e = .returned (.tuple #[.pointer (some ⟨mp, 0, none⟩), .bool true]) ∧ Ac w w' b sv mb rb rv' L R' mp lv ph ∧ Acr L L.length R' ph ∧ (∃ x, R' = R ++ x) ∧ Ex wr w' rb rv rv' mp lv := by
  have S0 := Ac.start h
  have X0 := Ex.start wr rb rv
  obtain ⟨wr0, hwr0⟩ : ∃ wr0, wr0 = wr := ⟨_, rfl⟩
  have hG := h.st.good
  have A0 := acr_start h.rs.good L
  obtain ⟨j0, hj, hy0, hy1, hy2⟩ := info_parts Tryz.infoInt
  obtain ⟨N, hN⟩ : ∃ N, N = L.length := ⟨_, rfl⟩
  have hNb : (N : Int) ≤ 3000 := by omega
  have KL : ∀ W rv' R' mp lv ph, Ac w W b sv mb rb rv' L R' mp lv ph → Calls Tryz.prog 33 #[.pointer (some ⟨b, 0, none⟩)] W fun e w' => e = .returned (.int .i64 (N : Int)) ∧ w' = W := fun W rv' R' mp lv ph hA => by
    rw [hN]; exact len_any b sv mb L W hA.two.st
  have HH := hide (And.intro hN (And.intro hG (And.intro hR (And.intro S0 (And.intro A0 X0)))))
  have HKL := hide KL
  have KL0 := KL _ _ _ _ _ _ S0
  have HW := hide hwr0
  clear hG hN h hL hR S0 A0 KL X0 hwr0
  go_enter Tryz.func11, Tryz.ntmps11
  go_wp2_with fail
  refine KL0.mono ?_
  rintro e w1 ⟨rfl, rfl⟩
  have HS : Hid (Ac w ((wr.alloc (.cells #[.int .i64 0] 3)).alloc (.cells #[.slice (some ⟨wr.heap.size, 0, none⟩) 1 1] 112)) b sv mb rb rv L R (wr.heap.size + 1) (.slice (some ⟨wr.heap.size, 0, none⟩) 1 1) [0] ∧ Acr L 0 R [0] ∧ R.length ≤ 3000 + 0 ∧ (∃ x, R = R ++ x) ∧ Ex wr ((wr.alloc (.cells #[.int .i64 0] 3)).alloc (.cells #[.slice (some ⟨wr.heap.size, 0, none⟩) 1 1] 112)) rb rv rv (wr.heap.size + 1) (.slice (some ⟨wr.heap.size, 0, none⟩) 1 1)) := ⟨(unhide HH).2.2.2.1, (unhide HH).2.2.2.2.1, (unhide HH).2.2.1, ⟨[], by simp⟩, (unhide HH).2.2.2.2.2⟩
  clear KL0
  obtain ⟨mp, hmp⟩ : ∃ mp, mp = wr.heap.size + 1 := ⟨_, rfl⟩
  rw [← hmp] at HS ⊢
  have HS' : Hid (Ac w ((wr.alloc (.cells #[.int .i64 0] 3)).alloc (.cells #[.slice (some ⟨wr.heap.size, 0, none⟩) 1 1] 112)) b sv mb rb rv L R mp (.slice (some ⟨wr.heap.size, 0, none⟩) 1 1) [0] ∧ Acr L 0 R [0] ∧ R.length ≤ 3000 + 0 ∧ (∃ x, R = R ++ x) ∧ Ex wr0 ((wr.alloc (.cells #[.int .i64 0] 3)).alloc (.cells #[.slice (some ⟨wr.heap.size, 0, none⟩) 1 1] 112)) rb rv rv mp (.slice (some ⟨wr.heap.size, 0, none⟩) 1 1)) := by rw [unhide HW]; exact HS
  clear hmp HS
  go_wp2_with fail
  go_loopw [7] (fun iv wq => ∃ (i : Nat) (rv' lv : Value) (R' : List Tm) (ph : List Nat), i ≤ N ∧ iv = .int .i64 ((i : Int) + 1) ∧ Hid (Ac w wq b sv mb rb rv' L R' mp lv ph ∧ Acr L i R' ph ∧ R'.length ≤ 3000 + i ∧ (∃ x, R' = R ++ x) ∧ Ex wr0 wq rb rv rv' mp lv)) (fun iv _ => (N + 1 - intOf iv).toNat)
  case atStart => exact ⟨0, rv, _, R, [0], by omega, rfl, HS'⟩
  case round =>
    clear HS'
    obtain ⟨i, rv', lv, R', ph, hi, rfl, HS⟩ := hrel
    have KLw := unhide HKL wr _ _ _ _ _ (unhide HS).1
    by_cases hlt : i < N
    · obtain ⟨hAc, hAr, hRl, hx, hEx⟩ := unhide HS
      have HEX := hide hEx
      clear hEx
      obtain ⟨hN, hG, _⟩ := unhide HH
      have hi1 : 1 ≤ i + 1 := by omega
      have hi2 : i + 1 ≤ L.length := by omega
      obtain ⟨p1, p2⟩ := hG.parts hi1 hi2
      obtain ⟨ta, tb⟩ := hG.tmAt_parts hi1 hi2
      have hth : thr L.length ((i : Int) + 1) = true := thr_iff.2 (by omega)
      have eg : getT L ((i : Int) + 1) = tmAt L (i + 1) := by
        have : ((i : Int) + 1).toNat = i + 1 := by omega
        simp [getT, hth, this]
      have KG := get_any b sv mb L ((i : Int) + 1) wr hAc.two.st
      rw [hth, eg, ta, tb] at KG
      have hst := hAr.step hG (by omega) (by omega)
      have htok : (tmAt L (i + 1)).ok := hAc.two.st.fit _ (by
        have : L[i]? = some (tmAt L (i + 1)) := by simp [tmAt, List.getD, List.getElem?_eq_getElem (show i < L.length by omega)]
        exact List.mem_of_getElem? this)
      have hmok := mapT_ok (ph := ph) htok hAr.bound
      have emap : mapT ph (tmAt L (i + 1)) = ⟨(tmAt L (i + 1)).kd, (tmAt L (i + 1)).n, (ph.getD (pA L (i + 1)) 0 : Nat), (ph.getD (pB L (i + 1)) 0 : Nat)⟩ := rfl
      rw [emap] at hst hmok
      have hlen := hAr.len
      obtain ⟨g, cp, rfl, hgw⟩ := hAc.form (by omega)
      have hA1 : pA L (i + 1) < ph.length := by omega
      have hB1 : pB L (i + 1) < ph.length := by omega
      have HP := hide (And.intro hst (And.intro hmok (And.intro hlen (And.intro hA1 (And.intro hB1 (And.intro hx hRl))))))
      have HA := hide hAc
      have hphb : (ph.length : Int) ≤ 3001 := by omega
      have hlt' : (i : Int) < (N : Int) := by omega
      have eA : (pA L (i + 1) : Int) < (i : Int) + 1 := by omega
      have eB : (pB L (i + 1) : Int) < (i : Int) + 1 := by omega
      have eA2 : (pA L (i + 1) : Int) < (ph.length : Int) := by omega
      have eB2 : (pB L (i + 1) : Int) < (ph.length : Int) := by omega
      clear hN hG hi1 hi2 p1 p2 ta tb hth eg hst htok hmok emap hlen hA1 hB1 hx hAc hAr hRl HS hgw
      generalize (tmAt L (i + 1)).kd = kd at *
      generalize (tmAt L (i + 1)).n = nn at *
      generalize pA L (i + 1) = A at *
      generalize pB L (i + 1) = B at *
      generalize hfa : ph.getD A 0 = fa at *
      generalize hfb : ph.getD B 0 = fb at *
      have HF := hide (And.intro hfa hfb)
      clear hfa hfb
      go_wp2_with fail
      refine KLw.mono ?_
      rintro e w1 ⟨rfl, rfl⟩
      go_wp2_with fail
      refine KG.mono ?_
      rintro e w2 ⟨rfl, hb2⟩
      have A2 := (unhide HA).new hb2
      have HEX2 := hide ((unhide HEX).new hb2)
      clear HEX
      have HA2 := hide A2
      have cm := A2.cells.1
      have hmw := lt_of_blk A2.blk
      have cA := A2.at (unhide HP).2.2.2.1
      have cB := A2.at (unhide HP).2.2.2.2.1
      rw [(unhide HF).1] at cA
      rw [(unhide HF).2] at cB
      have hgw := lt_of_cell cA
      clear A2 KG KLw hb2 HA
      have zA : ¬ ((A : Int) < 0) := by omega
      have zB : ¬ ((B : Int) < 0) := by omega
      have dA : decide ((i : Int) + 1 ≤ (A : Int)) = false := decide_eq_false (by omega)
      have dB : decide ((i : Int) + 1 ≤ (B : Int)) = false := decide_eq_false (by omega)
      go_upto_region 10 with fail
      go_cut [54] from 54 to 62 (fun s54 wx => s54 = .pointer (some ⟨mp, 0, none⟩) ∧ Hid (Ac w wx b sv mb rb rv' L R' mp (.slice (some ⟨g, 0, none⟩) ph.length cp) ph ∧ wx.heap[w2.heap.size]? = some (.cells #[.int .u8 kd, .int .i64 nn, .int .i64 (fa : Int), .int .i64 (B : Int)] 89 (0, 0)) ∧ w2.heap.size < wx.heap.size ∧ Below w2.heap.size w2 wx))
      case first =>
        go_region_with fail
        all_goals
          go_wp2_with fail
          go_meet
          case rel =>
            exact ⟨rfl, (unhide HA2).new ((bw_alloc w2 _).drew), heap_alloc_new w2 _, by simp, (bw_alloc w2 _).drew⟩
      case rest =>
        obtain ⟨rfl, HC⟩ := hcut
        obtain ⟨hAc, hbk, hsz, hbl⟩ := unhide HC
        have y0 : wc.cell? ⟨w2.heap.size, 0, none⟩ = some (.int .u8 kd) := by simp [World.cell?, hbk]
        have y1 : wc.cell? ⟨w2.heap.size, 1, none⟩ = some (.int .i64 nn) := by simp [World.cell?, hbk]
        have y2 : wc.cell? ⟨w2.heap.size, 2, none⟩ = some (.int .i64 (fa : Int)) := by simp [World.cell?, hbk]
        have y3 : wc.cell? ⟨w2.heap.size, 3, none⟩ = some (.int .i64 (B : Int)) := by simp [World.cell?, hbk]
        have yf : ∀ j, wc.frozen? ⟨w2.heap.size, j, none⟩ = false := fun j => by simp [World.frozen?, hbk]
        have cm2 := hAc.cells.1
        have cB2 : wc.cell? ⟨g, B, none⟩ = some (.int .i64 (fb : Int)) := by
          have := hAc.at (unhide HP).2.2.2.2.1
          rw [(unhide HF).2] at this; exact this
        have hsb : (wc.setCell ⟨w2.heap.size, 3, none⟩ (.int .i64 (fb : Int))).heap[w2.heap.size]? = some (.cells #[.int .u8 kd, .int .i64 nn, .int .i64 (fa : Int), .int .i64 (fb : Int)] 89 (0, 0)) := by
          simp [World.setCell, Array.getElem?_modify, hbk]
        have HSB := hide hsb
        clear hAc hbk hsb cm cA cB dA dB zA zB eA eB hmw hgw
        go_upto_region 11 with fail
        go_cut [63] from 63 to 71 (fun s63 wx => s63 = .pointer (some ⟨mp, 0, none⟩) ∧ Hid (Ac w wx b sv mb rb rv' L R' mp (.slice (some ⟨g, 0, none⟩) ph.length cp) ph ∧ Below w2.heap.size w2 wx) ∧ wx.cell? ⟨w2.heap.size, 0, none⟩ = some (.int .u8 kd) ∧ wx.cell? ⟨w2.heap.size, 1, none⟩ = some (.int .i64 nn) ∧ wx.cell? ⟨w2.heap.size, 2, none⟩ = some (.int .i64 (fa : Int)) ∧ wx.cell? ⟨w2.heap.size, 3, none⟩ = some (.int .i64 (fb : Int)))
        case first =>
          go_region_with fail
          all_goals
            go_wp2_with fail
            go_meet
            case rel =>
              have hb9 : Below w2.heap.size w2 (wc.setCell ⟨w2.heap.size, 3, none⟩ (.int .i64 (fb : Int))).drew := ((unhide HC).2.2.2.setCell (by simp) _).drew
              have hk : ∀ W : World, W.heap = (wc.setCell ⟨w2.heap.size, 3, none⟩ (.int .i64 (fb : Int))).heap → W.cell? ⟨w2.heap.size, 0, none⟩ = some (.int .u8 kd) ∧ W.cell? ⟨w2.heap.size, 1, none⟩ = some (.int .i64 nn) ∧ W.cell? ⟨w2.heap.size, 2, none⟩ = some (.int .i64 (fa : Int)) ∧ W.cell? ⟨w2.heap.size, 3, none⟩ = some (.int .i64 (fb : Int)) := fun W e => by
                simp [World.cell?, e, unhide HSB]
              exact ⟨rfl, ⟨(unhide HA2).new hb9, hb9⟩, hk _ rfl⟩
        case rest =>
          clear y0 y1 y2 y3 yf cm2 cB2 HSB HC hsz hbl HA2
          obtain ⟨rfl, HD, y0, y1, y2, y3⟩ := hcut
          have hD := (unhide HD).1
          have HE3 := hide ((unhide HEX2).new (unhide HD).2)
          have KM := rmake_any rb rv' R' ⟨kd, nn, fa, fb⟩ _ hD.two.rs (unhide HP).2.1
          rw [(unhide HP).1.1] at KM
          simp only at KM
          have hnb := mkN_bd hD.two.rs.good ⟨kd, nn, fa, fb⟩
          obtain ⟨hst, _, hlen, _, _, hx, hRl⟩ := unhide HP
          have hR2 : (mkL R' ⟨kd, nn, fa, fb⟩).length ≤ 3000 + (i + 1) := by have := mkL_len R' ⟨kd, nn, fa, fb⟩; omega
          have hx2 : ∃ x, mkL R' ⟨kd, nn, fa, fb⟩ = R ++ x := by
            obtain ⟨x, hx⟩ := hx
            obtain ⟨r, hr⟩ := mkL_prefix R' ⟨kd, nn, fa, fb⟩
            exact ⟨x ++ r, by rw [hr, hx, List.append_assoc]⟩
          have HP2 := hide (And.intro hst.2 (And.intro hR2 hx2))
          have hnb2 : 0 ≤ ((mkN R' ⟨kd, nn, fa, fb⟩ : Nat) : Int) := by omega
          clear hD hst hlen hx hRl hR2 hx2 HP
          generalize mkN R' ⟨kd, nn, fa, fb⟩ = kn at *
          generalize mkL R' ⟨kd, nn, fa, fb⟩ = R2 at *
          go_wp2_with fail
          refine KM.mono ?_
          rintro e w5 ⟨rfl, rv2, s5⟩
          have A5 := (unhide HD).1.stepR s5
          have HE5 := hide ((unhide HE3).stepR s5)
          have cm5 := A5.cells.1
          have hmw := lt_of_blk A5.blk
          have hrow : w5.ownsRow 0 3 1 (.slice (some ⟨g, 0, none⟩) ph.length cp) ph.length (ph.map (fun m => .int .i64 ((m : Nat) : Int))) := A5.row
          have HA5 := hide A5
          clear A5 s5 KM HD y0 y1 y2 y3
          go_wp2_with (at_builtin; refine wpList_append_own_at _ rfl (.tmp 84) (.tmp 86) 23 rfl 0 3 j0 (.int .i64 0) 1 8 Tryz.underlying23 hj hy0 hy1 hy2 rfl (by decide) _ ph.length _ rfl (World.ownsRow.alloc hrow _) ⟨w5.heap.size, 0, none⟩ 1 1 [_] rfl rfl (cell_one_new _ _ _) ?c2 ?c3 ?c4 ?c5 ?nx)
          case c2 => intro u hu; simp at hu; subst hu; rfl
          case c3 => unfold maxLen; omega
          case c4 => omega
          case c5 => exact Nat.zero_le _
          case nx =>
            intro v' w6 hown' hgrow _ hat
            obtain ⟨q1, q2, A6⟩ := (unhide HA5).push hown' hgrow (by simpa using hat)
            have E6 := (unhide HE5).push hgrow (by simpa using hat)
            obtain ⟨g', cap', rfl⟩ := own_form hown'
            have HR : Hid (Ac w (w6.setCell ⟨mp, 0, none⟩ (.slice (some ⟨g', 0, none⟩) (ph.length + 1) cap')) b sv mb rb rv2 L R2 mp (.slice (some ⟨g', 0, none⟩) (ph.length + 1) cap') (ph ++ [kn]) ∧ Acr L (i + 1) R2 (ph ++ [kn]) ∧ R2.length ≤ 3000 + (i + 1) ∧ (∃ x, R2 = R ++ x) ∧ Ex wr0 (w6.setCell ⟨mp, 0, none⟩ (.slice (some ⟨g', 0, none⟩) (ph.length + 1) cap')) rb rv rv2 mp (.slice (some ⟨g', 0, none⟩) (ph.length + 1) cap')) := ⟨A6, (unhide HP2).1, (unhide HP2).2.1, (unhide HP2).2.2, E6⟩
            clear A6 E6 hown' hgrow hat HA5 HP2 hrow
            go_wp2_with fail
            go_roundw
            case rel => exact ⟨i + 1, rv2, _, R2, ph ++ [kn], by omega, by go_num, HR⟩
            case measure => simp only [intOf]; omega
    · obtain rfl : i = N := by omega
      clear hlt hi
      go_wp2_with fail
      refine KLw.mono ?_
      rintro e w1 ⟨rfl, rfl⟩
      go_wp2_with fail
      go_ret2
      obtain ⟨hAc, hAr, hRl, hx, hEx⟩ := unhide HS
      rw [(unhide HH).1] at hAr
      exact ⟨mp, lv, rv', R', ph, rfl, hAc, hAr, hx, by have := hEx; rw [unhide HW] at this; exact this⟩

end Go.Proofs.YtkaioidneknmjaaGreatDoor.Tn

/- ChainPlays: what the law keeps while it takes. -/
namespace Go.Proofs.YtkaioidneknmjaaGreatDoor.Tn
open Go.RowKit Go.Maps

theorem Env.perm {w W : World} {rs rs' : List Res} (h : Env w W rs) (hp : rs.Perm rs') : Env w W rs' :=
  ⟨h.bel, fun r hr => h.hold r (hp.mem_iff.2 hr), fun r hr => h.low r (hp.mem_iff.2 hr), (hp.pairwise_iff (fun {_ _} hd x hx c => hd x c hx)).1 h.dis⟩
theorem Env.growN2 {w W W5 : World} {v v' : Value} {l : List Nat} {x : Nat} {rs : List Res} {ob : Obj} (h : Env w W (resN v l :: rs)) (hown : W5.ownsRow 0 3 1 v' (l.length + 1) (l.map (fun m => .int .i64 ((m : Nat) : Int)) ++ [.int .i64 (x : Int)])) (hg : (W.alloc ob).grownBy W5 v.ownBlock) (hat : v'.ownBlock = v.ownBlock ∨ v'.ownBlock = some (W.alloc ob).heap.size) : Env w W5 (resN v' (l ++ [x]) :: rs) := by
  have k := Nw.grown (x := [x]) (show NRow 0 W v l from h.hd) (Below.refl _ _) hown hg (by simpa using hat)
  exact h.step (r' := resN v' (l ++ [x])) ⟨k.fr, fun y hy => (k.pl y (by simpa [resN] using hy)).imp (fun c => by simpa [resN] using c) id⟩ k.row
/-- Both chains, and the rows of what they gave. -/
structure EP (w W : World) (c b mb c2 b2 : Nat) (s1 s2 : Cst) (va vb : Value) (xs ys : List Nat) : Prop where
  e : ∃ lm sv sv2 lv2, Env w W [resCh c b mb lm sv s1, resRh c2 b2 sv2 lv2 s2, resN va xs, resN vb ys]
section
variable {w W W' W5 : World} {c b mb c2 b2 : Nat} {s s1 s2 : Cst} {va vb v' : Value} {xs ys : List Nat} {x : Nat} {ob : Obj}
theorem EP.bel (h : EP w W c b mb c2 b2 s1 s2 va vb xs ys) : Below w.heap.size w W := by obtain ⟨_, _, _, _, e⟩ := h.e; exact e.bel
theorem EP.new (h : EP w W c b mb c2 b2 s1 s2 va vb xs ys) (hb : Below W.heap.size W W') : EP w W' c b mb c2 b2 s1 s2 va vb xs ys := by obtain ⟨lm, sv, sv2, lv2, e⟩ := h.e; exact ⟨lm, sv, sv2, lv2, e.new hb⟩
theorem EP.rowA (h : EP w W c b mb c2 b2 s1 s2 va vb xs ys) : NRow 0 W va xs := by obtain ⟨_, _, _, _, e⟩ := h.e; exact e.hold (resN va xs) (by simp)
theorem EP.rowB (h : EP w W c b mb c2 b2 s1 s2 va vb xs ys) : NRow 0 W vb ys := by obtain ⟨_, _, _, _, e⟩ := h.e; exact e.hold (resN vb ys) (by simp)
theorem EP.take1 (h : EP w W c b mb c2 b2 s1 s2 va vb xs ys) (hk : Cok s1 1000000) (n : Int) (hn : i64r n) :
    Calls Tryz.prog 7 #[.pointer (some ⟨c, 0, none⟩), .int .i64 n] W fun e W' => e = .returned (.tuple #[.int .i64 (s1.ans n), .int .i64 (tkE s1.l s1.nx n)]) ∧ EP w W' c b mb c2 b2 (s1.take n) s2 va vb xs ys := by
  obtain ⟨lm, sv, sv2, lv2, e⟩ := h.e
  refine (env_take (rs := [resRh c2 b2 sv2 lv2 s2, resN va xs, resN vb ys]) ⟨lm, sv, e⟩ hk n hn).mono ?_
  rintro e' W' ⟨h1, lm', sv', h2⟩
  exact ⟨h1, lm', sv', sv2, lv2, h2⟩
theorem EP.take2 (h : EP w W c b mb c2 b2 s1 s2 va vb xs ys) (hk : Cok s2 1000000) (n : Int) (hn : i64r n) :
    Calls Tryz.prog 10 #[.pointer (some ⟨c2, 0, none⟩), .int .i64 n] W fun e W' => e = .returned (.tuple #[.int .i64 (s2.ans n), .int .i64 (tkE s2.l s2.nx n)]) ∧ EP w W' c b mb c2 b2 s1 (s2.take n) va vb xs ys := by
  obtain ⟨lm, sv, sv2, lv2, e⟩ := h.e
  refine (env_rtake (rs := [resCh c b mb lm sv s1, resN va xs, resN vb ys]) ⟨sv2, lv2, e.swap⟩ hk n hn).mono ?_
  rintro e' W' ⟨h1, sv', lv', h2⟩
  exact ⟨h1, lm, sv, sv', lv', h2.swap⟩
theorem EP.growA (h : EP w W c b mb c2 b2 s1 s2 va vb xs ys) (hown : W5.ownsRow 0 3 1 v' (xs.length + 1) (xs.map (fun m => .int .i64 ((m : Nat) : Int)) ++ [.int .i64 (x : Int)])) (hg : (W.alloc ob).grownBy W5 va.ownBlock) (hat : v'.ownBlock = va.ownBlock ∨ v'.ownBlock = some (W.alloc ob).heap.size) : EP w W5 c b mb c2 b2 s1 s2 v' vb (xs ++ [x]) ys := by
  obtain ⟨lm, sv, sv2, lv2, e⟩ := h.e
  have e1 := e.perm (rs' := [resN va xs, resCh c b mb lm sv s1, resRh c2 b2 sv2 lv2 s2, resN vb ys]) ((List.perm_middle (l₁ := [resCh c b mb lm sv s1, resRh c2 b2 sv2 lv2 s2]) (a := resN va xs) (l₂ := [resN vb ys])))
  have e2 := e1.growN2 hown hg hat
  exact ⟨lm, sv, sv2, lv2, e2.perm ((List.perm_middle (l₁ := [resCh c b mb lm sv s1, resRh c2 b2 sv2 lv2 s2]) (a := resN v' (xs ++ [x])) (l₂ := [resN vb ys])).symm)⟩
theorem EP.growB (h : EP w W c b mb c2 b2 s1 s2 va vb xs ys) (hown : W5.ownsRow 0 3 1 v' (ys.length + 1) (ys.map (fun m => .int .i64 ((m : Nat) : Int)) ++ [.int .i64 (x : Int)])) (hg : (W.alloc ob).grownBy W5 vb.ownBlock) (hat : v'.ownBlock = vb.ownBlock ∨ v'.ownBlock = some (W.alloc ob).heap.size) : EP w W5 c b mb c2 b2 s1 s2 va v' xs (ys ++ [x]) := by
  obtain ⟨lm, sv, sv2, lv2, e⟩ := h.e
  have e1 := e.perm (rs' := [resN vb ys, resCh c b mb lm sv s1, resRh c2 b2 sv2 lv2 s2, resN va xs]) ((List.perm_middle (l₁ := [resCh c b mb lm sv s1, resRh c2 b2 sv2 lv2 s2, resN va xs]) (a := resN vb ys) (l₂ := [])))
  have e2 := e1.growN2 hown hg hat
  exact ⟨lm, sv, sv2, lv2, e2.perm ((List.perm_middle (l₁ := [resCh c b mb lm sv s1, resRh c2 b2 sv2 lv2 s2, resN va xs]) (a := resN v' (ys ++ [x])) (l₂ := [])).symm)⟩
/-- From both stores on. -/
theorem ep_start {b : Nat} {sv : Value} {mb rb : Nat} {rv : Value} {L : List Tm} {p : List Tm × Nat} (h : Env w W [resS b sv mb L, resR rb rv L]) (app snd : Int) (ha : thr L.length app = true) (hs : i64r snd) (hl : L.length + 10 ≤ 1048575) (hp : p = beg L app snd) :
    Calls Tryz.prog 5 #[.pointer (some ⟨b, 0, none⟩), .int .i64 app, .int .i64 snd] W fun e W1 => ∃ c, e = .returned (.tuple #[.pointer (some ⟨c, 0, none⟩), .int .i64 0]) ∧
      Calls Tryz.prog 6 #[.pointer (some ⟨rb, 0, none⟩), .int .i64 app, .int .i64 snd] W1 fun e W2 => ∃ c2, e = .returned (.tuple #[.pointer (some ⟨c2, 0, none⟩), .int .i64 0]) ∧ EP w W2 c b mb c2 rb ⟨p.1, [], 0, p.2⟩ ⟨p.1, [], 0, p.2⟩ (.slice none 0 0) (.slice none 0 0) [] [] := by
  subst hp
  refine (env_cnew h app snd ha hs hl).mono ?_
  rintro e W1 ⟨c, h1, lm, sv1, h2⟩
  refine ⟨c, h1, ?_⟩
  refine (env_rnew (L := L) h2.swap app snd ha hs (by omega)).mono ?_
  rintro e W2 ⟨c2, h3, sv2, lv2, h4⟩
  refine ⟨c2, h3, lm, sv1, sv2, lv2, ?_⟩
  have h5 := h4.add (resN (.slice none 0 0) []) (Below.refl _ _) (World.ownsRow_nil _ _ _ _) (by simp [resN, Value.ownBlock])
  have h6 := h5.add (resN (.slice none 0 0) []) (Below.refl _ _) (World.ownsRow_nil _ _ _ _) (by simp [resN, Value.ownBlock])
  refine h6.perm ?_
  have e1 : [resN (.slice none 0 0) [], resN (.slice none 0 0) [], resRh c2 rb sv2 lv2 ⟨(beg L app snd).1, [], 0, (beg L app snd).2⟩, resCh c b mb lm sv1 ⟨(beg L app snd).1, [], 0, (beg L app snd).2⟩].Perm [resRh c2 rb sv2 lv2 ⟨(beg L app snd).1, [], 0, (beg L app snd).2⟩, resCh c b mb lm sv1 ⟨(beg L app snd).1, [], 0, (beg L app snd).2⟩, resN (.slice none 0 0) [], resN (.slice none 0 0) []] := List.perm_append_comm (l₁ := [resN (.slice none 0 0) [], resN (.slice none 0 0) []]) (l₂ := [resRh c2 rb sv2 lv2 ⟨(beg L app snd).1, [], 0, (beg L app snd).2⟩, resCh c b mb lm sv1 ⟨(beg L app snd).1, [], 0, (beg L app snd).2⟩])
  exact e1.trans (List.Perm.swap _ _ _)
end
end Go.Proofs.YtkaioidneknmjaaGreatDoor.Tn
