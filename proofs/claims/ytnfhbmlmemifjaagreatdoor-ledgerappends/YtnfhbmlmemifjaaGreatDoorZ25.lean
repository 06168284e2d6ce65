/- Texts joined: LgRa LgRb TeA LgE LgF LgG. -/
import Derived.Test.YtnfhbmlmemifjaaGreatDoorZ12
import Derived.Test.YtnfhbmlmemifjaaGreatDoorZ14
import Derived.Test.YtnfhbmlmemifjaaGreatDoorZ24
import Derived.Deep.RegionHeld3
/- The document's May and place, of commits and of logs. -/
namespace Go.Proofs.YtnfhbmlmemifjaaGreatDoor
open Go.RowKit Go.Maps
set_option maxRecDepth 100000 in
set_option maxHeartbeats 4000000 in
theorem rmay_any {w : World} {c : Cm} {x : Cv} (h : CmR w c x) :
    Calls Tryz.prog 44 #[cmV c x] w fun e w' => e = .returned (.bool (mayC c)) ∧ Below w.heap.size w w' := by
  obtain ⟨a1, k1, e1⟩ := h.adds.slice
  obtain ⟨a2, k2, e2⟩ := nums_slice h.rem
  obtain ⟨a3, k3, e3⟩ := h.seals.slice
  obtain ⟨a4, k4, e4⟩ := h.joins.slice
  obtain ⟨a5, k5, e5⟩ := h.next.slice
  obtain ⟨w0, hw0⟩ : ∃ w0, w0 = w.alloc (.cells (cmC c x).toArray 34) := ⟨_, rfl⟩
  have bl : Below w.heap.size w w0 := by rw [hw0]; exact bwA _ _
  have kk : w0.heap[w.heap.size]? = some (.cells (cmC c x).toArray 34 (0, 0)) := by rw [hw0]; exact heap_alloc_new _ _
  have KT := rcheck_any (h.next.bw bl)
  obtain ⟨mb, hmb⟩ : ∃ b, b = mayB c.next := ⟨_, rfl⟩
  rw [← hmb] at KT
  have hm : mayC c = (decide (0 ≤ c.ep) && mb && decide (c.next.length ≠ 0)) := by rw [hmb]; rfl
  rw [hm]
  clear hm hmb
  obtain ⟨g0, g1, g2, g3, g4, g5, adds, rem, seals, joins, g10, g11, next, g13, g14⟩ := c
  obtain ⟨av, rv, qv, jv, nv⟩ := x
  simp only at e1 e2 e3 e4 e5 KT
  subst e1 e2 e3 e4 e5
  have hnl : next.length ≤ 140737488355328 := h.next.len
  generalize adds.length = A at *
  generalize rem.length = R at *
  generalize seals.length = Q at *
  generalize joins.length = J at *
  generalize next.length = N at *
  have hNb : (N : Int) ≤ 140737488355328 := by omega
  have c1 : w0.cell? ⟨w.heap.size, 1, none⟩ = some (.int .i64 g1) := blk_c kk rfl
  have c12 : w0.cell? ⟨w.heap.size, 12, none⟩ = some (.slice a5 N k5) := blk_c kk rfl
  have HS : Hid (∀ W, Below w0.heap.size w0 W → W.cell? ⟨w.heap.size, 12, none⟩ = some (.slice a5 N k5) ∧ Below w.heap.size w W) := fun W hW => ⟨blk_c (kept_b kk (lt_of_blk kk) hW) rfl, bw_tr bl hW⟩
  have HW : Hid (w0 = w.alloc (.cells #[.int .i64 g0, .int .i64 g1, .int .i64 g2, .int .i64 g3, .int .i64 g4, .bool g5, .slice a1 A k1, .slice a2 R k2, .slice a3 Q k3, .slice a4 J k4, .int .i64 g10, .int .i64 g11, .slice a5 N k5, .int .i64 g13, .int .i64 g14] 34)) := hw0
  have KH := hide KT
  have BL := hide bl
  unfold cmV cmC
  clear h hw0 kk KT bl hnl
  by_cases hg : 0 ≤ g1
  · have hd : decide (0 ≤ g1) = true := decide_eq_true hg
    rw [hd]
    clear hg
    go_enter Tryz.func44, Tryz.ntmps44
    go_upto_region 1 with fail
    rw [← unhide HW]
    clear HW
    go_wp2_with fail
    refine (unhide KH).mono ?_
    rintro e w1 ⟨rfl, b1⟩
    obtain ⟨c12, B1⟩ := unhide HS w1 b1
    cases mb with
    | true =>
      simp only [if_true] at *
      go_wp2_with fail
      go_ret
      refine ⟨?_, B1⟩
      rcases Nat.eq_zero_or_pos N with z | z
      · subst z; simp
      · have hn : N ≠ 0 := by omega
        simp [hn]; omega
    | false =>
      simp only [Bool.false_eq_true, if_false] at *
      go_wp2_with fail
      go_ret
      exact ⟨rfl, B1⟩
  · have hd : decide (0 ≤ g1) = false := decide_eq_false hg
    rw [hd]
    go_enter Tryz.func44, Tryz.ntmps44
    go_upto_region 1 with fail
    rw [← unhide HW]
    clear HW
    go_wp2_with fail
    go_ret
    exact ⟨rfl, unhide BL⟩
def plF (l : List Lg) (g : Int) : Int := match l.findIdx? (fun p => decide (p.1 = g)) with | some i => (i : Int) | none => -1
set_option maxRecDepth 100000 in
set_option maxHeartbeats 4000000 in
theorem rplace_any {w : World} {v : Value} {l : List Lg} (h : Lgs w v l) (g : Int) :
    Calls Tryz.prog 41 #[v, .int .i64 g] w fun e w' => e = .returned (.int .i64 (plF l g)) ∧ Below w.heap.size w w' := by
  obtain ⟨a, cap, rfl⟩ := h.slice
  have hl := h.len
  obtain ⟨N, hN⟩ : ∃ N, N = l.length := ⟨_, rfl⟩
  rw [← hN] at h hl ⊢
  have hNI : (N : Int) ≤ 140737488355328 := by omega
  obtain ⟨r, hr⟩ : ∃ r, r = plF l g := ⟨_, rfl⟩
  rw [← hr]
  have HH := hide (And.intro h (And.intro hN hr))
  clear h hN hl hr
  go_enter Tryz.func41, Tryz.ntmps41
  go_wp2_with fail
  go_loopw [5] (fun iv wr => ∃ i : Nat, i ≤ N ∧ iv = .int .i64 (i : Int) ∧ Hid (Below w.heap.size w wr ∧ ∀ j p, j < i → l[j]? = some p → p.1 ≠ g)) (fun iv _ => (N - intOf iv).toNat)
  case atStart => exact ⟨0, Nat.zero_le _, rfl, Below.refl _ _, fun j p hj => absurd hj (by omega)⟩
  case round =>
    obtain ⟨i, hi, rfl, HR⟩ := hrel
    by_cases hlt : i < N
    · have hiI : (i : Int) < (N : Int) := by omega
      have h0 : (0 : Int) ≤ (i : Int) := by omega
      obtain ⟨h, hN, hr⟩ := unhide HH
      obtain ⟨p, hp⟩ : ∃ p, l[i]? = some p := ⟨_, List.getElem?_eq_getElem (by omega)⟩
      obtain ⟨gb, o, rfl, cv, hcv, d0, d1⟩ := (h.bw (unhide HR).1).get hp
      obtain ⟨a2, c2, rfl⟩ := hcv.slice
      obtain ⟨pg, hpg⟩ : ∃ z, z = p.1 := ⟨_, rfl⟩
      rw [← hpg] at d0
      by_cases hq : pg = g
      · have HE : Hid (r = (i : Int) ∧ Below w.heap.size w wr) := by
          refine ⟨?_, (unhide HR).1⟩
          rw [hr]
          unfold plF
          have : l.findIdx? (fun p => decide (p.1 = g)) = some i := by
            rw [List.findIdx?_eq_some_iff_getElem]
            have hil : i < l.length := by omega
            refine ⟨hil, ?_, fun j hj => ?_⟩
            · have e : l[i] = p := by have := (List.getElem?_eq_some_iff.1 hp).2; exact this
              rw [e, ← hpg]; simp [hq]
            · have := (unhide HR).2 j l[j] hj (List.getElem?_eq_getElem (by omega))
              simp [this]
          rw [this]
        clear h hN hr hp hcv HR hpg d1
        subst hq
        go_wp2_with fail
        go_ret
        exact ⟨by rw [(unhide HE).1]; rfl, (unhide HE).2⟩
      · have hd : (pg == g) = false := by simp [hq]
        have HE : Hid (Below w.heap.size w wr ∧ ∀ j p, j < i + 1 → l[j]? = some p → p.1 ≠ g) := by
          refine ⟨(unhide HR).1, fun j q hj hjq => ?_⟩
          rcases Nat.lt_or_ge j i with c | c
          · exact (unhide HR).2 j q c hjq
          · obtain rfl : j = i := by omega
            rw [hp] at hjq; cases hjq
            rw [← hpg]; exact hq
        clear h hN hr hp hcv HR hpg d1
        go_wp2_with fail
        go_roundw
        case rel => exact ⟨i + 1, by omega, by go_num, HE⟩
        case measure => simp only [intOf]; omega
    · obtain rfl : i = N := by omega
      have HE : Hid (r = -1 ∧ Below w.heap.size w wr) := by
        obtain ⟨h, hN, hr⟩ := unhide HH
        refine ⟨?_, (unhide HR).1⟩
        rw [hr]
        unfold plF
        have : l.findIdx? (fun p => decide (p.1 = g)) = none := by
          rw [List.findIdx?_eq_none_iff]
          intro q hq
          obtain ⟨j, hj⟩ := List.getElem?_of_mem hq
          have := (unhide HR).2 j q (by have := (List.getElem?_eq_some_iff.1 hj).1; omega) hj
          simp [this]
        rw [this]
      clear HH HR
      go_wp2_with fail
      go_ret
      exact ⟨by rw [(unhide HE).1]; rfl, (unhide HE).2⟩
end Go.Proofs.YtnfhbmlmemifjaaGreatDoor

/- The document's Check, of logs. -/
namespace Go.Proofs.YtnfhbmlmemifjaaGreatDoor
open Go.RowKit Go.Maps
def okC (g : Int) (k : Nat) (c : Cm) : Prop := c.gr = g ∧ c.ep = (k : Int) ∧ mayC c = true
theorem com_iff (g : Int) : ∀ (cs : List Cm) (n : Nat), comB g n cs = true ↔ ∀ k c, cs[k]? = some c → okC g (n + k) c
  | [], n => by simp [comB]
  | d :: r, n => by
    unfold comB
    simp only [Bool.and_eq_true, decide_eq_true_eq]
    rw [com_iff g r (n + 1)]
    constructor
    · rintro ⟨⟨⟨h1, h2⟩, h3⟩, h4⟩ k c hc
      cases k with
      | zero => simp at hc; subst hc; exact ⟨h1, by simpa using h2, h3⟩
      | succ k =>
        have := h4 k c (by simpa using hc)
        rw [show n + 1 + k = n + (k + 1) by omega] at this
        exact this
    · intro h
      have h0 := h 0 d rfl
      refine ⟨⟨⟨h0.1, by simpa using h0.2.1⟩, h0.2.2⟩, fun k c hc => ?_⟩
      have := h (k + 1) c (by simpa using hc)
      rw [show n + (k + 1) = n + 1 + k by omega] at this
      exact this
theorem ris_iff : ∀ (l : List Lg), risB l = true ↔ ∀ j q p, l[j]? = some q → l[j + 1]? = some p → q.1 < p.1
  | [] => by simp [risB]
  | [a] => by simp [risB]
  | a :: b :: r => by
    have ih := ris_iff (b :: r)
    simp only [risB, Bool.and_eq_true, decide_eq_true_eq]
    rw [ih]
    constructor
    · rintro ⟨h1, h2⟩ j q p hq hp
      cases j with
      | zero => simp at hq hp; subst hq hp; exact h1
      | succ j => exact h2 j q p (by simpa using hq) (by simpa using hp)
    · intro h
      exact ⟨h 0 a b rfl rfl, fun j q p hq hp => h (j + 1) q p (by simpa using hq) (by simpa using hp)⟩
def okL (l : List Lg) (j : Nat) : Prop := ∀ p, l[j]? = some p → logB p = true ∧ ∀ q i, j = i + 1 → l[i]? = some q → q.1 < p.1
theorem chk_iff {l : List Lg} : chkB l = true ↔ l.length ≤ 16 ∧ ∀ j, j < l.length → okL l j := by
  unfold chkB
  simp only [Bool.and_eq_true, decide_eq_true_eq, List.all_eq_true]
  rw [ris_iff]
  constructor
  · rintro ⟨⟨h1, h2⟩, h3⟩
    exact ⟨h1, fun j _ p hp => ⟨h3 p (List.mem_of_getElem? hp), fun q i e hq => h2 i q p hq (by rw [← e]; exact hp)⟩⟩
  · rintro ⟨h1, h2⟩
    refine ⟨⟨h1, fun j q p hq hp => ?_⟩, fun p hp => ?_⟩
    · exact ((h2 (j + 1) (List.getElem?_eq_some_iff.1 hp).1) p hp).2 q j rfl hq
    · obtain ⟨j, hj⟩ := List.getElem?_of_mem hp
      exact ((h2 j (List.getElem?_eq_some_iff.1 hj).1) p hj).1
theorem log_iff {p : Lg} : logB p = true ↔ p.2.length ≠ 0 ∧ ∀ k c, p.2[k]? = some c → okC p.1 k c := by
  unfold logB
  simp only [Bool.and_eq_true, decide_eq_true_eq]
  rw [com_iff]
  simp
end Go.Proofs.YtnfhbmlmemifjaaGreatDoor

/- The contracts of SameNodes and SameTree, of two trees that read alike; the document's free and rising. -/
namespace Go.Proofs.YtnfhbmlmemifjaaGreatDoor
open Go.RowKit Go.Maps
set_option maxRecDepth 100000 in
set_option maxHeartbeats 4000000 in
theorem sameNodes_eq {w : World} {v v' : Value} {T : List Nd} (h : Trd w v T) (h' : Trd w v' T) :
    Calls Tryz.prog 189 #[v, v'] w fun e w' => e = .returned (.bool true) ∧ Below w.heap.size w w' := by
  obtain ⟨a, c, rfl⟩ := h.slice
  obtain ⟨a', c', rfl⟩ := h'.slice
  obtain ⟨-, h2⟩ := h.at
  obtain ⟨-, h2'⟩ := h'.at
  have HC : Hid (∀ i, i < T.length → ∃ b o b' o' p m e ua ul uc ua' uc', a = some ⟨b, o, none⟩ ∧ a' = some ⟨b', o', none⟩ ∧ ∀ W, Below w.heap.size w W → (W.cell? ⟨b, o + i * 4, none⟩ = some (.int .i64 p) ∧ W.cell? ⟨b, o + i * 4 + 1, none⟩ = some (.int .i64 m) ∧ W.cell? ⟨b, o + i * 4 + 2, none⟩ = some (.int .i64 e) ∧ W.cell? ⟨b, o + i * 4 + 3, none⟩ = some (.slice ua ul uc)) ∧
      (W.cell? ⟨b', o' + i * 4, none⟩ = some (.int .i64 p) ∧ W.cell? ⟨b', o' + i * 4 + 1, none⟩ = some (.int .i64 m) ∧ W.cell? ⟨b', o' + i * 4 + 2, none⟩ = some (.int .i64 e) ∧ W.cell? ⟨b', o' + i * 4 + 3, none⟩ = some (.slice ua' ul uc')) ∧
      Calls Tryz.prog 294 #[.agg #[.int .i64 p, .int .i64 m, .int .i64 e, .slice ua ul uc], .agg #[.int .i64 p, .int .i64 m, .int .i64 e, .slice ua' ul uc']] W fun x w' => x = .returned (.bool true) ∧ Below W.heap.size W w') := fun i hi => by
    obtain ⟨b, o, e, h3⟩ := h2 (by omega)
    obtain ⟨b', o', e', h3'⟩ := h2' (by omega)
    obtain ⟨u, k1, k2⟩ := h3 w (Below.refl _ _) i hi
    obtain ⟨u', k1', k2'⟩ := h3' w (Below.refl _ _) i hi
    obtain ⟨ua, uc, rfl⟩ := nums_slice k2
    obtain ⟨ua', uc', rfl⟩ := nums_slice k2'
    have hB : b < w.heap.size := lt_of_cell k1.c3
    have hB' : b' < w.heap.size := lt_of_cell k1'.c3
    exact ⟨b, o, b', o', (ndAt T i).pub, (ndAt T i).mem, (ndAt T i).ep, ua, (ndAt T i).un.length, uc, ua', uc', e, e', fun W hW => ⟨⟨(k1.bw hB hW).c0, (k1.bw hB hW).c1, (k1.bw hB hW).c2, (k1.bw hB hW).c3⟩, ⟨(k1'.bw hB' hW).c0, (k1'.bw hB' hW).c1, (k1'.bw hB' hW).c2, (k1'.bw hB' hW).c3⟩, sameNode_eq (k2.bw hW) (k2'.bw hW)⟩⟩
  have hlI : (T.length : Int) ≤ 140737488355328 := by have := h.len; omega
  clear h h' h2 h2'
  generalize T.length = N at *
  go_enter Tryz.func189, Tryz.ntmps189
  go_wp2_with fail
  go_loopw [13] (fun iv wr => ∃ (i : Nat), iv = .int .i64 (i : Int) ∧ i ≤ N ∧ Below w.heap.size w wr) (fun iv _ => (N - (intOf iv)).toNat)
  case atStart => exact ⟨0, rfl, by omega, Below.refl _ _⟩
  case round =>
    obtain ⟨i, rfl, hi, hbel⟩ := hrel
    by_cases hin : i < N
    · obtain ⟨b, o, b', o', p, m, e, ua, ul, uc, ua', uc', rfl, rfl, hc⟩ := unhide HC i hin
      have q1 : (i : Int) < (N : Int) := by omega
      have q0 : (0 : Int) ≤ (i : Int) := by omega
      obtain ⟨x0, y0, -⟩ := hc _ hbel
      obtain ⟨x1, y1, K⟩ := hc _ hbel.drew
      have HC2 := hide hc
      have HK := hide K
      obtain ⟨c0, c1, c2, c3⟩ := x0
      obtain ⟨d0, d1, d2, d3⟩ := y0
      obtain ⟨e0, e1, e2, e3⟩ := x1
      obtain ⟨f0, f1, f2, f3⟩ := y1
      clear hc K
      go_wp2_with fail
      first
      | go_region_held3 (fun w' : World => w'.cell? ⟨b, o + i * 4, none⟩ = some (.int .i64 p) ∧ w'.cell? ⟨b, o + i * 4 + 1, none⟩ = some (.int .i64 m) ∧ w'.cell? ⟨b, o + i * 4 + 2, none⟩ = some (.int .i64 e) ∧ w'.cell? ⟨b, o + i * 4 + 3, none⟩ = some (.slice ua ul uc) ∧
          w'.cell? ⟨b', o' + i * 4, none⟩ = some (.int .i64 p) ∧ w'.cell? ⟨b', o' + i * 4 + 1, none⟩ = some (.int .i64 m) ∧ w'.cell? ⟨b', o' + i * 4 + 2, none⟩ = some (.int .i64 e) ∧ w'.cell? ⟨b', o' + i * 4 + 3, none⟩ = some (.slice ua' ul uc'))
          (first | with_reducible exact ⟨c0, c1, c2, c3, d0, d1, d2, d3⟩ | with_reducible exact ⟨e0, e1, e2, e3, f0, f1, f2, f3⟩ | with_reducible exact ⟨g0, g1, g2, g3, h0, h1, h2, h3⟩) (first
          | (go_at_call 294; refine (unhide HK).mono ?_; rintro x w5 ⟨rfl, E5⟩; have b5 := bw_tr hbel.drew E5; obtain ⟨⟨g0, g1, g2, g3⟩, ⟨h0, h1, h2, h3⟩, -⟩ := unhide HC2 w5 b5) | fail)
      | fail
      all_goals
        clear E5 g0 g1 g2 g3 h0 h1 h2 h3
        go_wp2_with fail
        go_roundw
        case rel => exact ⟨i + 1, by go_num, by omega, b5⟩
        case measure => simp [intOf]; omega
    · obtain rfl : i = N := by omega
      go_wp2_with fail
      go_ret
      exact ⟨rfl, hbel⟩
set_option maxHeartbeats 1000000 in
theorem sameTree_eq {w : World} {v v' : Value} {T : List Nd} (h : Trd w v T) (h' : Trd w v' T) :
    Calls Tryz.prog 45 #[.agg #[v], .agg #[v']] w fun e w' => e = .returned (.bool true) ∧ Below w.heap.size w w' := by
  obtain ⟨a, c, rfl⟩ := h.slice
  obtain ⟨a', c', rfl⟩ := h'.slice
  obtain ⟨W0, hW0⟩ : ∃ W0, W0 = (w.alloc (.cells #[.slice a T.length c] 32)).alloc (.cells #[.slice a' T.length c'] 32) := ⟨_, rfl⟩
  have hb0 : Below w.heap.size w W0 := by rw [hW0]; exact (bwA _ _).alloc (by simp) _
  have K := hide (sameNodes_eq (h.bw hb0) (h'.bw hb0))
  have HW : Hid (W0 = (w.alloc (.cells #[.slice a T.length c] 32)).alloc (.cells #[.slice a' T.length c'] 32)) := hW0
  clear hW0 h h'
  generalize T.length = N at *
  go_enter Tryz.func45, Tryz.ntmps45
  go_wp2_with fail
  rw [← unhide HW]
  refine (unhide K).mono ?_
  rintro x w1 ⟨rfl, b1⟩
  go_wp2
  go_ret
  exact ⟨rfl, bw_tr hb0 b1⟩
end Go.Proofs.YtnfhbmlmemifjaaGreatDoor

/- SameCommit, SameCommits, SameLog, SameLogs of equal ones. -/
namespace Go.Proofs.YtnfhbmlmemifjaaGreatDoor
open Go.RowKit Go.Maps
set_option maxRecDepth 100000 in
set_option maxHeartbeats 8000000 in
theorem samecm_any {w : World} {c : Cm} {x y : Cv} (hx : CmR w c x) (hy : CmR w c y) :
    Calls Tryz.prog 18 #[cmV c x, cmV c y] w fun e w' => e = .returned (.bool true) ∧ Below w.heap.size w w' := by
  obtain ⟨w0, hw0⟩ : ∃ w0, w0 = (w.alloc (.cells (cmC c x).toArray 34)).alloc (.cells (cmC c y).toArray 34) := ⟨_, rfl⟩
  have bl : Below w.heap.size w w0 := by rw [hw0]; exact bw_tr (bwA _ _) (bwA _ _)
  have kx : w0.heap[w.heap.size]? = some (.cells (cmC c x).toArray 34 (0, 0)) := by
    have h1 := heap_alloc_new w (.cells (cmC c x).toArray 34)
    rw [hw0, Below.heap_alloc _ _ _ (by simp)]; exact h1
  have ky : w0.heap[w.heap.size + 1]? = some (.cells (cmC c y).toArray 34 (0, 0)) := by
    have h2 := heap_alloc_new (w.alloc (.cells (cmC c x).toArray 34)) (.cells (cmC c y).toArray 34)
    have e : (w.alloc (.cells (cmC c x).toArray 34)).heap.size = w.heap.size + 1 := by simp
    rw [e] at h2
    rw [hw0]; exact h2
  have KT : Hid (∀ W, Below w0.heap.size w0 W → Calls Tryz.prog 45 #[.agg #[x.nv], .agg #[y.nv]] W fun e w' => e = .returned (.bool true) ∧ Below W.heap.size W w') := fun W hW => sameTree_eq (hx.next.bw (bw_tr bl hW)) (hy.next.bw (bw_tr bl hW))
  have KA : Hid (∀ W, Below w0.heap.size w0 W → Calls Tryz.prog 46 #[x.av, y.av] W fun e w' => e = .returned (.bool true) ∧ Below W.heap.size W w') := fun W hW => sameAdds_any _ _ _ W (hx.adds.bw (bw_tr bl hW)) (hy.adds.bw (bw_tr bl hW))
  have KR : Hid (∀ W, Below w0.heap.size w0 W → Calls Tryz.prog 19 #[x.rv, y.rv] W fun e w' => e = .returned (.bool true) ∧ Below W.heap.size W w') := fun W hW => by
    have := same_any _ _ _ _ W (hx.rem.bw (bw_tr bl hW)) (hy.rem.bw (bw_tr bl hW))
    rw [decide_eq_true rfl] at this
    exact this
  have KQ : Hid (∀ W, Below w0.heap.size w0 W → Calls Tryz.prog 47 #[x.qv, y.qv] W fun e w' => e = .returned (.bool true) ∧ Below W.heap.size W w') := fun W hW => sameSeals_any _ _ _ W (hx.seals.bw (bw_tr bl hW)) (hy.seals.bw (bw_tr bl hW))
  have KJ : Hid (∀ W, Below w0.heap.size w0 W → Calls Tryz.prog 48 #[x.jv, y.jv] W fun e w' => e = .returned (.bool true) ∧ Below W.heap.size W w') := fun W hW => sameJoins_any _ _ _ W (hx.joins.bw (bw_tr bl hW)) (hy.joins.bw (bw_tr bl hW))
  have s1 := hx.adds.slice
  have s2 := nums_slice hx.rem
  have s3 := hx.seals.slice
  have s4 := hx.joins.slice
  have s5 := hx.next.slice
  have t1 := hy.adds.slice
  have t2 := nums_slice hy.rem
  have t3 := hy.seals.slice
  have t4 := hy.joins.slice
  have t5 := hy.next.slice
  obtain ⟨g0, g1, g2, g3, g4, g5, adds, rem, seals, joins, g10, g11, next, g13, g14⟩ := c
  obtain ⟨av, rv, qv, jv, nv⟩ := x
  obtain ⟨av', rv', qv', jv', nv'⟩ := y
  simp only at KT KA KR KQ KJ s1 s2 s3 s4 s5 t1 t2 t3 t4 t5
  have YY : Hid (∀ W, Below w0.heap.size w0 W → ((W.cell? ⟨w.heap.size, 12, none⟩ = some nv ∧ W.cell? ⟨w.heap.size, 6, none⟩ = some av ∧ W.cell? ⟨w.heap.size, 7, none⟩ = some rv ∧ W.cell? ⟨w.heap.size, 8, none⟩ = some qv ∧ W.cell? ⟨w.heap.size, 9, none⟩ = some jv) ∧ (W.cell? ⟨w.heap.size + 1, 12, none⟩ = some nv' ∧ W.cell? ⟨w.heap.size + 1, 6, none⟩ = some av' ∧ W.cell? ⟨w.heap.size + 1, 7, none⟩ = some rv' ∧ W.cell? ⟨w.heap.size + 1, 8, none⟩ = some qv' ∧ W.cell? ⟨w.heap.size + 1, 9, none⟩ = some jv'))) := fun W hW => by
    have k1 := kept_b kx (lt_of_blk kx) hW
    have k2 := kept_b ky (lt_of_blk ky) hW
    exact ⟨⟨blk_c k1 rfl, blk_c k1 rfl, blk_c k1 rfl, blk_c k1 rfl, blk_c k1 rfl⟩, ⟨blk_c k2 rfl, blk_c k2 rfl, blk_c k2 rfl, blk_c k2 rfl, blk_c k2 rfl⟩⟩
  obtain ⟨⟨c12, c6, c7, c8, c9⟩, ⟨d12, d6, d7, d8, d9⟩⟩ := unhide YY w0 (Below.refl _ _)
  have c0 : w0.cell? ⟨w.heap.size, 0, none⟩ = some (.int .i64 g0) := blk_c kx rfl
  have c1 : w0.cell? ⟨w.heap.size, 1, none⟩ = some (.int .i64 g1) := blk_c kx rfl
  have c2 : w0.cell? ⟨w.heap.size, 2, none⟩ = some (.int .i64 g2) := blk_c kx rfl
  have c3 : w0.cell? ⟨w.heap.size, 3, none⟩ = some (.int .i64 g3) := blk_c kx rfl
  have c4 : w0.cell? ⟨w.heap.size, 4, none⟩ = some (.int .i64 g4) := blk_c kx rfl
  have c5 : w0.cell? ⟨w.heap.size, 5, none⟩ = some (.bool g5) := blk_c kx rfl
  have c10 : w0.cell? ⟨w.heap.size, 10, none⟩ = some (.int .i64 g10) := blk_c kx rfl
  have c11 : w0.cell? ⟨w.heap.size, 11, none⟩ = some (.int .i64 g11) := blk_c kx rfl
  have c13 : w0.cell? ⟨w.heap.size, 13, none⟩ = some (.int .i64 g13) := blk_c kx rfl
  have c14 : w0.cell? ⟨w.heap.size, 14, none⟩ = some (.int .i64 g14) := blk_c kx rfl
  have d0 : w0.cell? ⟨w.heap.size + 1, 0, none⟩ = some (.int .i64 g0) := blk_c ky rfl
  have d1 : w0.cell? ⟨w.heap.size + 1, 1, none⟩ = some (.int .i64 g1) := blk_c ky rfl
  have d2 : w0.cell? ⟨w.heap.size + 1, 2, none⟩ = some (.int .i64 g2) := blk_c ky rfl
  have d3 : w0.cell? ⟨w.heap.size + 1, 3, none⟩ = some (.int .i64 g3) := blk_c ky rfl
  have d4 : w0.cell? ⟨w.heap.size + 1, 4, none⟩ = some (.int .i64 g4) := blk_c ky rfl
  have d5 : w0.cell? ⟨w.heap.size + 1, 5, none⟩ = some (.bool g5) := blk_c ky rfl
  have d10 : w0.cell? ⟨w.heap.size + 1, 10, none⟩ = some (.int .i64 g10) := blk_c ky rfl
  have d11 : w0.cell? ⟨w.heap.size + 1, 11, none⟩ = some (.int .i64 g11) := blk_c ky rfl
  have d13 : w0.cell? ⟨w.heap.size + 1, 13, none⟩ = some (.int .i64 g13) := blk_c ky rfl
  have d14 : w0.cell? ⟨w.heap.size + 1, 14, none⟩ = some (.int .i64 g14) := blk_c ky rfl
  have HW : Hid (w0 = (w.alloc (.cells #[.int .i64 g0, .int .i64 g1, .int .i64 g2, .int .i64 g3, .int .i64 g4, .bool g5, av, rv, qv, jv, .int .i64 g10, .int .i64 g11, nv, .int .i64 g13, .int .i64 g14] 34)).alloc (.cells #[.int .i64 g0, .int .i64 g1, .int .i64 g2, .int .i64 g3, .int .i64 g4, .bool g5, av', rv', qv', jv', .int .i64 g10, .int .i64 g11, nv', .int .i64 g13, .int .i64 g14] 34)) := hw0
  obtain ⟨a1, k1, rfl⟩ := s1
  obtain ⟨a2, k2, rfl⟩ := s2
  obtain ⟨a3, k3, rfl⟩ := s3
  obtain ⟨a4, k4, rfl⟩ := s4
  obtain ⟨a5, k5, rfl⟩ := s5
  obtain ⟨b1, l1, rfl⟩ := t1
  obtain ⟨b2, l2, rfl⟩ := t2
  obtain ⟨b3, l3, rfl⟩ := t3
  obtain ⟨b4, l4, rfl⟩ := t4
  obtain ⟨b5, l5, rfl⟩ := t5
  have BL := hide bl
  unfold cmV cmC
  clear hx hy hw0 bl kx ky
  generalize adds.length = A at *
  generalize rem.length = R at *
  generalize seals.length = Q at *
  generalize joins.length = J at *
  generalize next.length = N at *
  go_enter Tryz.func18, Tryz.ntmps18
  go_upto_region 1 with fail
  rw [← unhide HW]
  clear HW
  go_wp2_with fail
  refine (unhide KT w0 (Below.refl _ _)).mono ?_
  rintro e w1 ⟨rfl, b1⟩
  obtain ⟨⟨-, c6, c7, c8, c9⟩, ⟨-, d6, d7, d8, d9⟩⟩ := unhide YY w1 b1
  have B1 := hide b1
  clear b1 KT c0 c1 c2 c3 c4 c5 c10 c11 c12 c13 c14 d0 d1 d2 d3 d4 d5 d10 d11 d12 d13 d14
  go_wp2_with fail
  refine (unhide KA w1 (unhide B1)).mono ?_
  rintro e w2 ⟨rfl, b2⟩
  have b2' := bw_tr (unhide B1) b2
  obtain ⟨⟨-, -, c7, c8, c9⟩, ⟨-, -, d7, d8, d9⟩⟩ := unhide YY w2 b2'
  have B2 := hide b2'
  clear b2 b2' KA B1 c6 d6
  go_wp2_with fail
  refine (unhide KR w2 (unhide B2)).mono ?_
  rintro e w3 ⟨rfl, b3⟩
  have b3' := bw_tr (unhide B2) b3
  obtain ⟨⟨-, -, -, c8, c9⟩, ⟨-, -, -, d8, d9⟩⟩ := unhide YY w3 b3'
  have B3 := hide b3'
  clear b3 b3' KR B2 c7 d7
  go_wp2_with fail
  refine (unhide KQ w3 (unhide B3)).mono ?_
  rintro e w4 ⟨rfl, b4⟩
  have b4' := bw_tr (unhide B3) b4
  obtain ⟨⟨-, -, -, -, c9⟩, ⟨-, -, -, -, d9⟩⟩ := unhide YY w4 b4'
  have B4 := hide b4'
  clear b4 b4' KQ B3 c8 d8
  go_wp2_with fail
  refine (unhide KJ w4 (unhide B4)).mono ?_
  rintro e w5 ⟨rfl, b5⟩
  have B5 := hide (bw_tr (unhide BL) (bw_tr (unhide B4) b5))
  clear b5 KJ B4 c9 d9 BL
  go_wp2
  go_ret
  exact ⟨rfl, unhide B5⟩
end Go.Proofs.YtnfhbmlmemifjaaGreatDoor

/- SameCommits, SameLog, SameLogs of equal ones. -/
namespace Go.Proofs.YtnfhbmlmemifjaaGreatDoor
open Go.RowKit Go.Maps
set_option maxRecDepth 100000 in
set_option maxHeartbeats 8000000 in
theorem samecms_any {w : World} {va vb : Value} {l : List Cm} (ha : Cms w va l) (hb : Cms w vb l) :
    Calls Tryz.prog 268 #[va, vb] w fun e w' => e = .returned (.bool true) ∧ Below w.heap.size w w' := by
  obtain ⟨a, ca, rfl⟩ := ha.slice
  obtain ⟨b, cb, rfl⟩ := hb.slice
  have hlA := ha.len
  obtain ⟨N, hN⟩ : ∃ N, N = l.length := ⟨_, rfl⟩
  rw [← hN] at ha hb hlA ⊢
  have hNb : (N : Int) ≤ 140737488355328 := by omega
  have HH := hide (And.intro ha (And.intro hb hN))
  clear ha hb hN hlA
  go_enter Tryz.func268, Tryz.ntmps268
  go_wp2_with fail
  go_loopw [13] (fun iv wr => ∃ i : Nat, iv = .int .i64 i ∧ i ≤ N ∧ Hid (Below w.heap.size w wr)) (fun iv _ => (N - (intOf iv)).toNat)
  case atStart => exact ⟨0, rfl, by omega, Below.refl _ _⟩
  case round =>
    obtain ⟨i, rfl, hi, hbel⟩ := hrel
    by_cases hin : i < N
    · obtain ⟨ha, hb, hN⟩ := unhide HH
      obtain ⟨z, hz⟩ : ∃ z, l[i]? = some z := ⟨_, List.getElem?_eq_getElem (by omega)⟩
      obtain ⟨g, o, rfl, x, hx, hc1⟩ := (ha.bw (unhide hbel)).get hz
      obtain ⟨g', o', rfl, y, hy, hc2⟩ := (hb.bw (unhide hbel)).get hz
      have bD : Below wr.heap.size wr wr.drew := (Below.refl _ _).drew
      have K := samecm_any (hx.bw bD) (hy.bw bD)
      obtain ⟨g0, g1, g2, g3, g4, g5, adds, rem, seals, joins, g10, g11, next, g13, g14⟩ := z
      obtain ⟨av, rv, qv, jv, nv⟩ := x
      obtain ⟨av', rv', qv', jv', nv'⟩ := y
      have c0 := hc1 0 _ rfl
      have d0 := hc2 0 _ rfl
      have c1 := hc1 1 _ rfl
      have d1 := hc2 1 _ rfl
      have c2 := hc1 2 _ rfl
      have d2 := hc2 2 _ rfl
      have c3 := hc1 3 _ rfl
      have d3 := hc2 3 _ rfl
      have c4 := hc1 4 _ rfl
      have d4 := hc2 4 _ rfl
      have c5 := hc1 5 _ rfl
      have d5 := hc2 5 _ rfl
      have c6 := hc1 6 _ rfl
      have d6 := hc2 6 _ rfl
      have c7 := hc1 7 _ rfl
      have d7 := hc2 7 _ rfl
      have c8 := hc1 8 _ rfl
      have d8 := hc2 8 _ rfl
      have c9 := hc1 9 _ rfl
      have d9 := hc2 9 _ rfl
      have c10 := hc1 10 _ rfl
      have d10 := hc2 10 _ rfl
      have c11 := hc1 11 _ rfl
      have d11 := hc2 11 _ rfl
      have c12 := hc1 12 _ rfl
      have d12 := hc2 12 _ rfl
      have c13 := hc1 13 _ rfl
      have d13 := hc2 13 _ rfl
      have c14 := hc1 14 _ rfl
      have d14 := hc2 14 _ rfl
      simp only [Nat.add_zero] at c0 d0
      have S0 : (wr.cell? ⟨g, o + i * 15, none⟩ = some (.int .i64 g0) ∧ wr.cell? ⟨g, o + i * 15 + 1, none⟩ = some (.int .i64 g1) ∧ wr.cell? ⟨g, o + i * 15 + 2, none⟩ = some (.int .i64 g2) ∧ wr.cell? ⟨g, o + i * 15 + 3, none⟩ = some (.int .i64 g3) ∧ wr.cell? ⟨g, o + i * 15 + 4, none⟩ = some (.int .i64 g4) ∧ wr.cell? ⟨g, o + i * 15 + 5, none⟩ = some (.bool g5) ∧ wr.cell? ⟨g, o + i * 15 + 6, none⟩ = some (av) ∧ wr.cell? ⟨g, o + i * 15 + 7, none⟩ = some (rv) ∧ wr.cell? ⟨g, o + i * 15 + 8, none⟩ = some (qv) ∧ wr.cell? ⟨g, o + i * 15 + 9, none⟩ = some (jv) ∧ wr.cell? ⟨g, o + i * 15 + 10, none⟩ = some (.int .i64 g10) ∧ wr.cell? ⟨g, o + i * 15 + 11, none⟩ = some (.int .i64 g11) ∧ wr.cell? ⟨g, o + i * 15 + 12, none⟩ = some (nv) ∧ wr.cell? ⟨g, o + i * 15 + 13, none⟩ = some (.int .i64 g13) ∧ wr.cell? ⟨g, o + i * 15 + 14, none⟩ = some (.int .i64 g14)) ∧ (wr.cell? ⟨g', o' + i * 15, none⟩ = some (.int .i64 g0) ∧ wr.cell? ⟨g', o' + i * 15 + 1, none⟩ = some (.int .i64 g1) ∧ wr.cell? ⟨g', o' + i * 15 + 2, none⟩ = some (.int .i64 g2) ∧ wr.cell? ⟨g', o' + i * 15 + 3, none⟩ = some (.int .i64 g3) ∧ wr.cell? ⟨g', o' + i * 15 + 4, none⟩ = some (.int .i64 g4) ∧ wr.cell? ⟨g', o' + i * 15 + 5, none⟩ = some (.bool g5) ∧ wr.cell? ⟨g', o' + i * 15 + 6, none⟩ = some (av') ∧ wr.cell? ⟨g', o' + i * 15 + 7, none⟩ = some (rv') ∧ wr.cell? ⟨g', o' + i * 15 + 8, none⟩ = some (qv') ∧ wr.cell? ⟨g', o' + i * 15 + 9, none⟩ = some (jv') ∧ wr.cell? ⟨g', o' + i * 15 + 10, none⟩ = some (.int .i64 g10) ∧ wr.cell? ⟨g', o' + i * 15 + 11, none⟩ = some (.int .i64 g11) ∧ wr.cell? ⟨g', o' + i * 15 + 12, none⟩ = some (nv') ∧ wr.cell? ⟨g', o' + i * 15 + 13, none⟩ = some (.int .i64 g13) ∧ wr.cell? ⟨g', o' + i * 15 + 14, none⟩ = some (.int .i64 g14)) := ⟨⟨c0, c1, c2, c3, c4, c5, c6, c7, c8, c9, c10, c11, c12, c13, c14⟩, ⟨d0, d1, d2, d3, d4, d5, d6, d7, d8, d9, d10, d11, d12, d13, d14⟩⟩
      have S00 : (wr.drew.cell? ⟨g, o + i * 15, none⟩ = some (.int .i64 g0) ∧ wr.drew.cell? ⟨g, o + i * 15 + 1, none⟩ = some (.int .i64 g1) ∧ wr.drew.cell? ⟨g, o + i * 15 + 2, none⟩ = some (.int .i64 g2) ∧ wr.drew.cell? ⟨g, o + i * 15 + 3, none⟩ = some (.int .i64 g3) ∧ wr.drew.cell? ⟨g, o + i * 15 + 4, none⟩ = some (.int .i64 g4) ∧ wr.drew.cell? ⟨g, o + i * 15 + 5, none⟩ = some (.bool g5) ∧ wr.drew.cell? ⟨g, o + i * 15 + 6, none⟩ = some (av) ∧ wr.drew.cell? ⟨g, o + i * 15 + 7, none⟩ = some (rv) ∧ wr.drew.cell? ⟨g, o + i * 15 + 8, none⟩ = some (qv) ∧ wr.drew.cell? ⟨g, o + i * 15 + 9, none⟩ = some (jv) ∧ wr.drew.cell? ⟨g, o + i * 15 + 10, none⟩ = some (.int .i64 g10) ∧ wr.drew.cell? ⟨g, o + i * 15 + 11, none⟩ = some (.int .i64 g11) ∧ wr.drew.cell? ⟨g, o + i * 15 + 12, none⟩ = some (nv) ∧ wr.drew.cell? ⟨g, o + i * 15 + 13, none⟩ = some (.int .i64 g13) ∧ wr.drew.cell? ⟨g, o + i * 15 + 14, none⟩ = some (.int .i64 g14)) ∧ (wr.drew.cell? ⟨g', o' + i * 15, none⟩ = some (.int .i64 g0) ∧ wr.drew.cell? ⟨g', o' + i * 15 + 1, none⟩ = some (.int .i64 g1) ∧ wr.drew.cell? ⟨g', o' + i * 15 + 2, none⟩ = some (.int .i64 g2) ∧ wr.drew.cell? ⟨g', o' + i * 15 + 3, none⟩ = some (.int .i64 g3) ∧ wr.drew.cell? ⟨g', o' + i * 15 + 4, none⟩ = some (.int .i64 g4) ∧ wr.drew.cell? ⟨g', o' + i * 15 + 5, none⟩ = some (.bool g5) ∧ wr.drew.cell? ⟨g', o' + i * 15 + 6, none⟩ = some (av') ∧ wr.drew.cell? ⟨g', o' + i * 15 + 7, none⟩ = some (rv') ∧ wr.drew.cell? ⟨g', o' + i * 15 + 8, none⟩ = some (qv') ∧ wr.drew.cell? ⟨g', o' + i * 15 + 9, none⟩ = some (jv') ∧ wr.drew.cell? ⟨g', o' + i * 15 + 10, none⟩ = some (.int .i64 g10) ∧ wr.drew.cell? ⟨g', o' + i * 15 + 11, none⟩ = some (.int .i64 g11) ∧ wr.drew.cell? ⟨g', o' + i * 15 + 12, none⟩ = some (nv') ∧ wr.drew.cell? ⟨g', o' + i * 15 + 13, none⟩ = some (.int .i64 g13) ∧ wr.drew.cell? ⟨g', o' + i * 15 + 14, none⟩ = some (.int .i64 g14)) := S0
      have K0 : Hid (Calls Tryz.prog 18 #[.agg #[.int .i64 g0, .int .i64 g1, .int .i64 g2, .int .i64 g3, .int .i64 g4, .bool g5, av, rv, qv, jv, .int .i64 g10, .int .i64 g11, nv, .int .i64 g13, .int .i64 g14], .agg #[.int .i64 g0, .int .i64 g1, .int .i64 g2, .int .i64 g3, .int .i64 g4, .bool g5, av', rv', qv', jv', .int .i64 g10, .int .i64 g11, nv', .int .i64 g13, .int .i64 g14]] wr.drew fun e w' => e = .returned (.bool true) ∧ Below w.heap.size w w' ∧ (w'.cell? ⟨g, o + i * 15, none⟩ = some (.int .i64 g0) ∧ w'.cell? ⟨g, o + i * 15 + 1, none⟩ = some (.int .i64 g1) ∧ w'.cell? ⟨g, o + i * 15 + 2, none⟩ = some (.int .i64 g2) ∧ w'.cell? ⟨g, o + i * 15 + 3, none⟩ = some (.int .i64 g3) ∧ w'.cell? ⟨g, o + i * 15 + 4, none⟩ = some (.int .i64 g4) ∧ w'.cell? ⟨g, o + i * 15 + 5, none⟩ = some (.bool g5) ∧ w'.cell? ⟨g, o + i * 15 + 6, none⟩ = some (av) ∧ w'.cell? ⟨g, o + i * 15 + 7, none⟩ = some (rv) ∧ w'.cell? ⟨g, o + i * 15 + 8, none⟩ = some (qv) ∧ w'.cell? ⟨g, o + i * 15 + 9, none⟩ = some (jv) ∧ w'.cell? ⟨g, o + i * 15 + 10, none⟩ = some (.int .i64 g10) ∧ w'.cell? ⟨g, o + i * 15 + 11, none⟩ = some (.int .i64 g11) ∧ w'.cell? ⟨g, o + i * 15 + 12, none⟩ = some (nv) ∧ w'.cell? ⟨g, o + i * 15 + 13, none⟩ = some (.int .i64 g13) ∧ w'.cell? ⟨g, o + i * 15 + 14, none⟩ = some (.int .i64 g14)) ∧ (w'.cell? ⟨g', o' + i * 15, none⟩ = some (.int .i64 g0) ∧ w'.cell? ⟨g', o' + i * 15 + 1, none⟩ = some (.int .i64 g1) ∧ w'.cell? ⟨g', o' + i * 15 + 2, none⟩ = some (.int .i64 g2) ∧ w'.cell? ⟨g', o' + i * 15 + 3, none⟩ = some (.int .i64 g3) ∧ w'.cell? ⟨g', o' + i * 15 + 4, none⟩ = some (.int .i64 g4) ∧ w'.cell? ⟨g', o' + i * 15 + 5, none⟩ = some (.bool g5) ∧ w'.cell? ⟨g', o' + i * 15 + 6, none⟩ = some (av') ∧ w'.cell? ⟨g', o' + i * 15 + 7, none⟩ = some (rv') ∧ w'.cell? ⟨g', o' + i * 15 + 8, none⟩ = some (qv') ∧ w'.cell? ⟨g', o' + i * 15 + 9, none⟩ = some (jv') ∧ w'.cell? ⟨g', o' + i * 15 + 10, none⟩ = some (.int .i64 g10) ∧ w'.cell? ⟨g', o' + i * 15 + 11, none⟩ = some (.int .i64 g11) ∧ w'.cell? ⟨g', o' + i * 15 + 12, none⟩ = some (nv') ∧ w'.cell? ⟨g', o' + i * 15 + 13, none⟩ = some (.int .i64 g13) ∧ w'.cell? ⟨g', o' + i * 15 + 14, none⟩ = some (.int .i64 g14))) := by
        refine Calls.mono K ?_
        rintro e w' ⟨h1, h2⟩
        have b9 := bw_tr bD h2
        refine ⟨h1, bw_tr (unhide hbel) b9, ⟨by rw [b9.cell (lt_of_cell c0)]; exact c0, by rw [b9.cell (lt_of_cell c1)]; exact c1, by rw [b9.cell (lt_of_cell c2)]; exact c2, by rw [b9.cell (lt_of_cell c3)]; exact c3, by rw [b9.cell (lt_of_cell c4)]; exact c4, by rw [b9.cell (lt_of_cell c5)]; exact c5, by rw [b9.cell (lt_of_cell c6)]; exact c6, by rw [b9.cell (lt_of_cell c7)]; exact c7, by rw [b9.cell (lt_of_cell c8)]; exact c8, by rw [b9.cell (lt_of_cell c9)]; exact c9, by rw [b9.cell (lt_of_cell c10)]; exact c10, by rw [b9.cell (lt_of_cell c11)]; exact c11, by rw [b9.cell (lt_of_cell c12)]; exact c12, by rw [b9.cell (lt_of_cell c13)]; exact c13, by rw [b9.cell (lt_of_cell c14)]; exact c14⟩, ⟨by rw [b9.cell (lt_of_cell d0)]; exact d0, by rw [b9.cell (lt_of_cell d1)]; exact d1, by rw [b9.cell (lt_of_cell d2)]; exact d2, by rw [b9.cell (lt_of_cell d3)]; exact d3, by rw [b9.cell (lt_of_cell d4)]; exact d4, by rw [b9.cell (lt_of_cell d5)]; exact d5, by rw [b9.cell (lt_of_cell d6)]; exact d6, by rw [b9.cell (lt_of_cell d7)]; exact d7, by rw [b9.cell (lt_of_cell d8)]; exact d8, by rw [b9.cell (lt_of_cell d9)]; exact d9, by rw [b9.cell (lt_of_cell d10)]; exact d10, by rw [b9.cell (lt_of_cell d11)]; exact d11, by rw [b9.cell (lt_of_cell d12)]; exact d12, by rw [b9.cell (lt_of_cell d13)]; exact d13, by rw [b9.cell (lt_of_cell d14)]; exact d14⟩⟩
      have hi1 : (i : Int) < (N : Int) := by omega
      clear ha hb hN hz HH hc1 hc2 hx hy K bD hbel c0 d0 c1 d1 c2 d2 c3 d3 c4 d4 c5 d5 c6 d6 c7 d7 c8 d8 c9 d9 c10 d10 c11 d11 c12 d12 c13 d13 c14 d14
      go_wp2_with fail
      go_region_held3 (fun w' : World => (w'.cell? ⟨g, o + i * 15, none⟩ = some (.int .i64 g0) ∧ w'.cell? ⟨g, o + i * 15 + 1, none⟩ = some (.int .i64 g1) ∧ w'.cell? ⟨g, o + i * 15 + 2, none⟩ = some (.int .i64 g2) ∧ w'.cell? ⟨g, o + i * 15 + 3, none⟩ = some (.int .i64 g3) ∧ w'.cell? ⟨g, o + i * 15 + 4, none⟩ = some (.int .i64 g4) ∧ w'.cell? ⟨g, o + i * 15 + 5, none⟩ = some (.bool g5) ∧ w'.cell? ⟨g, o + i * 15 + 6, none⟩ = some (av) ∧ w'.cell? ⟨g, o + i * 15 + 7, none⟩ = some (rv) ∧ w'.cell? ⟨g, o + i * 15 + 8, none⟩ = some (qv) ∧ w'.cell? ⟨g, o + i * 15 + 9, none⟩ = some (jv) ∧ w'.cell? ⟨g, o + i * 15 + 10, none⟩ = some (.int .i64 g10) ∧ w'.cell? ⟨g, o + i * 15 + 11, none⟩ = some (.int .i64 g11) ∧ w'.cell? ⟨g, o + i * 15 + 12, none⟩ = some (nv) ∧ w'.cell? ⟨g, o + i * 15 + 13, none⟩ = some (.int .i64 g13) ∧ w'.cell? ⟨g, o + i * 15 + 14, none⟩ = some (.int .i64 g14)) ∧ (w'.cell? ⟨g', o' + i * 15, none⟩ = some (.int .i64 g0) ∧ w'.cell? ⟨g', o' + i * 15 + 1, none⟩ = some (.int .i64 g1) ∧ w'.cell? ⟨g', o' + i * 15 + 2, none⟩ = some (.int .i64 g2) ∧ w'.cell? ⟨g', o' + i * 15 + 3, none⟩ = some (.int .i64 g3) ∧ w'.cell? ⟨g', o' + i * 15 + 4, none⟩ = some (.int .i64 g4) ∧ w'.cell? ⟨g', o' + i * 15 + 5, none⟩ = some (.bool g5) ∧ w'.cell? ⟨g', o' + i * 15 + 6, none⟩ = some (av') ∧ w'.cell? ⟨g', o' + i * 15 + 7, none⟩ = some (rv') ∧ w'.cell? ⟨g', o' + i * 15 + 8, none⟩ = some (qv') ∧ w'.cell? ⟨g', o' + i * 15 + 9, none⟩ = some (jv') ∧ w'.cell? ⟨g', o' + i * 15 + 10, none⟩ = some (.int .i64 g10) ∧ w'.cell? ⟨g', o' + i * 15 + 11, none⟩ = some (.int .i64 g11) ∧ w'.cell? ⟨g', o' + i * 15 + 12, none⟩ = some (nv') ∧ w'.cell? ⟨g', o' + i * 15 + 13, none⟩ = some (.int .i64 g13) ∧ w'.cell? ⟨g', o' + i * 15 + 14, none⟩ = some (.int .i64 g14))) (first | with_reducible exact S0 | with_reducible exact S00 | with_reducible exact S1) (first
        | (go_at_call 18; refine (unhide K0).mono ?_; rintro e z1 ⟨rfl, B1, S1⟩)
        | fail)
      all_goals
        have B9 := hide B1
        clear S0 S00 S1 B1 K0
        go_wp2_with fail
        go_roundw
        case rel => exact ⟨i + 1, by go_num, by omega, B9⟩
        case measure => simp [intOf]; omega
    · have hie : i = N := by omega
      subst hie
      clear HH
      go_wp2_with fail
      go_ret
      exact ⟨rfl, unhide hbel⟩
end Go.Proofs.YtnfhbmlmemifjaaGreatDoor

/- SameLog, SameLogs of equal ones. -/
namespace Go.Proofs.YtnfhbmlmemifjaaGreatDoor
open Go.RowKit Go.Maps
set_option maxRecDepth 100000 in
set_option maxHeartbeats 4000000 in
theorem samelog_any {w : World} {g : Int} {va vb : Value} {l : List Cm} (ha : Cms w va l) (hb : Cms w vb l) :
    Calls Tryz.prog 170 #[.agg #[.int .i64 g, va], .agg #[.int .i64 g, vb]] w fun e w' => e = .returned (.bool true) ∧ Below w.heap.size w w' := by
  obtain ⟨w0, hw0⟩ : ∃ w0, w0 = (w.alloc (.cells #[.int .i64 g, va] 95)).alloc (.cells #[.int .i64 g, vb] 95) := ⟨_, rfl⟩
  have bl : Below w.heap.size w w0 := by rw [hw0]; exact bw_tr (bwA _ _) (bwA _ _)
  have kx : w0.heap[w.heap.size]? = some (.cells #[.int .i64 g, va] 95 (0, 0)) := by
    have h1 := heap_alloc_new w (.cells #[.int .i64 g, va] 95)
    rw [hw0, Below.heap_alloc _ _ _ (by simp)]; exact h1
  have ky : w0.heap[w.heap.size + 1]? = some (.cells #[.int .i64 g, vb] 95 (0, 0)) := by
    have h2 := heap_alloc_new (w.alloc (.cells #[.int .i64 g, va] 95)) (.cells #[.int .i64 g, vb] 95)
    have e : (w.alloc (.cells #[.int .i64 g, va] 95)).heap.size = w.heap.size + 1 := by simp
    rw [e] at h2
    rw [hw0]; exact h2
  have K := hide (samecms_any (ha.bw bl) (hb.bw bl))
  obtain ⟨a, ca, rfl⟩ := ha.slice
  obtain ⟨b, cb, rfl⟩ := hb.slice
  have c0 : w0.cell? ⟨w.heap.size, 0, none⟩ = some (.int .i64 g) := blk_c kx rfl
  have c1 : w0.cell? ⟨w.heap.size, 1, none⟩ = some (.slice a l.length ca) := blk_c kx rfl
  have d0 : w0.cell? ⟨w.heap.size + 1, 0, none⟩ = some (.int .i64 g) := blk_c ky rfl
  have d1 : w0.cell? ⟨w.heap.size + 1, 1, none⟩ = some (.slice b l.length cb) := blk_c ky rfl
  have HW := hide hw0
  have BL := hide bl
  clear ha hb hw0 bl kx ky
  generalize l.length = N at *
  go_enter Tryz.func170, Tryz.ntmps170
  go_upto_region 1 with fail
  rw [← unhide HW]
  clear HW
  go_wp2_with fail
  refine (unhide K).mono ?_
  rintro e w1 ⟨rfl, b1⟩
  have B1 := hide (bw_tr (unhide BL) b1)
  clear b1 K BL c0 c1 d0 d1
  go_wp2
  go_ret
  exact ⟨rfl, unhide B1⟩
set_option maxRecDepth 100000 in
set_option maxHeartbeats 8000000 in
theorem samelogs_any {w : World} {va vb : Value} {l : List (Int × List Cm)} (ha : Lgs w va l) (hb : Lgs w vb l) :
    Calls Tryz.prog 30 #[va, vb] w fun e w' => e = .returned (.bool true) ∧ Below w.heap.size w w' := by
  obtain ⟨a, ca, rfl⟩ := ha.slice
  obtain ⟨b, cb, rfl⟩ := hb.slice
  have hlA := ha.len
  obtain ⟨N, hN⟩ : ∃ N, N = l.length := ⟨_, rfl⟩
  rw [← hN] at ha hb hlA ⊢
  have hNb : (N : Int) ≤ 140737488355328 := by omega
  have HH := hide (And.intro ha (And.intro hb hN))
  clear ha hb hN hlA
  go_enter Tryz.func30, Tryz.ntmps30
  go_wp2_with fail
  go_loopw [13] (fun iv wr => ∃ i : Nat, iv = .int .i64 i ∧ i ≤ N ∧ Hid (Below w.heap.size w wr)) (fun iv _ => (N - (intOf iv)).toNat)
  case atStart => exact ⟨0, rfl, by omega, Below.refl _ _⟩
  case round =>
    obtain ⟨i, rfl, hi, hbel⟩ := hrel
    by_cases hin : i < N
    · obtain ⟨ha, hb, hN⟩ := unhide HH
      obtain ⟨⟨p, q⟩, hz⟩ : ∃ z, l[i]? = some z := ⟨_, List.getElem?_eq_getElem (by omega)⟩
      obtain ⟨g, o, rfl, x, hx, c0, c1⟩ := (ha.bw (unhide hbel)).get hz
      obtain ⟨g', o', rfl, y, hy, d0, d1⟩ := (hb.bw (unhide hbel)).get hz
      simp only at hx hy c0 d0
      have bD : Below wr.heap.size wr wr.drew := (Below.refl _ _).drew
      have K := samelog_any (g := p) (hx.bw bD) (hy.bw bD)
      obtain ⟨a2, ca2, rfl⟩ := hx.slice
      obtain ⟨b2, cb2, rfl⟩ := hy.slice
      have S0 : (wr.cell? ⟨g, o + i * 2, none⟩ = some (.int .i64 p) ∧ wr.cell? ⟨g, o + i * 2 + 1, none⟩ = some (.slice a2 q.length ca2)) ∧ (wr.cell? ⟨g', o' + i * 2, none⟩ = some (.int .i64 p) ∧ wr.cell? ⟨g', o' + i * 2 + 1, none⟩ = some (.slice b2 q.length cb2)) := ⟨⟨c0, c1⟩, ⟨d0, d1⟩⟩
      have S00 : (wr.drew.cell? ⟨g, o + i * 2, none⟩ = some (.int .i64 p) ∧ wr.drew.cell? ⟨g, o + i * 2 + 1, none⟩ = some (.slice a2 q.length ca2)) ∧ (wr.drew.cell? ⟨g', o' + i * 2, none⟩ = some (.int .i64 p) ∧ wr.drew.cell? ⟨g', o' + i * 2 + 1, none⟩ = some (.slice b2 q.length cb2)) := S0
      have K0 : Hid (Calls Tryz.prog 170 #[.agg #[.int .i64 p, .slice a2 q.length ca2], .agg #[.int .i64 p, .slice b2 q.length cb2]] wr.drew fun e w' => e = .returned (.bool true) ∧ Below w.heap.size w w' ∧ (w'.cell? ⟨g, o + i * 2, none⟩ = some (.int .i64 p) ∧ w'.cell? ⟨g, o + i * 2 + 1, none⟩ = some (.slice a2 q.length ca2)) ∧ (w'.cell? ⟨g', o' + i * 2, none⟩ = some (.int .i64 p) ∧ w'.cell? ⟨g', o' + i * 2 + 1, none⟩ = some (.slice b2 q.length cb2))) := by
        refine Calls.mono K ?_
        rintro e w' ⟨h1, h2⟩
        have b9 := bw_tr bD h2
        exact ⟨h1, bw_tr (unhide hbel) b9, ⟨by rw [b9.cell (lt_of_cell c0)]; exact c0, by rw [b9.cell (lt_of_cell c1)]; exact c1⟩, ⟨by rw [b9.cell (lt_of_cell d0)]; exact d0, by rw [b9.cell (lt_of_cell d1)]; exact d1⟩⟩
      have hi1 : (i : Int) < (N : Int) := by omega
      clear ha hb hN hz HH hx hy K bD hbel c0 c1 d0 d1
      generalize q.length = M at *
      go_wp2_with fail
      go_region_held3 (fun w' : World => (w'.cell? ⟨g, o + i * 2, none⟩ = some (.int .i64 p) ∧ w'.cell? ⟨g, o + i * 2 + 1, none⟩ = some (.slice a2 M ca2)) ∧ (w'.cell? ⟨g', o' + i * 2, none⟩ = some (.int .i64 p) ∧ w'.cell? ⟨g', o' + i * 2 + 1, none⟩ = some (.slice b2 M cb2))) (first | with_reducible exact S0 | with_reducible exact S00 | with_reducible exact S1) (first
        | (go_at_call 170; refine (unhide K0).mono ?_; rintro e z1 ⟨rfl, B1, S1⟩)
        | fail)
      all_goals
        have B9 := hide B1
        clear S0 S00 S1 B1 K0
        go_wp2_with fail
        go_roundw
        case rel => exact ⟨i + 1, by go_num, by omega, B9⟩
        case measure => simp [intOf]; omega
    · have hie : i = N := by omega
      subst hie
      clear HH
      go_wp2_with fail
      go_ret
      exact ⟨rfl, unhide hbel⟩
end Go.Proofs.YtnfhbmlmemifjaaGreatDoor
