/- Texts joined: QuOnE QuLawOnce. -/
import Derived.Test.YtgiicendejgklaaZ32
import Derived.Test.YtgiicendejgklaaZ29
import Derived.Great.BuildSlice
import Derived.Deep.CutRange
/- QueueOnce: something comes and is told; the last rounds. No walk is in this text. -/
namespace Go.Proofs.Ytgiicendejgklaa
open Go.RowKit Go.Maps
theorem QC.takeT {w wr : World} {hv tv lv : Value} {np a e0 d : Nat} {gw gt : Option Nat} (h : QC w wr hv tv lv np a e0 d gw gt) {s : Nat} (hs : s < np) {y : Fx} (hy : FdR wr (DP s).fd y) (hu : Try.prog.underlying 52 = some (.slice 43)) :
    Calls Try.prog 12 #[tv, .agg (ptC (DP s) y).toArray] wr fun e w' => ∃ v' tad tc bad bc D, e = .returned (.tuple #[v', .slice tad D tc, .slice bad 1 bc, .int .i64 0]) ∧ e0 + D ≤ np ∧
      (∃ cs news bx, RowW 43 53 w.heap.size w' lv d cs gt ∧ w.heap.size ≤ w'.heap.size ∧ Src Try.prog 53 52 (.slice tad D tc) D news w' ∧ (s ≤ e0 → s < e0 + D) ∧ Below wr.heap.size wr w' ∧ (∀ k, gt = some k → gw ≠ some k) ∧
        ∀ (_ : d = e0) lv' W gt', RowW 43 53 w.heap.size W lv' (d + D) (cs ++ news) gt' → Kp gt w' W → (gt' = gt ∨ ∀ k, gt' = some k → w'.heap.size ≤ k) → QC w W hv v' lv' np a (e0 + D) (d + D) gw gt' ∧ RdL kPk W (.slice bad 1 bc) [AP (e0 + D)] bx) := by
  have hgt := h.gtb
  refine (h.take hs hy).mono ?_
  rintro e w' ⟨v', tad, tc, bad, bc, D, tx, bx, rfl, hle, k1, k2, k3, k4, k5⟩
  obtain ⟨fs, r1, r2, r3, r4⟩ := k1.told
  refine ⟨v', tad, tc, bad, bc, D, rfl, hle, _, cellK kFd (fds e0 D) tx, bx, r1, k1.bel.size, ?_, k5, k2, r3, ?_⟩
  · have := rdl_src k3.rd hu
    rw [fds_len] at this
    exact this
  · intro hd lv' W gt' m1 m2 m3
    refine ⟨r4 D tx lv' W gt' (by rw [k3.rd.xl, fds_len]) (by rw [hd] at m1 ⊢; exact m1) m2 m3, k4 W ⟨m2.size, fun k q1 q2 => m2.block k q2 (fun c => ?_)⟩⟩
    have := hgt k c; omega
theorem QS.takeT {w wr : World} {hv tv wv lv : Value} {np a e0 n : Nat} (h : QS w wr hv tv wv lv np a e0 e0 n) {s : Nat} (hs : s < np) {y : Fx} (hy : FdR wr (DP s).fd y) (hu : Try.prog.underlying 52 = some (.slice 43)) :
    Calls Try.prog 12 #[tv, .agg (ptC (DP s) y).toArray] wr fun e w' => ∃ v' tad tc bad bc D, e = .returned (.tuple #[v', .slice tad D tc, .slice bad 1 bc, .int .i64 0]) ∧ e0 + D ≤ np ∧
      Hid (∃ gt cs news bx, RowW 43 53 w.heap.size w' lv e0 cs gt ∧ w.heap.size ≤ w'.heap.size ∧ Src Try.prog 53 52 (.slice tad D tc) D news w' ∧
        ∀ lv' W gt', RowW 43 53 w.heap.size W lv' (e0 + D) (cs ++ news) gt' → Kp gt w' W → (gt' = gt ∨ ∀ k, gt' = some k → w'.heap.size ≤ k) → QS w W hv v' wv lv' np a (e0 + D) (e0 + D) n ∧ RdL kPk W (.slice bad 1 bc) [AP (e0 + D)] bx) := by
  obtain ⟨gw, gt, h1, h2⟩ := h
  refine (h1.takeT hs hy hu).mono ?_
  rintro e w' ⟨v', tad, tc, bad, bc, D, rfl, hle, cs, news, bx, k1, k2, k3, _, k5, k6, k7⟩
  refine ⟨v', tad, tc, bad, bc, D, rfl, hle, gt, cs, news, bx, k1, k2, k3, fun lv' W gt' m1 m2 m3 => ?_⟩
  obtain ⟨q1, q2⟩ := k7 rfl lv' W gt' m1 m2 m3
  refine ⟨⟨gw, gt', q1, ?_⟩, q2⟩
  obtain ⟨ps, xs, e1, e2, e3⟩ := (h2.bw k5).mono (Nat.le_refl _) (show e0 ≤ e0 + D by omega)
  exact ⟨ps, xs, e1, e2.keep (fun k hk => m2.block k (e2.lt k hk).2 (fun c => k6 k c hk)), e3⟩
def QF (w wr : World) (hv tv lv pv : Value) (np a e0 d a0 K : Nat) : Prop := ∃ gt, QC w wr hv tv lv np a e0 d none gt ∧ HL kPk wr pv (dps a0 K) [gt]
theorem QF.start {w wr : World} {hv tv wv lv : Value} {np a e0 d n : Nat} (h : QS w wr hv tv wv lv np a e0 d n) :
    Calls Try.prog 16 #[hv, .int .i64 0] wr fun e w' => ∃ ad c, e = .returned (.tuple #[.slice ad (np - a) c, .int .i64 0]) ∧ Hid (QF w w' hv tv lv (.slice ad (np - a) c) np a e0 d a (np - a)) := by
  obtain ⟨gw, gt, h1, h2⟩ := h
  have hgt := h1.gtb
  refine h1.quit.sent.mono ?_
  rintro e w' ⟨ad, c, xs, rfl, k1, k2, k3⟩
  refine ⟨ad, c, rfl, gt, k1, HL.of k3 ?_⟩
  intro g hg k hk
  simp only [List.mem_singleton] at hg
  subst hg
  exact hgt k hk
theorem QF.bel {w wr : World} {hv tv lv pv : Value} {np a e0 d a0 K : Nat} (h : QF w wr hv tv lv pv np a e0 d a0 K) : Below w.heap.size w wr ∧ np ≤ 60 ∧ a ≤ e0 ∧ e0 ≤ np := by
  obtain ⟨gt, h1, _⟩ := h
  exact ⟨h1.bel, h1.n60, h1.ae, h1.en⟩
theorem QC.slice {w wr : World} {hv tv lv : Value} {np a e0 d : Nat} {gw gt : Option Nat} (h : QC w wr hv tv lv np a e0 d gw gt) : ∃ ad c, lv = .slice ad d c := by
  obtain ⟨fs, r, _⟩ := h.told
  exact r.slice
theorem QC.toldAt {w wr : World} {hv tv lv : Value} {np a e0 d : Nat} {gw gt : Option Nat} (h : QC w wr hv tv lv np a e0 d gw gt) {i : Nat} (hi : i < d) : ∃ g o c, lv = .slice (some ⟨g, o, none⟩) d c ∧ wr.cell? ⟨g, o + i * 53, none⟩ = some (.int .u8 4) ∧ wr.cell? ⟨g, o + i * 53 + 1, none⟩ = some (.int .i64 (i : Int)) := by
  obtain ⟨fs, r, hf, _⟩ := h.told
  rcases r.2 with ⟨_, h0, _⟩ | ⟨g, o, c, cur, _, _, rfl, k1, k2, hg, k3, k4⟩
  · omega
  have hp1 : (fds 0 d)[i]? = some (fdK 4 (i : Int)) := by rw [fds_get hi]; simp
  have hx1 := List.getElem?_eq_getElem (show i < fs.length by omega)
  have c0 := cellK_get (K := kFd) (j := 0) hp1 hx1 (show (fdC (fdK 4 (i : Int)) fs[i])[0]? = some (.int .u8 4) from rfl)
  have c1 := cellK_get (K := kFd) (j := 1) hp1 hx1 (show (fdC (fdK 4 (i : Int)) fs[i])[1]? = some (.int .i64 (i : Int)) from rfl)
  refine ⟨g, o, c, rfl, blk_c hg (k4 _ _ c0), ?_⟩
  have := blk_c hg (k4 _ _ c1)
  rw [Nat.add_assoc]; exact this
theorem QS.toldAt {w wr : World} {hv tv wv lv : Value} {np a e0 d n : Nat} (h : QS w wr hv tv wv lv np a e0 d n) {i : Nat} (hi : i < d) : ∃ g o c, lv = .slice (some ⟨g, o, none⟩) d c ∧ wr.cell? ⟨g, o + i * 53, none⟩ = some (.int .u8 4) ∧ wr.cell? ⟨g, o + i * 53 + 1, none⟩ = some (.int .i64 (i : Int)) := by
  obtain ⟨gw, gt, h1, _⟩ := h
  exact h1.toldAt hi
theorem QF.toldAt {w wr : World} {hv tv lv pv : Value} {np a e0 d a0 K : Nat} (h : QF w wr hv tv lv pv np a e0 d a0 K) {i : Nat} (hi : i < d) : ∃ g o c, lv = .slice (some ⟨g, o, none⟩) d c ∧ wr.cell? ⟨g, o + i * 53, none⟩ = some (.int .u8 4) ∧ wr.cell? ⟨g, o + i * 53 + 1, none⟩ = some (.int .i64 (i : Int)) := by
  obtain ⟨gt, h1, _⟩ := h
  exact h1.toldAt hi
theorem QF.slice {w wr : World} {hv tv lv pv : Value} {np a e0 d a0 K : Nat} (h : QF w wr hv tv lv pv np a e0 d a0 K) : ∃ ad c, lv = .slice ad d c := by
  obtain ⟨gt, h1, _⟩ := h
  exact h1.slice
theorem QF.at {w wr : World} {hv tv lv pv : Value} {np a e0 d a0 K : Nat} (h : QF w wr hv tv lv pv np a e0 d a0 K) {i : Nat} (hi : i < K) :
    ∃ x g o c, pv = .slice (some ⟨g, o, none⟩) K c ∧ wr.rangeAt g (o + i * 57) (ptC (DP (a0 + i)) x) ∧ ∀ W, FdR W (DP (a0 + i)).fd x := by
  obtain ⟨gt, _, h2⟩ := h
  obtain ⟨xs, hr⟩ := h2.rd
  obtain ⟨ad, c, rfl⟩ := rdl_slice hr
  rw [dps_len] at hr ⊢
  obtain ⟨p, x, g, o, e, hp, hx, hk, hrg⟩ := rdl_at hr (i := i) (by rw [dps_len]; exact hi)
  rw [dps_get hi] at hp
  simp only [Option.some.injEq] at hp
  subst hp; subst e
  exact ⟨x, g, o, c, rfl, hrg, fun W => fdK_any hk.1 W⟩
theorem QF.takeT {w wr : World} {hv tv lv pv : Value} {np a e0 a0 K : Nat} (h : QF w wr hv tv lv pv np a e0 e0 a0 K) {s : Nat} (hs : s < np) {y : Fx} (hy : FdR wr (DP s).fd y) (hu : Try.prog.underlying 52 = some (.slice 43)) :
    Calls Try.prog 12 #[tv, .agg (ptC (DP s) y).toArray] wr fun e w' => ∃ v' tad tc bad bc D, e = .returned (.tuple #[v', .slice tad D tc, .slice bad 1 bc, .int .i64 0]) ∧ e0 + D ≤ np ∧ (s ≤ e0 → s < e0 + D) ∧
      Hid (∃ gt cs news bx, RowW 43 53 w.heap.size w' lv e0 cs gt ∧ w.heap.size ≤ w'.heap.size ∧ Src Try.prog 53 52 (.slice tad D tc) D news w' ∧
        ∀ lv' W gt', RowW 43 53 w.heap.size W lv' (e0 + D) (cs ++ news) gt' → Kp gt w' W → (gt' = gt ∨ ∀ k, gt' = some k → w'.heap.size ≤ k) → QF w W hv v' lv' pv np a (e0 + D) (e0 + D) a0 K ∧ RdL kPk W (.slice bad 1 bc) [AP (e0 + D)] bx) := by
  obtain ⟨gt, h1, h2⟩ := h
  refine (h1.takeT hs hy hu).mono ?_
  rintro e w' ⟨v', tad, tc, bad, bc, D, rfl, hle, cs, news, bx, k1, k2, k3, k4, k5, k6, k7⟩
  refine ⟨v', tad, tc, bad, bc, D, rfl, hle, k4, gt, cs, news, bx, k1, k2, k3, fun lv' W gt' m1 m2 m3 => ?_⟩
  obtain ⟨q1, q2⟩ := k7 rfl lv' W gt' m1 m2 m3
  refine ⟨⟨gt', q1, ?_⟩, q2⟩
  have a1 : HL kPk w' pv (dps a0 K) [gt, gt'] := (h2.bw k5).sub (fun g hg => by
    simp only [List.mem_cons, List.not_mem_nil, or_false] at hg ⊢
    rcases hg with c | c
    · exact Or.inl c
    · rcases m3 with d | d
      · exact Or.inl (by rw [c, d])
      · exact Or.inr (fun k hk => d k (by rw [← c, hk])))
  exact (a1.kp (Or.inr (by simp)) m2).sub (fun g hg => Or.inl (by simp only [List.mem_singleton] at hg; subst hg; simp))
theorem QF.hear {w wr : World} {hv tv lv pv : Value} {np a e0 d a0 K : Nat} (h : QF w wr hv tv lv pv np a e0 d a0 K) {s : Nat} (hs : s ≤ e0) (hn : 0 < np) {y : Fx} (hy : FdR wr (AP s).fd y) :
    Calls Try.prog 12 #[hv, .agg (ptC (AP s) y).toArray] wr fun e w' => ∃ v', e = .returned (.tuple #[v', .slice none 0 0, .slice none 0 0, .int .i64 0]) ∧ Hid (QF w w' v' tv lv pv np (max a s) e0 d a0 K) := by
  obtain ⟨gt, h1, h2⟩ := h
  refine (h1.hear hs hn hy).mono ?_
  rintro e w' ⟨v', rfl, k1, k2⟩
  exact ⟨v', rfl, gt, k1, h2.bw k2⟩
theorem QF.sent {w wr : World} {hv tv lv pv : Value} {np a e0 d a0 K : Nat} (h : QF w wr hv tv lv pv np a e0 d a0 K) :
    Calls Try.prog 16 #[hv, .int .i64 0] wr fun e w' => ∃ ad c, e = .returned (.tuple #[.slice ad (np - a) c, .int .i64 0]) ∧ Below wr.heap.size wr w' := by
  obtain ⟨gt, h1, _⟩ := h
  refine h1.sent.mono ?_
  rintro e w' ⟨ad, c, xs, rfl, k1, k2, k3⟩
  exact ⟨ad, c, rfl, k2⟩
end Go.Proofs.Ytgiicendejgklaa

/- QueueOnce: the walk. -/
namespace Go.Proofs.Ytgiicendejgklaa
open Go.RowKit Go.Maps
theorem i64_and1023 (n : Int) : bits .and .i64 n 1023 = n % 1024 := by
  have h63 : (BitVec.ofInt 64 1023).toNat = 2 ^ 10 - 1 := by decide
  have key : (BitVec.ofInt 64 n &&& BitVec.ofInt 64 1023).toNat = (n % ((2 ^ 64 : Nat) : Int)).toNat % 2 ^ 10 := by
    rw [BitVec.toNat_and, BitVec.toNat_ofInt, h63, Nat.and_two_pow_sub_one_eq_mod]
  show IntKind.i64.wrap ((BitVec.ofInt 64 n &&& BitVec.ofInt 64 1023).toNat : Nat) = n % 1024
  rw [key, IntKind.wrap_i64]
  omega
set_option maxRecDepth 100000 in
set_option maxHeartbeats 8000000 in
theorem once_any {w : World} {v : Value} {l : List Int} (h : Nums w v l) (hl : l.length ≤ 140737488355328) (M : Int) :
    Calls Try.prog 4 #[v, .int .i64 M] w fun e w' => e = .returned (.bool true) ∧ Below w.heap.size w w' := by
  have KAL : Hid (∀ V2, Calls Try.prog 14 #[] V2 fun e w' => e = .returned (.bool true) ∧ Below V2.heap.size V2 w') := fun V2 => alive17_any V2
  obtain ⟨a, cap, rfl⟩ := nums_slice h
  have HO : Hid (∀ W, Below w.heap.size w W → ∀ i, i < l.length → ∃ g o z, a = some ⟨g, o, none⟩ ∧ W.cell? ⟨g, o + i, none⟩ = some (.int .i64 z)) := fun W hW i hi => by
    obtain ⟨g, o, cap', hv, hc⟩ := h.open (by omega)
    cases hv
    have := hc i _ (List.getElem?_eq_getElem hi)
    exact ⟨g, o, _, rfl, by rw [hW.cell (lt_of_cell this)]; exact this⟩
  obtain ⟨N, hN⟩ : ∃ N, N = l.length := ⟨_, rfl⟩
  rw [← hN] at HO hl ⊢
  have KBY := hide (beyond17a w.heap.size N 1 (w.alloc (.cells #[.int .i64 (N : Int)] 3)) (by omega) (blk_c (heap_alloc_new _ _) rfl))
  clear h hN
  go_enter Try.func4, Try.ntmps4
  go_wp2_with fail
  refine (unhide KBY).mono ?_
  rintro e w2 ⟨rfl, rfl⟩
  generalize hV : World.alloc w _ = V
  have HV : Hid (Below w.heap.size w V) := by rw [← hV]; exact bwA w _
  clear hV KBY
  by_cases hbig : 262144 < N
  · have hd : decide (262144 < N) = true := decide_eq_true hbig
    clear HO
    go_wp2_with fail
    refine (unhide KAL _).mono ?_
    rintro e w9 ⟨rfl, b9⟩
    clear KAL
    go_wp2_with fail
    go_ret
    exact ⟨rfl, bw_tr (unhide HV) b9⟩
  have hd : decide (262144 < N) = false := decide_eq_false hbig
  clear hbig
  by_cases hb2 : 2000 < N
  · have hd2 : decide ((2000 : Int) < (N : Int)) = true := decide_eq_true (by omega)
    clear HO
    go_wp2_with fail
    refine (unhide KAL _).mono ?_
    rintro e w9 ⟨rfl, b9⟩
    clear KAL
    go_wp2_with fail
    go_ret
    exact ⟨rfl, bw_tr (unhide HV) b9⟩
  have hd2 : decide ((2000 : Int) < (N : Int)) = false := decide_eq_false (by omega)
  by_cases hb3 : M < 0
  · clear HO
    go_wp2_with fail
    refine (unhide KAL _).mono ?_
    rintro e w9 ⟨rfl, b9⟩
    clear KAL
    go_wp2_with fail
    go_ret
    exact ⟨rfl, bw_tr (unhide HV) b9⟩
  by_cases hb4 : 60 < M
  · clear HO
    go_wp2_with fail
    refine (unhide KAL _).mono ?_
    rintro e w9 ⟨rfl, b9⟩
    clear KAL
    go_wp2_with fail
    go_ret
    exact ⟨rfl, bw_tr (unhide HV) b9⟩
  have hNN : (N : Int) ≤ 2000 := by omega
  obtain ⟨m, rfl⟩ : ∃ m : Nat, M = (m : Int) := ⟨M.toNat, by omega⟩
  have hm60 : m ≤ 60 := by omega
  have hd3 : decide ((m : Int) < 0) = false := decide_eq_false (by omega)
  have hd4 : decide ((60 : Int) < (m : Int)) = false := decide_eq_false (by omega)
  have HS0 : Hid (QS V V (.slice none 0 0) (.slice none 0 0) (.slice none 0 0) (.slice none 0 0) 0 0 0 0 0) := QS.start V
  clear hb2 hb3 hb4
  go_wp2_with fail
  go_loopw [5, 6, 7, 8, 9, 10, 11] (fun hv tv wv lv pv ev iv wr => ∃ (i np a_ e0 n : Nat), i ≤ N ∧ iv = .int .i64 (i : Int) ∧ pv = .int .i64 (np : Int) ∧ ev = .int .i64 0 ∧ np ≤ m ∧ n ≤ 61 * i ∧ Hid (QS V wr hv tv wv lv np a_ e0 e0 n)) (fun _ _ _ _ _ _ iv _ => (N - intOf iv).toNat)
  case atStart => exact ⟨0, 0, 0, 0, 0, Nat.zero_le _, rfl, rfl, rfl, Nat.zero_le _, Nat.zero_le _, HS0⟩
  case round =>
    clear HS0 hd hd2 hd3 hd4
    obtain ⟨i, np, a_, e0, n, hi, rfl, rfl, rfl, hpm, hn, HS⟩ := hrel
    by_cases hlt : i < N
    · obtain ⟨g, o, z, rfl, cz⟩ := unhide HO wr (bw_tr (unhide HV) (unhide HS).bel.1) i hlt
      have q1 : (i : Int) < (N : Int) := by omega
      obtain ⟨wt, hwt⟩ : ∃ k : Int, bits .and .i64 z 3 = k := ⟨_, rfl⟩
      have HSl := (unhide HS).slice
      have hbn := (unhide HS).bel.2
      obtain ⟨⟨wa, wk, rfl⟩, ⟨ta, tc, rfl⟩, _⟩ := HSl
      have q2 : ¬ (np : Int) < (e0 : Int) := by omega
      by_cases c0 : wt = 0
      · subst c0
        by_cases hp : np < m
        · have q3 : (np : Int) < (m : Int) := by omega
          have q4 : ¬ (np : Int) + 1 < (e0 : Int) := by omega
          have q5 : ((np + 1 : Nat) : Int) = (np : Int) + 1 := by omega
          obtain ⟨FC, hFC⟩ : ∃ z, z = (fdC (fdK 4 (np : Int)) fx00).toArray := ⟨_, rfl⟩
          have KF : Hid (Calls Try.prog 15 #[.int .i64 (np : Int)] wr fun e w' => e = .returned (.agg FC) ∧ Below wr.heap.size wr w') := by rw [hFC]; exact feed_any _
          have KP : Hid (∀ W, Below wr.heap.size wr W → Calls Try.prog 11 #[u5, .int .i64 1, .agg FC] W fun e w' => ∃ v', e = .returned (.tuple #[v', .int .i64 0]) ∧ Hid (QS V w' v' u6 (.slice wa n wk) (.slice ta e0 tc) (np + 1) a_ e0 e0 n)) := fun W hW => by rw [hFC]; exact ((unhide HS).bw hW).push (by omega) (fdK_r W 4 (np : Int))
          clear HO HS hFC
          go_wp2_with fail
          refine (unhide KF).mono ?_
          rintro e w3 ⟨rfl, b3⟩
          have KP1 := hide (unhide KP w3 b3)
          clear KF KP b3
          go_wp2_with fail
          refine (unhide KP1).mono ?_
          rintro e w4 ⟨hv, rfl, HS⟩
          clear KP1 cz
          go_wp2_with fail
          go_roundw
          case rel => exact ⟨i + 1, np + 1, a_, e0, n, by omega, by go_num, by go_num, rfl, by omega, by omega, HS⟩
          case measure => simp only [intOf]; omega
        · have q3 : ¬ (np : Int) < (m : Int) := by omega
          clear HO
          go_wp2_with fail
          go_roundw
          case rel => exact ⟨i + 1, np, a_, e0, n, by omega, by go_num, rfl, rfl, by omega, by omega, HS⟩
          case measure => simp only [intOf]; omega
      · by_cases c1 : wt = 1
        · subst c1
          have KS : Hid (Calls Try.prog 16 #[u5, .int .i64 0] wr fun e w' => ∃ ad c xs, e = .returned (.tuple #[.slice ad (np - a_) c, .int .i64 0]) ∧ Hid (QS V w' u5 u6 (.slice wa n wk) (.slice ta e0 tc) np a_ e0 e0 n ∧ RdA kPk wr.heap.size w' (.slice ad (np - a_) c) (dps a_ (np - a_)) xs)) := (unhide HS).sent
          clear HO HS
          go_wp2_with fail
          refine (unhide KS).mono ?_
          rintro e w3 ⟨pa, pc, xs, rfl, HS3⟩
          obtain ⟨gw, cs, news, r1, r2, r3, r4⟩ := (unhide HS3).1.add (unhide HS3).2.rd dps_ok (dps_len _ _) Try.underlying53
          obtain ⟨j0, hj, hz0, hz1, hz2⟩ := info_parts infoKPacket
          have HJ := hide (And.intro hj (And.intro hz0 (And.intro hz1 hz2)))
          have HR := hide (And.intro r1 (And.intro r2 (And.intro r3 r4)))
          clear KS cz hj hz0 hz1 hz2 r1 r2 r3 r4
          go_wp2_with (at_builtin; refine wpList_appW rfl (.tmp 127) (.tmp 128) 53 53 rfl rfl (unhide HR).1 Try.underlying53 (unhide HJ).1 (unhide HJ).2.1 (unhide HJ).2.2.1 (unhide HJ).2.2.2 rfl rfl (unhide HR).2.2.1 ?c1 ?c2 (unhide HR).2.1 ?nx)
          case c1 => unfold maxLen; omega
          case c2 => omega
          case nx =>
          intro v' w4 gw' k1 k2 k3
          have HS4 := hide ((unhide HR).2.2.2 v' w4 gw' k1 k2 k3)
          obtain ⟨K, hK⟩ : ∃ K, K = n + (np - a_) := ⟨_, rfl⟩
          have hKn : K ≤ 61 * (i + 1) := by omega
          rw [← hK] at HS4 k1
          obtain ⟨ad, c, rfl⟩ := k1.slice
          clear HR HJ HS3 k1 k2 k3 hK
          by_cases h5 : 500 < K
          · obtain ⟨g2, o2, c2, e2, hc2, _⟩ := (unhide HS4).slice.2.2 (by omega)
            simp only [Value.slice.injEq, true_and] at e2
            obtain ⟨rfl, rfl⟩ := e2
            obtain ⟨J, rfl⟩ : ∃ J, K = J + 500 := ⟨K - 500, by omega⟩
            have HST := hide ((unhide HS4).trim (lo := J) (by omega))
            rw [show J + 500 - J = 500 by omega] at HST
            have h6 : (500 : Int) < ((J + 500 : Nat) : Int) := by omega
            have h7 : ((J + 500 : Nat) : Int) - 500 = (J : Int) := by omega
            have h8 : ((J + 500 : Nat) : Int) ≤ (c : Int) := by omega
            clear HS4
            go_wp2_with fail
            go_roundw
            case rel => exact ⟨i + 1, np, a_, e0, 500, by omega, by go_num, rfl, rfl, by omega, by omega, HST⟩
            case measure => simp only [intOf]; omega
          · have h6 : ¬ (500 : Int) < (K : Int) := by omega
            go_wp2_with fail
            go_roundw
            case rel => exact ⟨i + 1, np, a_, e0, K, by omega, by go_num, rfl, rfl, by omega, by omega, HS4⟩
            case measure => simp only [intOf]; omega
        · by_cases hn0 : n = 0
          · subst hn0
            clear HO
            go_wp2_with fail
            go_roundw
            case rel => exact ⟨i + 1, np, a_, e0, 0, by omega, by go_num, rfl, rfl, by omega, by omega, HS⟩
            case measure => simp only [intOf]; omega
          · obtain ⟨g3, o3, c3, e3, hc3, hc4⟩ := (unhide HS).slice.2.2 (by omega)
            simp only [Value.slice.injEq, true_and] at e3
            obtain ⟨rfl, rfl⟩ := e3
            have q6 : (n : Int) ≠ 0 := by omega
            obtain ⟨k, hk, hkv⟩ : ∃ k : Nat, k < n ∧ (bits .and .i64 (z / 4) 1023).tmod (n : Int) = (k : Int) := by
              have h2 : 0 ≤ (z / 4) % 1024 := by omega
              have h3 : 0 ≤ ((z / 4) % 1024) % (n : Int) := Int.emod_nonneg _ q6
              have h4 := Int.emod_lt_of_pos ((z / 4) % 1024) (show (0 : Int) < (n : Int) by omega)
              refine ⟨(((z / 4) % 1024) % (n : Int)).toNat, by omega, ?_⟩
              rw [i64_and1023, Int.tmod_eq_emod_of_nonneg h2]
              omega
            obtain ⟨p, x, g4, o4, c4, e4, _, hrg, hok, hfd⟩ := (unhide HS).at hk
            simp only [Value.slice.injEq, Option.some.injEq, Addr.mk.injEq, and_true, true_and] at e4
            obtain ⟨⟨rfl, rfl⟩, rfl⟩ := e4
            obtain ⟨PS, hPS⟩ : ∃ z, z = ptC p x := ⟨_, rfl⟩
            have hone := pt_one (hfd wr)
            have hc1 : (ptC p x)[1]? = some (.int .i64 p.tu) := rfl
            rw [← hPS] at hrg hone hc1
            have hcl : PS.length = 57 := by rw [hPS]; rfl
            have z1 : (Try.prog.info? 45).map (·.size) = some PS.length := by rw [hcl]; exact infoPkS
            have z2 : (Try.prog.info? 45).map (·.size) = some PS.toArray.size := by rw [List.size_toArray, hcl]; exact infoPkS
            have z3 : pt0.size = PS.toArray.size := by
              have q_ : PS.toArray.size = 57 := by simpa using hcl
              rw [q_]; rfl
            have HZ := hide (And.intro hrg (And.intro z1 (And.intro z2 z3)))
            have HO1 := hide hone
            have HP := hide (And.intro hPS (And.intro hc1 hfd))
            have HOK := hide hok
            have q7 : (k : Int) < (n : Int) := by omega
            have q8 : (0 : Int) ≤ (k : Int) := by omega
            clear HO hone hPS hc1 hfd hok hrg z1 z2 z3 hcl
            go_upto_region 16 with (first | refine wpList_load_mid rfl 45 (.tmp 66) rfl g3 (o3 + k * 57) (by simp [Act.eval]) PS _ (unhide HZ).1 Try.underlying45 rfl (unhide HZ).2.1 ?_ | refine wpList_store_row rfl 45 (.tmp 16) (.tmp 67) rfl wr.heap.size PS.toArray rfl rfl 45 pt0 (heap_alloc_new _ _) (unhide HZ).2.2.1 (unhide HZ).2.2.2 (all_oneCell_toArray (unhide HO1)) ?_)
            generalize hW : World.setRow (wr.alloc _) wr.heap.size PS.toArray = W2
            have g0 : W2.heap[wr.heap.size]? = some (.cells PS.toArray 45 (0, 0)) := by rw [← hW]; exact setRow_heap _ _ _ _ _ _ (heap_alloc_new _ _)
            have g1 : Below wr.heap.size wr W2 := by rw [← hW]; exact below_setRow' (bwA _ _) (Nat.le_refl _) _
            have HS2 := hide ((unhide HS).bw g1)
            have HG0 := hide g0
            have HSZ := hide (lt_of_blk g0)
            clear hW g0 g1 HS cz
            go_upto_if 70 with fail
            go_cut [7] from 68 to 80 (fun wv wx => ∃ a7 n7 c7, wv = .slice a7 n7 c7 ∧ n7 ≤ n ∧ Hid (QS V wx u5 u6 (.slice a7 n7 c7) (.slice ta e0 tc) np a_ e0 e0 n7 ∧ wx.heap[wr.heap.size]? = some (.cells PS.toArray 45 (0, 0))))
            case first =>
              by_cases c2 : wt = 2
              · subst c2
                obtain ⟨C1, C2, hsrc, hfin⟩ := (unhide HS2).cut hk Try.underlying53
                obtain ⟨A, hA⟩ : ∃ A, (if wk = k + 1 then (some ⟨g3, o3, none⟩ : Option Addr) else some ⟨g3, o3 + (k + 1) * 57, none⟩) = A := ⟨_, rfl⟩
                rw [hA] at hsrc
                have HBa : Hid (Below W2.heap.size W2 (W2.drew.alloc (.cells #[] 45))) := (bwA W2 _).drew
                have HN0 : Hid (RowW 45 57 W2.heap.size (W2.drew.alloc (.cells #[] 45)) (.slice (some ⟨W2.heap.size, 0, none⟩) 0 0) 0 [] (some W2.heap.size)) := RowW.new0 (wr := W2) (Nat.le_refl _) (heap_alloc_new W2.drew _)
                have HSRC : Hid (∀ W, Below W2.heap.size W2 W → Src Try.prog 57 53 (.slice (some ⟨g3, o3, none⟩) k wk) k C1 W ∧ Src Try.prog 57 53 (.slice A (n - (k + 1)) (wk - (k + 1))) (n - (k + 1)) C2 W) := fun W hW => hsrc W hW.block
                have HFIN := hide hfin
                obtain ⟨j0, hj, hz0, hz1, hz2⟩ := info_parts infoKPacket
                have HJ := hide (And.intro hj (And.intro hz0 (And.intro hz1 hz2)))
                have hcI : (n : Int) ≤ (wk : Int) := by omega
                have hks : ¬ wk < k := by omega
                have hk1 : ¬ ((n : Int) < (k : Int) + 1) := by omega
                have hk2 : (0 : Int) ≤ (k : Int) + 1 := by omega
                have hkw : IntKind.i64.wrap ((k : Int) + 1) = (k : Int) + 1 := by rw [IntKind.wrap_i64]; omega
                clear hsrc hfin hj hz0 hz1 hz2 HS2
                go_upto_region 17 with fail
                -- region 17
                refine wp_region_any (by kernel_rfl) ?_
                change wpAny _ _ _ _ _ _ _ (World.drew _)
                refine wpAny_take (i := 1) (oi := { dst := some 72, op := Op.move (Operand.tmp 7), type := 53, pos := "law.go:110", after := #[], guard := none }) (v := .slice (some ⟨g3, o3, none⟩) n wk) rfl (by kernel_rfl) (by kernel_rfl) (by kernel_rfl) (fun _ _ _ h => h) (Or.inl ⟨by rfl, fun w => by go_simp⟩) ?_
                try simp only [Act.put, List.setIfInBounds_toArray, List.set_cons_zero, List.set_cons_succ]
                refine wpAny_take (i := 2) (oi := { dst := some 73, op := Op.move (Operand.tmp 15), type := 3, pos := "law.go:110", after := #[], guard := none }) (v := .int .i64 (k : Int)) rfl (by kernel_rfl) (by kernel_rfl) (by kernel_rfl) (fun _ _ _ h => h) (Or.inl ⟨by rfl, fun w => by go_simp⟩) ?_
                try simp only [Act.put, List.setIfInBounds_toArray, List.set_cons_zero, List.set_cons_succ]
                refine wpAny_take (i := 5) (oi := { dst := some 76, op := Op.move (Operand.tmp 7), type := 53, pos := "law.go:110", after := #[], guard := none }) (v := .slice (some ⟨g3, o3, none⟩) n wk) rfl (by kernel_rfl) (by kernel_rfl) (by kernel_rfl) (fun _ _ _ h => h) (Or.inl ⟨by rfl, fun w => by go_simp⟩) ?_
                try simp only [Act.put, List.setIfInBounds_toArray, List.set_cons_zero, List.set_cons_succ]
                refine wpAny_take (i := 6) (oi := { dst := some 77, op := Op.move (Operand.tmp 15), type := 3, pos := "law.go:110", after := #[], guard := none }) (v := .int .i64 (k : Int)) rfl (by kernel_rfl) (by kernel_rfl) (by kernel_rfl) (fun _ _ _ h => h) (Or.inl ⟨by rfl, fun w => by go_simp⟩) ?_
                try simp only [Act.put, List.setIfInBounds_toArray, List.set_cons_zero, List.set_cons_succ]
                refine wpAny_take (i := 3) (oi := { dst := some 74, op := Op.slice 53 (Operand.tmp 72) none (some (Operand.tmp 73)) none, type := 53, pos := "law.go:110", after := #[{ on := 1, ground := Ground.data }, { on := 2, ground := Ground.data }], guard := none }) (v := .slice (some ⟨g3, o3, none⟩) k wk) rfl (by kernel_rfl) (by kernel_rfl) (by kernel_rfl) (fun _ _ _ h => h) (Or.inl ⟨by rfl, fun w => by go_simp⟩) ?_
                try simp only [Act.put, List.setIfInBounds_toArray, List.set_cons_zero, List.set_cons_succ]
                refine wpAny_take (i := 7) (oi := { dst := some 78, op := Op.binOp BinOp.add 3 (Operand.tmp 77) (Operand.const (Value.int IntKind.i64 1)) 3, type := 3, pos := "law.go:110", after := #[{ on := 6, ground := Ground.data }], guard := none }) (v := .int .i64 ((k + 1 : Nat) : Int)) rfl (by kernel_rfl) (by kernel_rfl) (by kernel_rfl) (fun _ _ _ h => h) (Or.inl ⟨by rfl, fun w => by go_simp⟩) ?_
                try simp only [Act.put, List.setIfInBounds_toArray, List.set_cons_zero, List.set_cons_succ]
                refine wpAny_take (i := 8) (oi := { dst := some 79, op := Op.slice 53 (Operand.tmp 76) (some (Operand.tmp 78)) none none, type := 53, pos := "law.go:110", after := #[{ on := 5, ground := Ground.data }, { on := 7, ground := Ground.data }], guard := none }) (v := .slice A (n - (k + 1)) (wk - (k + 1))) rfl (by kernel_rfl) (by kernel_rfl) (by kernel_rfl) (fun _ _ _ h => h) (Or.inl ⟨by rfl, fun w => by go_simp⟩) ?_
                try simp only [Act.put, List.setIfInBounds_toArray, List.set_cons_zero, List.set_cons_succ]
                refine wpAny_ready (rs := [0]) (by kernel_rfl) (by simp) (AllReady.cons (o := { dst := some 71, op := Op.buildSlice 53 0 #[], type := 53, pos := "law.go:110", after := #[], guard := none }) rfl (fun K hK => ?_) AllReady.nil)
                go_simp
                refine hK _ _ ?_
                clear hK K
                try simp only [Act.put, List.setIfInBounds_toArray, List.set_cons_zero, List.set_cons_succ]
                refine wpAny_ready (rs := [4]) (by kernel_rfl) (by simp) (AllReady.cons (o := { dst := some 75, op := Op.call { callee := Callee.builtin Builtin.append, args := #[Operand.tmp 71, Operand.tmp 74], argTypes := #[53, 53] }, type := 53, pos := "law.go:110", after := #[{ on := 0, ground := Ground.data }, { on := 3, ground := Ground.data }], guard := none }) rfl (fun K hK => ?_) AllReady.nil)
                refine step_appW rfl (.tmp 71) (.tmp 74) 53 53 rfl (by first | rfl | simp [Act.eval, Act.put]) (unhide HN0) Try.underlying53 (unhide HJ).1 (unhide HJ).2.1 (unhide HJ).2.2.1 (unhide HJ).2.2.2 rfl (by first | rfl | simp [Act.eval, Act.put]) (unhide HSRC _ (unhide HBa)).1 (by unfold maxLen; omega) (by omega) (unhide HBa).size ?_
                intro v8 w8 gg8 m1 m2 m3
                have HB8 : Hid (Below W2.heap.size W2 w8) := Kp.bel (unhide HBa) m2 (fun k_ hk_ => ((unhide HN0).lt k_ hk_).1)
                have HR8 := hide m1
                clear m1 m2 m3 HN0
                refine hK _ _ ?_
                clear hK K
                try simp only [Act.put, List.setIfInBounds_toArray, List.set_cons_zero, List.set_cons_succ]
                refine wpAny_ready (rs := [9]) (by kernel_rfl) (by simp) (AllReady.cons (o := { dst := some 80, op := Op.call { callee := Callee.builtin Builtin.append, args := #[Operand.tmp 75, Operand.tmp 79], argTypes := #[53, 53] }, type := 53, pos := "law.go:110", after := #[{ on := 4, ground := Ground.data }, { on := 8, ground := Ground.data }, { on := 4, ground := Ground.chain }], guard := none }) rfl (fun K hK => ?_) AllReady.nil)
                refine step_appW rfl (.tmp 75) (.tmp 79) 53 53 rfl (by first | rfl | simp [Act.eval, Act.put]) (unhide HR8) Try.underlying53 (unhide HJ).1 (unhide HJ).2.1 (unhide HJ).2.2.1 (unhide HJ).2.2.2 rfl (by first | rfl | simp [Act.eval, Act.put]) (unhide HSRC _ (unhide HB8)).2 (by unfold maxLen; omega) (by omega) (unhide HB8).size ?_
                intro v9 w9 gg9 m1 m2 m3
                have HB9 : Hid (Below W2.heap.size W2 w9) := Kp.bel (unhide HB8) m2 (fun k_ hk_ => ((unhide HR8).lt k_ hk_).1)
                rw [Nat.zero_add, List.nil_append] at m1
                have HS9 := hide (unhide HFIN w9 v9 gg9 (unhide HB9) m1)
                obtain ⟨a9, c9, rfl⟩ := m1.slice
                clear m1 m2 m3 HR8 HB8 HFIN HSRC HBa
                refine hK _ _ ?_
                clear hK K
                try simp only [Act.put, List.setIfInBounds_toArray, List.set_cons_zero, List.set_cons_succ]
                refine wpAny_ready (rs := [10]) (by kernel_rfl) (by simp) (AllReady.cons (o := { dst := some 7, op := Op.assign (Operand.tmp 80), type := 53, pos := "law.go:110", after := #[{ on := 9, ground := Ground.data }, { on := 9, ground := Ground.chain }, { on := 0, ground := Ground.phase }, { on := 1, ground := Ground.phase }, { on := 2, ground := Ground.phase }, { on := 3, ground := Ground.phase }, { on := 4, ground := Ground.phase }, { on := 5, ground := Ground.phase }, { on := 6, ground := Ground.phase }, { on := 7, ground := Ground.phase }, { on := 8, ground := Ground.phase }, { on := 9, ground := Ground.phase }], guard := none }) rfl (fun K hK => ?_) AllReady.nil)
                go_simp
                refine hK _ _ ?_
                clear hK K
                try simp only [Act.put, List.setIfInBounds_toArray, List.set_cons_zero, List.set_cons_succ]
                refine wpAny_done (by kernel_rfl) ?_ _
                go_wp2_with fail
                go_meet
                case rel => exact ⟨_, _, _, rfl, by omega, unhide HS9, by rw [(unhide HB9).block _ (unhide HSZ)]; exact unhide HG0⟩
                -- region 17 ends
              · go_wp2_with fail
                go_meet
                case rel => exact ⟨_, n, _, rfl, Nat.le_refl _, unhide HS2, unhide HG0⟩
            case rest =>
            obtain ⟨a7, n7, c7, rfl, hn7, hcut⟩ := hcut
            have hPS := (unhide HP).1
            have hfd := (unhide HP).2.2
            have hc1 := (unhide HP).2.1
            obtain ⟨j0, hj, hz0, hz1, hz2⟩ := info_parts infoKPacket
            have HJ := hide (And.intro hj (And.intro hz0 (And.intro hz1 hz2)))
            obtain ⟨j1, hj1, hy0, hy1, hy2⟩ := info_parts infoKFeed
            have HJ1 := hide (And.intro hj1 (And.intro hy0 (And.intro hy1 hy2)))
            have HGw := hide (unhide hcut).2
            clear HS2 HG0 HSZ HP HO1 hj hz0 hz1 hz2 hj1 hy0 hy1 hy2
            rcases unhide HOK with ⟨s, rfl, hs⟩ | ⟨s, rfl, hs, hn1⟩
            · have hc2 : PS[1]? = some (.int .i64 1) := hc1
              have ht : wc.cell? ⟨wr.heap.size, 1, none⟩ = some (.int .i64 1) := blk_c (unhide HGw) (by simpa using hc2)
              have KT0 := (unhide hcut).1.takeT hs (hfd wc) Try.underlying52
              rw [← hPS] at KT0
              have KT := hide KT0
              clear KT0 hPS hfd hc1 hc2 hcut HOK
              go_wp2_with (refine wpList_load_row rfl 45 (.tmp 16) rfl wr.heap.size rfl 45 PS.toArray (0, 0) _ (unhide HGw) Try.underlying45 rfl (unhide HZ).2.2.1 ?_)
              refine (unhide KT).mono ?_
              rintro e w6 ⟨v6, tad, tcc, bad, bc, D, rfl, hle, HT⟩
              obtain ⟨gt, cs, news, bx, r1, r2, r3, r4⟩ := unhide HT
              have HR := hide (And.intro r1 (And.intro r2 (And.intro r3 r4)))
              clear KT HT r1 r2 r3 r4 HZ HGw ht
              go_wp2_with (at_builtin; refine wpList_appW rfl (.tmp 92) (.tmp 93) 52 52 rfl rfl (unhide HR).1 Try.underlying52 (unhide HJ1).1 (unhide HJ1).2.1 (unhide HJ1).2.2.1 (unhide HJ1).2.2.2 rfl rfl (unhide HR).2.2.1 ?c1 ?c2 (unhide HR).2.1 ?nx)
              case c1 => unfold maxLen; omega
              case c2 => omega
              case nx =>
              intro lv' w7 gt' k1 k2 k3
              obtain ⟨p1, p2⟩ := (unhide HR).2.2.2 lv' w7 gt' k1 k2 k3
              obtain ⟨ta2, tc2, rfl⟩ := k1.slice
              obtain ⟨gw, cs2, news2, r1, r2, r3, r4⟩ := p1.add p2 (by intro p_ hp_; simp only [List.mem_singleton] at hp_; subst hp_; exact Or.inr ⟨_, rfl, Nat.le_refl _, by omega⟩) (m := 1) rfl Try.underlying53
              have HR2 := hide (And.intro r1 (And.intro r2 (And.intro r3 r4)))
              clear HR k1 k2 k3 p1 p2 r1 r2 r3 r4
              go_wp2_with (at_builtin; refine wpList_appW rfl (.tmp 103) (.tmp 104) 53 53 rfl rfl (unhide HR2).1 Try.underlying53 (unhide HJ).1 (unhide HJ).2.1 (unhide HJ).2.2.1 (unhide HJ).2.2.2 rfl rfl (unhide HR2).2.2.1 ?c1 ?c2 (unhide HR2).2.1 ?nx)
              case c1 => unfold maxLen; omega
              case c2 => omega
              case nx =>
              intro v8 w8 gw' k1 k2 k3
              have HS8 := hide ((unhide HR2).2.2.2 v8 w8 gw' k1 k2 k3)
              obtain ⟨a8, c8, rfl⟩ := k1.slice
              clear HR2 k1 k2 k3 HJ HJ1
              have q9 : ¬ (np : Int) < ((e0 + D : Nat) : Int) := by omega
              have q10 : ¬ (np : Int) < (e0 : Int) + (D : Int) := by omega
              go_wp2_with fail
              go_roundw
              case rel => exact ⟨i + 1, np, a_, e0 + D, n7 + 1, by omega, by go_num, rfl, rfl, by omega, by omega, HS8⟩
              case measure => simp only [intOf]; omega
            · have hc2 : PS[1]? = some (.int .i64 0) := hc1
              have ht : wc.cell? ⟨wr.heap.size, 1, none⟩ = some (.int .i64 0) := blk_c (unhide HGw) (by simpa using hc2)
              have KT0 := (unhide hcut).1.hear hs hn1 (hfd wc)
              rw [← hPS] at KT0
              have KT := hide KT0
              clear KT0 hPS hfd hc1 hc2 hcut HOK
              go_wp2_with (refine wpList_load_row rfl 45 (.tmp 16) rfl wr.heap.size rfl 45 PS.toArray (0, 0) _ (unhide HGw) Try.underlying45 rfl (unhide HZ).2.2.1 ?_)
              refine (unhide KT).mono ?_
              rintro e w6 ⟨v6, rfl, HS6⟩
              obtain ⟨gw, cs2, news2, r1, r2, r3, r4⟩ := (unhide HS6).add (rdl_nil kPk _) (by intro p_ hp_; cases hp_) (m := 0) rfl Try.underlying53
              have HR2 := hide (And.intro r1 (And.intro r2 (And.intro r3 r4)))
              clear KT HS6 r1 r2 r3 r4 HZ HGw ht
              go_wp2_with (at_builtin; refine wpList_appW rfl (.tmp 103) (.tmp 104) 53 53 rfl rfl (unhide HR2).1 Try.underlying53 (unhide HJ).1 (unhide HJ).2.1 (unhide HJ).2.2.1 (unhide HJ).2.2.2 rfl rfl (unhide HR2).2.2.1 ?c1 ?c2 (unhide HR2).2.1 ?nx)
              case c1 => unfold maxLen; omega
              case c2 => omega
              case nx =>
              intro v8 w8 gw' k1 k2 k3
              have HS8 := hide ((unhide HR2).2.2.2 v8 w8 gw' k1 k2 k3)
              obtain ⟨a8, c8, rfl⟩ := k1.slice
              clear HR2 k1 k2 k3 HJ HJ1
              go_wp2_with fail
              go_roundw
              case rel => exact ⟨i + 1, np, max a_ s, e0, n7 + 0, by omega, by go_num, rfl, rfl, by omega, by omega, HS8⟩
              case measure => simp only [intOf]; omega
    · obtain rfl : i = N := by omega
      obtain ⟨⟨wa, wk, rfl⟩, ⟨ta, tc, rfl⟩, _⟩ := (unhide HS).slice
      clear hlt
      have hbn := (unhide HS).bel.2
      go_wp2_with fail
      go_loopw [19] (fun kv wq => ∃ k : Nat, k ≤ e0 ∧ kv = .int .i64 (k : Int) ∧ Hid (wq = wr)) (fun kv _ => (e0 - intOf kv).toNat)
      case atStart => exact ⟨0, Nat.zero_le _, rfl, rfl⟩
      case round =>
        obtain ⟨k, hk, rfl, HE⟩ := hrel
        have hE := unhide HE
        subst hE
        clear HE
        by_cases hke : k < e0
        · obtain ⟨g5, o5, c5, e5, t0, t1⟩ := (unhide HS).toldAt hke
          simp only [Value.slice.injEq, true_and] at e5
          obtain ⟨rfl, rfl⟩ := e5
          have r1 : (k : Int) < (e0 : Int) := by omega
          have r2 : (0 : Int) ≤ (k : Int) := by omega
          clear HO KAL
          go_wp2_with fail
          go_roundw
          case rel => exact ⟨k + 1, by omega, by go_num, hide trivial⟩
          case measure => simp only [intOf]; omega
        · obtain rfl : k = e0 := by omega
          have KS := hide (QF.start (unhide HS))
          clear HO HS
          go_wp2_with fail
          refine (unhide KS).mono ?_
          rintro e w3 ⟨pa, pc, rfl, HF⟩
          obtain ⟨K, hK⟩ : ∃ K, K = np - a_ := ⟨_, rfl⟩
          rw [← hK] at HF ⊢
          have HK := hide hK
          clear KS hK
          go_wp2_with fail
          go_loopw [5, 6, 7, 8, 10, 21] (fun hv tv wv lv ev jv wr2 => ∃ (j a1 e1 : Nat), j ≤ K ∧ jv = .int .i64 (j : Int) ∧ ev = .int .i64 0 ∧ a_ + j ≤ e1 ∧ (0 < j → a1 = e1) ∧ (j = 0 → a1 = a_) ∧ Hid (QF V wr2 hv tv lv (.slice pa K pc) np a1 e1 e1 a_ K)) (fun _ _ _ _ _ jv _ => (K - intOf jv).toNat)
          case atStart => exact ⟨0, a_, k, Nat.zero_le _, rfl, rfl, by omega, by omega, fun _ => rfl, HF⟩
          case round =>
            clear HF
            obtain ⟨j, a1, e1, hj, rfl, rfl, hae, ha1, ha0, HF⟩ := hrel
            have hbn2 := (unhide HF).bel.2
            obtain ⟨ta, tc, rfl⟩ := (unhide HF).slice
            by_cases hjK : j < K
            · obtain ⟨x, g6, o6, c6, e6, hrg, hfd⟩ := (unhide HF).at hjK
              simp only [Value.slice.injEq, true_and] at e6
              obtain ⟨rfl, rfl⟩ := e6
              have r1 : (j : Int) < (K : Int) := by omega
              have r2 : (0 : Int) ≤ (j : Int) := by omega
              obtain ⟨j0, hj0, hz0, hz1, hz2⟩ := info_parts infoKFeed
              have HJ1 := hide (And.intro hj0 (And.intro hz0 (And.intro hz1 hz2)))
              obtain ⟨PS, hPS⟩ : ∃ z, z = ptC (DP (a_ + j)) x := ⟨_, rfl⟩
              have haj : a_ + j < np := by
                have hK := unhide HK
                omega
              have KT0 := (unhide HF).takeT (s := a_ + j) haj (hfd wr) Try.underlying52
              rw [← hPS] at KT0 hrg
              have hcl : PS.length = 57 := by rw [hPS]; rfl
              have z1 : (Try.prog.info? 45).map (·.size) = some PS.length := by rw [hcl]; exact infoPkS
              have HZ := hide (And.intro hrg z1)
              have KT := hide KT0
              clear KT0 hPS hfd hrg hcl z1 hj0 hz0 hz1 hz2 HF KAL
              go_wp2_with (refine wpList_load_mid rfl 45 (.tmp 185) rfl g6 (o6 + j * 57) (by simp [Act.eval]) PS _ (unhide HZ).1 Try.underlying45 rfl (unhide HZ).2 ?_)
              refine (unhide KT).mono ?_
              rintro e w6 ⟨v6, tad, tcc, bad, bc, D, rfl, hle, hse, HT⟩
              obtain ⟨gt, cs, news, bx, r1, r2, r3, r4⟩ := unhide HT
              have HR := hide (And.intro r1 (And.intro r2 (And.intro r3 r4)))
              clear KT HT r1 r2 r3 r4 HZ
              go_wp2_with (at_builtin; refine wpList_appW rfl (.tmp 199) (.tmp 200) 52 52 rfl rfl (unhide HR).1 Try.underlying52 (unhide HJ1).1 (unhide HJ1).2.1 (unhide HJ1).2.2.1 (unhide HJ1).2.2.2 rfl rfl (unhide HR).2.2.1 ?c1 ?c2 (unhide HR).2.1 ?nx)
              case c1 => unfold maxLen; omega
              case c2 => omega
              case nx =>
              intro lv' w7 gt' k1 k2 k3
              obtain ⟨p1, p2⟩ := (unhide HR).2.2.2 lv' w7 gt' k1 k2 k3
              obtain ⟨ta2, tc2, rfl⟩ := k1.slice
              obtain ⟨p_, x2, g7, o7, e7, hp_, hx2, hR2, hrg2⟩ := rdl_at p2 (i := 0) (by simp)
              simp only [List.getElem?_cons_zero, Option.some.injEq] at hp_
              subst hp_ e7
              obtain ⟨PS, hPS⟩ : ∃ z, z = ptC (AP (e1 + D)) x2 := ⟨_, rfl⟩
              have KT0 := p1.hear (s := e1 + D) (Nat.le_refl _) (by omega) hR2.1
              have hrg3 : w7.rangeAt g7 (o7 + 0 * 57) (ptC (AP (e1 + D)) x2) := hrg2
              rw [Nat.zero_mul, Nat.add_zero] at hrg3
              rw [← hPS] at KT0 hrg3
              have hcl : PS.length = 57 := by rw [hPS]; rfl
              have z1 : (Try.prog.info? 45).map (·.size) = some PS.length := by rw [hcl]; exact infoPkS
              have HZ := hide (And.intro hrg3 z1)
              have KT := hide KT0
              clear KT0 hPS hrg2 hrg3 hcl z1 p1 p2 hx2 hR2 HR k1 k2 k3
              go_wp2_with (refine wpList_load_mid rfl 45 (.tmp 205) rfl g7 o7 (by simp [Act.eval]) PS _ (unhide HZ).1 Try.underlying45 rfl (unhide HZ).2 ?_)
              refine (unhide KT).mono ?_
              rintro e w9 ⟨v9, rfl, HF9⟩
              have hmx : max a1 (e1 + D) = e1 + D := by omega
              rw [hmx] at HF9
              clear KT HZ HJ1
              go_wp2_with fail
              go_roundw
              case rel => exact ⟨j + 1, e1 + D, e1 + D, by omega, by go_num, rfl, by omega, fun _ => rfl, by omega, HF9⟩
              case measure => simp only [intOf]; omega
            · obtain rfl : j = K := by omega
              have hn1 : np - a1 = 0 := by
                have hK := unhide HK
                omega
              have hn2 : e1 = np := by
                have hK := unhide HK
                omega
              subst hn2
              clear hjK
              go_wp2_with fail
              go_loopw [23] (fun kv wq => ∃ k2 : Nat, k2 ≤ e1 ∧ kv = .int .i64 (k2 : Int) ∧ Hid (wq = wr)) (fun kv _ => (e1 - intOf kv).toNat)
              case atStart => exact ⟨0, Nat.zero_le _, rfl, rfl⟩
              case round =>
                obtain ⟨k2, hk2, rfl, HE⟩ := hrel
                have hE := unhide HE
                subst hE
                clear HE
                by_cases hke : k2 < e1
                · obtain ⟨g5, o5, c5, e5, t0, t1⟩ := (unhide HF).toldAt hke
                  simp only [Value.slice.injEq, true_and] at e5
                  obtain ⟨rfl, rfl⟩ := e5
                  have r1 : (k2 : Int) < (e1 : Int) := by omega
                  have r2 : (0 : Int) ≤ (k2 : Int) := by omega
                  clear KAL
                  go_wp2_with fail
                  go_roundw
                  case rel => exact ⟨k2 + 1, by omega, by go_num, hide trivial⟩
                  case measure => simp only [intOf]; omega
                · obtain rfl : k2 = e1 := by omega
                  have KS2 := (unhide HF).sent
                  rw [hn1] at KS2
                  have KS := hide KS2
                  have HB := hide (bw_tr (unhide HV) (unhide HF).bel.1)
                  clear KS2 HF
                  go_wp2_with fail
                  refine (unhide KS).mono ?_
                  rintro e w10 ⟨pd, pe, rfl, b10⟩
                  have HB2 := hide (bw_tr (unhide HB) b10)
                  clear KS b10 HB
                  go_wp2_with fail
                  refine (unhide KAL _).mono ?_
                  rintro e w11 ⟨rfl, b11⟩
                  clear KAL
                  go_wp2_with fail
                  go_ret
                  exact ⟨rfl, bw_tr (unhide HB2) b11⟩
end Go.Proofs.Ytgiicendejgklaa
