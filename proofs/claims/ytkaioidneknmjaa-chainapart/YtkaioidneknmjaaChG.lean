/- The contracts of missing, Take and New. -/
import Derived.Test.YtkaioidneknmjaaChF
import Derived.BigQuiet
namespace Go.Proofs.Ytkaioidneknmjaa.Tn
open Go.RowKit Go.Maps

set_option maxRecDepth 100000 in
theorem chmissing_at (W : World) (c lm : Nat) (c1 : W.cell? ⟨c, 1, none⟩ = some (.map (some lm))) : Calls Try.prog 33 #[.pointer (some ⟨c, 0, none⟩)] W fun e W' => e = .returned (.bool false) ∧ W' = W := by
  have hq := fun (w : World) => run_eql_map_nil (P := Try.prog) w 69 3 3 (some lm) Try.underlying69
  go_enter Try.func33, Try.ntmps33
  go_wp2
  go_ret
  exact ⟨rfl, rfl⟩
set_option maxRecDepth 100000 in
theorem chmissing_nil (W : World) : Calls Try.prog 33 #[.pointer none] W fun e W' => e = .returned (.bool true) ∧ W' = W := by
  go_enter Try.func33, Try.ntmps33
  go_wp2
  go_ret
  exact ⟨rfl, rfl⟩
set_option maxRecDepth 100000 in
theorem chmissing_zero (W : World) (c : Nat) (c1 : W.cell? ⟨c, 1, none⟩ = some (.map none)) : Calls Try.prog 33 #[.pointer (some ⟨c, 0, none⟩)] W fun e W' => e = .returned (.bool true) ∧ W' = W := by
  have hq := fun (w : World) => run_eql_map_nil (P := Try.prog) w 69 3 3 none Try.underlying69
  go_enter Try.func33, Try.ntmps33
  go_wp2
  go_ret
  exact ⟨rfl, rfl⟩
/-- What Take answers, and what is left. -/
def tkE (l : Lfs) (nx : Nat) (n : Int) : Int := if n < 0 then 1 else if (lkp l n).isSome = true then 0 else if n < (nx : Int) then 10 else if 64 < n - nx + l.length then 3 else 0
/-- It goes on. -/
def tkG (l : Lfs) (nx : Nat) (n : Int) : Bool := decide (0 ≤ n) && !(lkp l n).isSome && decide ((nx : Int) ≤ n) && decide (n - nx + l.length ≤ 64)
structure Cst where
  L : List Tm
  l : Lfs
  nx : Nat
  x : Nat
def Cst.goes (s : Cst) (d : Nat) : Cst := ⟨(wkS (s.L, s.x) (d + 1)).1, s.l ++ nlf (s.L, s.x) s.nx d, s.nx + d + 1, (wkS (s.L, s.x) (d + 1)).2⟩
def Cst.take (s : Cst) (n : Int) : Cst :=
  if (decide (0 ≤ n) && (lkp s.l n).isSome) = true then { s with l := rmv s.l n } else if tkG s.l s.nx n = true then s.goes (n - s.nx).toNat else s
def Cst.ans (s : Cst) (n : Int) : Int :=
  if (decide (0 ≤ n) && (lkp s.l n).isSome) = true then lkV s.l n else if tkG s.l s.nx n = true then ((kyS (wkS (s.L, s.x) (n - s.nx).toNat)).2 : Nat) else 0
/-- A chain beside its store, as one thing. -/
def CC (w : World × List Nat) (W : World) (c b mb : Nat) (s : Cst) : Prop := ∃ sv lm, CS w W c b sv mb lm s.L s.l s.nx s.x
structure Cok (s : Cst) (m : Nat) : Prop where
  g : Gd (s.L, s.x)
  len : s.L.length ≤ m
  nx : s.nx ≤ m
  ll : s.l.length ≤ 64
  lf : Lf s.nx s.l
theorem CS.del {w : World × List Nat} {W W' : World} {c b : Nat} {sv : Value} {mb lm : Nat} {L : List Tm} {l l' : Lfs} {nx x : Nat} (h : CS w W c b sv mb lm L l nx x) (hm : IMap W' lm l') (hl : Lf nx l') (hg : W.grownBy W' (some lm)) : CS w W' c b sv mb lm L l' nx x := by
  have f : Fr [lm] W W' := by simpa using Fr.ofGrown hg
  refine ⟨h.st.keep f (fun k hk q => by simp at q; subst q; exact h.ap hk), ⟨?_, hm, hl⟩, h.ap, h.mv.more (Y' := [lm]) ⟨f, fun x hx => Or.inl hx⟩ (by simp) (fun x hx => Or.inl hx)⟩
  rw [f.block c (lt_of_blk h.cn.blk) (by simp; exact h.cn.ne)]
  exact h.cn.blk
set_option maxRecDepth 100000 in
set_option maxHeartbeats 8000000 in
theorem take_any {w : World × List Nat} {W : World} {c b mb : Nat} {s : Cst} (h : CC w W c b mb s) (hk : Cok s 1000000) (n : Int) (hn : i64r n) :
    Calls Try.prog 13 #[.pointer (some ⟨c, 0, none⟩), .int .i64 n] W fun e W' => e = .returned (.tuple #[.int .i64 (s.ans n), .int .i64 (tkE s.l s.nx n)]) ∧ CC w W' c b mb (s.take n) := by
  obtain ⟨sv, lm, hc⟩ := h
  obtain ⟨c0, c1, c2, c3⟩ := hc.cn.cells
  have KM := hide (chmissing_at W c lm c1)
  obtain ⟨A, hA⟩ : ∃ A, A = s.ans n := ⟨_, rfl⟩
  obtain ⟨E, hE⟩ : ∃ E, E = tkE s.l s.nx n := ⟨_, rfl⟩
  obtain ⟨s', hs'⟩ : ∃ s', s' = s.take n := ⟨_, rfl⟩
  rw [← hA, ← hE, ← hs']
  unfold Cst.ans at hA
  unfold tkE at hE
  unfold Cst.take at hs'
  by_cases n0 : n < 0
  · have q : decide (0 ≤ n) = false := decide_eq_false (by omega)
    have q2 : tkG s.l s.nx n = false := by unfold tkG; rw [q]; rfl
    rw [q, q2] at hA hs'
    rw [if_pos n0] at hE
    simp only [Bool.false_and, Bool.false_eq_true, if_false] at hA hs'
    subst hA
    subst hE
    have HF : Hid (CC w W c b mb s') := by rw [hs']; exact ⟨sv, lm, hc⟩
    clear hc hs' hk q q2 c0 c1 c2 c3
    go_enter Try.func13, Try.ntmps13
    go_wp2_with fail
    refine (unhide KM).mono ?_
    rintro e W1 ⟨rfl, rfl⟩
    clear KM
    go_wp2
    go_ret2
    exact ⟨rfl, unhide HF⟩
  have n0' : decide (n < 0) = false := decide_eq_false n0
  have q : decide (0 ≤ n) = true := decide_eq_true (by omega)
  rw [if_neg n0] at hE
  have lk := hc.cn.map.lookOk hn
  cases hsome : (lkp s.l n).isSome
  · rw [q, hsome] at hA hs'
    rw [hsome] at hE
    rw [hsome] at lk
    simp only [Bool.and_false, Bool.false_eq_true, if_false] at hA hs' hE
    by_cases n1 : n < (s.nx : Int)
    · have q2 : tkG s.l s.nx n = false := by unfold tkG; rw [decide_eq_false (show ¬ (s.nx : Int) ≤ n by omega)]; simp
      rw [q2] at hA hs'
      rw [if_pos n1] at hE
      simp only [Bool.false_eq_true, if_false] at hA hs'
      subst hA
      subst hE
      have HF : Hid (CC w W c b mb s') := by rw [hs']; exact ⟨sv, lm, hc⟩
      clear hc hs' hk q q2 hsome
      generalize s.nx = nx at *
      generalize lkV s.l n = vv at *
      go_enter Try.func13, Try.ntmps13
      go_wp2_with fail
      refine (unhide KM).mono ?_
      rintro e W1 ⟨rfl, rfl⟩
      clear KM
      go_wp2
      go_ret2
      exact ⟨rfl, unhide HF⟩
    · have n1' : decide (n < (s.nx : Int)) = false := decide_eq_false n1
      rw [if_neg n1] at hE
      obtain ⟨R, hR⟩ : ∃ R : Int, R = 64 - (s.l.length : Int) := ⟨_, rfl⟩
      obtain ⟨D, hD⟩ : ∃ D : Int, D = n - (s.nx : Int) := ⟨_, rfl⟩
      have hln : ∀ ty, (Builtin.len_ #[69] ty #[.map (some lm)]).run Try.prog W.drew = .ok (.int .i64 (s.l.length : Nat)) W.drew := fun ty => (hc.cn.map.keep (w' := W.drew) rfl).len ty
      have c2d : W.drew.cell? ⟨c, 2, none⟩ = some (.int .i64 (s.nx : Int)) := c2
      have c1d : W.drew.cell? ⟨c, 1, none⟩ = some (.map (some lm)) := c1
      have D0 : W.cell? ⟨c, 2, none⟩ = some (.int .i64 (s.nx : Int)) ∧ W.cell? ⟨c, 1, none⟩ = some (.map (some lm)) := ⟨c2, c1⟩
      have D1 : W.drew.cell? ⟨c, 2, none⟩ = some (.int .i64 (s.nx : Int)) ∧ W.drew.cell? ⟨c, 1, none⟩ = some (.map (some lm)) := D0
      have DL : Hid (∀ W', (W' = W ∨ W' = W.drew) → W'.cell? ⟨c, 2, none⟩ = some (.int .i64 (s.nx : Int)) ∧ W'.cell? ⟨c, 1, none⟩ = some (.map (some lm)) ∧ ∀ ty, (Builtin.len_ #[69] ty #[.map (some lm)]).run Try.prog W' = .ok (.int .i64 (s.l.length : Nat)) W') := fun W' h => by rcases h with rfl | rfl; exact ⟨c2, c1, fun ty => hc.cn.map.len ty⟩; exact ⟨c2, c1, fun ty => (hc.cn.map.keep (w' := W.drew) rfl).len ty⟩
      have DL0 := unhide DL W (Or.inl rfl)
      have DL1 := unhide DL W.drew (Or.inr rfl)
      have hll := hk.ll
      have hnx := hk.nx
      have hn1 := hn.1
      have hn2 := hn.2
      have w1 : n - (s.nx : Int) = D := hD.symm
      have w2 : IntKind.i64.wrap D = D := by rw [IntKind.wrap_i64]; omega
      have w3 : (64 : Int) - (s.l.length : Int) = R := hR.symm
      have w4 : IntKind.i64.wrap R = R := by rw [IntKind.wrap_i64]; omega
      have hnN : (0 : Int) ≤ (s.nx : Int) := by omega
      by_cases hbig : R < D
      · have q2 : tkG s.l s.nx n = false := by unfold tkG; rw [decide_eq_false (show ¬ n - (s.nx : Int) + (s.l.length : Int) ≤ 64 by omega)]; simp
        rw [q2] at hA hs'
        rw [if_pos (by omega)] at hE
        simp only [Bool.false_eq_true, if_false] at hA hs'
        subst hA
        subst hE
        have HF : Hid (∀ W', Below W.heap.size W W' → CC w W' c b mb s') := fun W' hb => by rw [hs']; exact ⟨sv, lm, hc.new hb⟩
        have hb' : decide (R < D) = true := decide_eq_true hbig
        clear DL
        clear hc hs' hk q q2 hsome hD hR hn hll hn1 hn2
        generalize s.nx = nx at *
        generalize s.l.length = ll at *
        generalize lkV s.l n = vv at *
        go_enter Try.func13, Try.ntmps13
        go_wp2_with fail
        refine (unhide KM).mono ?_
        rintro e W1 ⟨rfl, rfl⟩
        clear KM
        go_wp2_with fail
        go_region_held3 (fun w' : World => w'.cell? ⟨c, 2, none⟩ = some (.int .i64 (nx : Int)) ∧ w'.cell? ⟨c, 1, none⟩ = some (.map (some lm)) ∧ ∀ ty, (Builtin.len_ #[69] ty #[.map (some lm)]).run Try.prog w' = .ok (.int .i64 (ll : Nat)) w') (first | with_reducible exact DL0 | with_reducible exact DL1) (fail)
        go_wp2
        go_ret2
        exact ⟨rfl, unhide HF _ (Below.refl _ _).drew⟩
      · have q2 : tkG s.l s.nx n = true := by unfold tkG; rw [q, hsome, decide_eq_true (show (s.nx : Int) ≤ n by omega), decide_eq_true (show n - (s.nx : Int) + (s.l.length : Int) ≤ 64 by omega)]; rfl
        obtain ⟨d, hd⟩ : ∃ d : Nat, d = (n - (s.nx : Int)).toNat := ⟨_, rfl⟩
        rw [q2, ← hd] at hA hs'
        rw [if_neg (by omega)] at hE
        simp only [if_true] at hA hs'
        have hnd : ((s.nx + d : Nat) : Int) = n := by omega
        have HG : Hid (∀ W', Below W.heap.size W W' → Calls Try.prog 34 #[.pointer (some ⟨c, 0, none⟩), .int .i64 n] W' fun e W2 => e = .returned (.tuple #[.int .i64 A, .int .i64 0]) ∧ ∃ sv', CS w W2 c b sv' mb lm (wkS (s.L, s.x) (d + 1)).1 (s.l ++ nlf (s.L, s.x) s.nx d) (s.nx + d + 1) (wkS (s.L, s.x) (d + 1)).2) := fun W' hb => by
          have KG := goOn_any (hc.new hb) hk.g d (by omega) (by omega) (by have := hk.len; omega) (by omega)
          rw [hnd, ← hA] at KG
          exact KG
        subst hE
        have HF : Hid (∀ W' sv', CS w W' c b sv' mb lm (wkS (s.L, s.x) (d + 1)).1 (s.l ++ nlf (s.L, s.x) s.nx d) (s.nx + d + 1) (wkS (s.L, s.x) (d + 1)).2 → CC w W' c b mb s') := fun W' sv' h => by rw [hs']; exact ⟨sv', lm, h⟩
        have hb' : decide (R < D) = false := decide_eq_false hbig
        clear DL
        clear hc hs' hk q q2 hsome hD hR hn hll hn1 hn2 hA hnd hd
        obtain ⟨nx, hnx2⟩ : ∃ nx, nx = s.nx := ⟨_, rfl⟩
        rw [← hnx2] at c2 c2d D0 D1 DL0 DL1 w1 hnN n1 n1' hnx
        clear hnx2
        generalize s.l.length = ll at hln w3 DL0 DL1
        generalize lkV s.l n = vv at lk
        go_enter Try.func13, Try.ntmps13
        go_wp2_with fail
        refine (unhide KM).mono ?_
        rintro e W1 ⟨rfl, rfl⟩
        clear KM
        go_wp2_with fail
        go_region_held3 (fun w' : World => w'.cell? ⟨c, 2, none⟩ = some (.int .i64 (nx : Int)) ∧ w'.cell? ⟨c, 1, none⟩ = some (.map (some lm)) ∧ ∀ ty, (Builtin.len_ #[69] ty #[.map (some lm)]).run Try.prog w' = .ok (.int .i64 (ll : Nat)) w') (first | with_reducible exact DL0 | with_reducible exact DL1) (fail)
        go_wp2_with fail
        refine (unhide HG _ (Below.refl _ _).drew).mono ?_
        rintro e W2 ⟨rfl, sv2, s2⟩
        have HF2 := hide (unhide HF W2 sv2 s2)
        clear HF HG s2
        go_wp2
        go_ret2
        exact ⟨rfl, unhide HF2⟩
  · rw [q, hsome] at hA hs'
    rw [hsome] at hE lk
    simp only [Bool.and_true, if_true] at hA hs' hE
    obtain ⟨W2, r2, m2, g2⟩ := hc.cn.map.drop hc.cn.lf n hn 0
    have HF : Hid (CC w W2 c b mb s') := by rw [hs']; exact ⟨sv, lm, hc.del m2 (hc.cn.lf.rmv n) g2⟩
    rw [← hA] at lk
    subst hE
    clear hc hs' hk q hsome m2 g2 hA
    go_enter Try.func13, Try.ntmps13
    go_wp2_with fail
    refine (unhide KM).mono ?_
    rintro e W1 ⟨rfl, rfl⟩
    clear KM
    go_wp2
    go_ret2
    exact ⟨rfl, unhide HF⟩
end Go.Proofs.Ytkaioidneknmjaa.Tn
