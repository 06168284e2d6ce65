/- The contract of sched.Context. -/
import Derived.Test.YtcbafeneaoaglaaGreatDoorZ19
import Derived.Test.YtcbafeneaoaglaaGreatDoorZ13
namespace Go.Proofs.YtcbafeneaoaglaaGreatDoor.Tn
open Go.RowKit Go.Maps

def ctx (L : List Tm) (g e : Int) (T : List Nd) : List Tm × Nat := dig (pubP L g e T).1 (pubP L g e T).2
theorem Rg.nod {p : List Tm × List Nat} (h : Rg p.1.length p.2) (x : Nat) (n : Nd) (hp : thr p.1.length n.pub = true) (hu : n.un.length ≤ 8) (hl : p.1.length + 9 ≤ 1048576) : Rg (Tn.nod p x n).1.length (Tn.nod p x n).2 := by
  have h1 := h.dat (x : Int) (by omega)
  have l1 := dat_len p (x : Int)
  have hp1 := thr_iff.1 hp
  have h3 : (if x % 2 = 0 then [n.mem, n.ep] else n.un).length ≤ 8 := by split; simp; exact hu
  have h2 : Rg (nodP p x n.pub.toNat).1.length (nodP p x n.pub.toNat).2 := by
    unfold nodP
    exact h1.snoc ⟨by omega, by have := l1.2.1; omega⟩
  exact Rg.dats _ h2 (by have : (nodP p x n.pub.toNat).1.length = (Tn.dat p (x : Int)).1.length := rfl; omega)
theorem Rg.pubK {T : List Nd} {N : Nat} (hu : ∀ x ∈ T, x.un.length ≤ 8) (hh : ∀ x ∈ T, x.pub = 0 ∨ thr N x.pub = true) {p : List Tm × List Nat} (hN : N ≤ p.1.length) (h : Rg p.1.length p.2) : ∀ k, k ≤ T.length → p.1.length + 9 * k ≤ 1048576 → Rg (Tn.pubK T p k).1.length (Tn.pubK T p k).2 := by
  intro k
  induction k with
  | zero => intro _ _; exact h
  | succ k ih =>
    intro hk hl
    have hi := ih (by omega) (by omega)
    have hlen := pubK_len T hu p k (by omega)
    rw [pubK_succ]
    split
    · exact hi
    · rename_i hp
      have hm := ndAt_mem (T := T) (i := k) (by omega)
      have ht := (hh _ hm).resolve_left hp
      exact hi.nod k _ (thr_mono ht (by omega)) (hu _ hm) (by omega)
theorem pub_ok {L : List Tm} {g e : Int} {T : List Nd} (hb : Tb T) (hh : ∀ x ∈ T, x.pub = 0 ∨ thr L.length x.pub = true) (hl : L.length + 400 ≤ 1048576) :
    (pubP L g e T).2 ≠ [] ∧ Rg (pubP L g e T).1.length (pubP L g e T).2 ∧ (pubP L g e T).1.length + (pubP L g e T).2.length ≤ 1048576 ∧ (pubP L g e T).2.length ≤ 1000 := by
  have h0 := dats_len [g, e] (L, [])
  simp only [List.length_cons, List.length_nil] at h0
  have hl15 := hb.len
  have h1 := pubK_len T hb.un (dats (L, []) [g, e]) T.length (Nat.le_refl _)
  have h2 : ∀ k, (dats (L, []) [g, e]).2.length ≤ (pubK T (dats (L, []) [g, e]) k).2.length := by
    intro k
    induction k with
    | zero => exact Nat.le_refl _
    | succ k ih =>
      rw [pubK_succ]
      split
      · exact ih
      · have a1 := dat_len (pubK T (dats (L, []) [g, e]) k) (k : Int)
        have a2 := dats_len (if k % 2 = 0 then [(ndAt T k).mem, (ndAt T k).ep] else (ndAt T k).un) (nodP (pubK T (dats (L, []) [g, e]) k) k (ndAt T k).pub.toNat)
        have a3 : (nodP (pubK T (dats (L, []) [g, e]) k) k (ndAt T k).pub.toNat).2.length = (dat (pubK T (dats (L, []) [g, e]) k) (k : Int)).2.length + 1 := by simp [nodP]
        unfold nod
        omega
  have h3 := h2 T.length
  have hr0 : Rg (dats (L, []) [g, e]).1.length (dats (L, []) [g, e]).2 := Rg.dats [g, e] (p := (L, [])) (by intro m hm; cases hm) (by simp; omega)
  refine ⟨fun c => ?_, Rg.pubK hb.un hh (by omega) hr0 T.length (Nat.le_refl _) (by omega), ?_, ?_⟩
  · have h4 : (Tn.pubK T (dats (L, []) [g, e]) T.length).2.length = 0 := by unfold pubP at c; rw [c]; rfl
    omega
  · unfold pubP; omega
  · unfold pubP; omega

set_option maxRecDepth 100000 in
set_option maxHeartbeats 4000000 in
theorem context1_any {b : Nat} {sv : Value} {mb : Nat} {L : List Tm} {w : World} (h : St w b sv mb L) (g e : Int) (hg : -9223372036854775808 ≤ g ∧ g ≤ 9223372036854775807) (he : -9223372036854775808 ≤ e ∧ e ≤ 9223372036854775807) (v : Value) (T : List Nd) (ht : Tfix (fun W => Fr (foot b sv mb) w W) v T) (hb : Tb T) (hh : ∀ x ∈ T, x.pub = 0 ∨ thr L.length x.pub = true) (hl : L.length + 400 ≤ 1048576) (p1 p2 p3 : Nat) (c1 : w.cell? ⟨p1, 0, none⟩ = some (.int .i64 g)) (c2 : w.cell? ⟨p2, 0, none⟩ = some (.int .i64 e)) (c3 : w.cell? ⟨p3, 0, none⟩ = some v) :
    Calls Tryz.prog 30 #[.func (.func 24) #[.pointer (some ⟨b, 0, none⟩)] #[], .pointer (some ⟨p1, 0, none⟩), .pointer (some ⟨p2, 0, none⟩), .pointer (some ⟨p3, 0, none⟩)] w fun e_ w' => e_ = .returned (.tuple #[.int .i64 ((ctx L g e T).2 : Nat), .int .i64 0]) ∧ ∃ sv', SStep w w' b sv sv' mb (ctx L g e T).1 := by
  have KP := hide (scpublic_any h g e hg he v T ht hb (by omega))
  obtain ⟨q1, q2, q3, q4⟩ := pub_ok (g := g) (e := e) hb hh hl
  obtain ⟨a, c, rfl⟩ := ht.slice
  obtain ⟨P, hP⟩ : ∃ P, P = pubP L g e T := ⟨_, rfl⟩
  have HC : Hid (ctx L g e T = dig P.1 P.2) := by unfold Hid ctx; rw [hP]
  rw [← hP] at KP q1 q2 q3 q4
  have KG : Hid (∀ W sv' lv, DStep w W b sv sv' mb P.1 (.slice none 0 0) lv P.2 → Calls Tryz.prog 32 #[.func (.func 24) #[.pointer (some ⟨b, 0, none⟩)] #[], lv] W fun e w' => e = .returned (.tuple #[.int .i64 ((dig P.1 P.2).2 : Nat), .int .i64 0]) ∧ ∃ sv2, SStep w w' b sv sv2 mb (dig P.1 P.2).1) := fun W sv' lv d => by
    refine (scdigest_any d.st lv P.2 d.row q1 q2 q3 q4).mono ?_
    rintro e w' ⟨h1, sv2, s⟩
    exact ⟨h1, sv2, d.sstep.trans s⟩
  rw [unhide HC]
  obtain ⟨N, hN⟩ : ∃ N, N = T.length := ⟨_, rfl⟩
  rw [← hN] at KP c3
  clear h ht hb hh hl hg he q1 q2 q3 q4 hP HC hN
  generalize dig P.1 P.2 = D at *
  go_enter Tryz.func30, Tryz.ntmps30
  go_wp2_with fail
  refine (unhide KP).mono ?_
  rintro e_ w1 ⟨lv, rfl, sv1, d1⟩
  have KQ := hide (unhide KG w1 sv1 lv d1)
  clear d1 KP KG c1 c2 c3
  go_wp2_with fail
  refine (unhide KQ).mono ?_
  rintro e_ w2 ⟨rfl, sv2, s2⟩
  have S2 := hide s2
  clear s2 KQ
  go_wp2
  go_ret2
  exact ⟨rfl, sv2, unhide S2⟩

set_option maxRecDepth 100000 in
set_option maxHeartbeats 4000000 in
theorem aonI_ctx {b : Nat} {sv : Value} {mb : Nat} {L L' : List Tm} {w : World} (h : St w b sv mb L) (hl : L.length + 160 ≤ 1048576) (p1 p2 p3 : Nat) (n : Int)
    (K : Calls Tryz.prog 30 #[.func (.func 24) #[.pointer (some ⟨b, 0, none⟩)] #[], .pointer (some ⟨p1, 0, none⟩), .pointer (some ⟨p2, 0, none⟩), .pointer (some ⟨p3, 0, none⟩)] w fun e w' => e = .returned (.tuple #[.int .i64 n, .int .i64 0]) ∧ ∃ sv', SStep w w' b sv sv' mb L') :
    Calls Tryz.prog 29 #[.pointer (some ⟨b, 0, none⟩), .int .i64 160, .func (.func 30) #[] #[.pointer (some ⟨p1, 0, none⟩), .pointer (some ⟨p2, 0, none⟩), .pointer (some ⟨p3, 0, none⟩)]] w fun e w' => e = .returned (.tuple #[.int .i64 n, .int .i64 0]) ∧ ∃ sv', SStep w w' b sv sv' mb L' := by
  have KL := hide (len_any b sv mb L w h)
  have KF := hide K
  obtain ⟨N, hN⟩ : ∃ N : Int, N = (L.length : Int) := ⟨_, rfl⟩
  rw [← hN] at KL
  obtain ⟨R, hR⟩ : ∃ R : Int, R = 1048576 - N := ⟨_, rfl⟩
  have r0 : (1048576 : Int) - N = R := hR.symm
  have r1 : IntKind.i64.wrap R = R := by rw [IntKind.wrap_i64]; omega
  have r2 : 0 < R := by omega
  have r3 : decide (R < 160) = false := decide_eq_false (by omega)
  have r4 : 160 ≤ R := by omega
  clear h hl hN hR K
  go_enter Tryz.func29, Tryz.ntmps29
  go_wp2_with fail
  refine (unhide KL).mono ?_
  rintro e w0 ⟨rfl, rfl⟩
  clear KL
  go_wp2_with fail
  refine (unhide KF).mono ?_
  rintro e w4 ⟨rfl, sv4, s4⟩
  have S4 := hide s4
  clear s4 KF r0 r1 r2 r3 r4
  go_wp2
  go_ret2
  exact ⟨rfl, sv4, unhide S4⟩

def cxL (L : List Tm) (g e : Int) (T : List Nd) : List Tm := if heldB L T = true then (ctx L g e T).1 else L
def cxN (L : List Tm) (g e : Int) (T : List Nd) : Nat := if heldB L T = true then (ctx L g e T).2 else 0
def cxE (L : List Tm) (T : List Nd) : Int := if heldB L T = true then 0 else 1
/-- The numbers of a tree that came in. -/
def Trng (T : List Nd) : Prop := ∀ x ∈ T, (∀ z ∈ x.un, -9223372036854775808 ≤ z ∧ z ≤ 9223372036854775807) ∧ (-9223372036854775808 ≤ x.mem ∧ x.mem ≤ 9223372036854775807) ∧ (-9223372036854775808 ≤ x.ep ∧ x.ep ≤ 9223372036854775807)
theorem held_tb {L : List Tm} {T : List Nd} (h : heldB L T = true) (hr : Trng T) : Tb T ∧ ∀ x ∈ T, x.pub = 0 ∨ thr L.length x.pub = true := by
  unfold heldB at h
  simp only [Bool.and_eq_true] at h
  have hx : ∀ x ∈ T, x.pub = 0 ∨ thr L.length x.pub = true := fun x hx => by
    have := List.all_eq_true.1 h.2 x hx
    simpa using this
  refine ⟨⟨(mayB_15 h.1).1, un_len h.1, fun x hx' => ?_, hr⟩, hx⟩
  rcases hx x hx' with c | c
  · omega
  · have := thr_iff.1 c; omega

set_option maxRecDepth 100000 in
set_option maxHeartbeats 4000000 in
theorem context_any {b : Nat} {sv : Value} {mb : Nat} {L : List Tm} {w : World} (h : St w b sv mb L) (g e : Int) (hg : -9223372036854775808 ≤ g ∧ g ≤ 9223372036854775807) (he : -9223372036854775808 ≤ e ∧ e ≤ 9223372036854775807) (v : Value) (T : List Nd) (ht : Tfix (fun W => Fr (foot b sv mb) w W) v T) (hd : Trd w v T) (hT : Tab w) (hr : Trng T) (hl : L.length + 400 ≤ 1048576) :
    Calls Tryz.prog 9 #[.pointer (some ⟨b, 0, none⟩), .int .i64 g, .int .i64 e, .agg #[v]] w fun e_ w' => e_ = .returned (.tuple #[.int .i64 (cxN L g e T : Nat), .int .i64 (cxE L T)]) ∧ ∃ sv', SStep w w' b sv sv' mb (cxL L g e T) := by
  obtain ⟨a, c, rfl⟩ := ht.slice
  obtain ⟨w0, hw0⟩ : ∃ w0, w0 = ((w.alloc (.cells #[.int .i64 g] 3)).alloc (.cells #[.int .i64 e] 3)).alloc (.cells #[.slice a T.length c] 25) := ⟨_, rfl⟩
  obtain ⟨y0, y1, y2, x0⟩ := blk3 w (.cells #[.int .i64 g] 3) (.cells #[.int .i64 e] 3) (.cells #[.slice a T.length c] 25)
  rw [← hw0] at y0 y1 y2 x0
  have S0 : Hid (SStep w w0 b sv sv mb L) := SStep.same h x0
  have KMi := hide (hmissing_any (unhide S0).st)
  have KT := htree_any (unhide S0).st (.slice a T.length c) T (hd.bw x0) (hT.bw x0)
  have KA : heldB L T = true → ∀ W, Below w0.heap.size w0 W → Calls Tryz.prog 29 #[.pointer (some ⟨b, 0, none⟩), .int .i64 160, .func (.func 30) #[] #[.pointer (some ⟨w.heap.size, 0, none⟩), .pointer (some ⟨w.heap.size + 1, 0, none⟩), .pointer (some ⟨w.heap.size + 1 + 1, 0, none⟩)]] W fun e_ w' => e_ = .returned (.tuple #[.int .i64 ((ctx L g e T).2 : Nat), .int .i64 0]) ∧ ∃ sv', SStep w w' b sv sv' mb (ctx L g e T).1 := fun hh W hW => by
    obtain ⟨hb, hx⟩ := held_tb hh hr
    have hs : SStep w W b sv sv mb L := (unhide S0).after hW
    have K1 := context1_any hs.st g e hg he (.slice a T.length c) T (ht.mono (fun V hV => by have := hs.fr.tr hV; exact this)) hb hx hl w.heap.size (w.heap.size + 1) (w.heap.size + 1 + 1) (blk_cell (kept_blk y0 hW) rfl) (blk_cell (kept_blk y1 hW) rfl) (blk_cell (kept_blk y2 hW) rfl)
    refine (aonI_ctx hs.st (by omega) _ _ _ _ K1).mono ?_
    rintro e' w' ⟨h1, sv', s⟩
    exact ⟨h1, sv', hs.trans s⟩
  obtain ⟨N, hN⟩ : ∃ N, N = T.length := ⟨_, rfl⟩
  rw [← hN] at KT hw0 y2 ⊢
  have c2 := blk_cell (i := 0) y2 rfl
  have HW := hide hw0
  unfold cxN cxL cxE
  cases hh : heldB L T
  · rw [hh] at KT
    have HT := hide KT
    simp only [Bool.false_eq_true, if_false]
    clear h ht hd hT hr hl hw0 x0 y0 y1 y2 KT KA hN hh hg he
    go_enter Tryz.func9, Tryz.ntmps9
    go_upto_region 1 with fail
    rw [← unhide HW]
    go_wp2_with fail
    refine (unhide KMi).mono ?_
    rintro e_ z0 ⟨rfl, rfl⟩
    clear KMi HW
    go_wp2_with fail
    refine (unhide HT).mono ?_
    rintro e_ z1 ⟨rfl, y⟩
    have S1 := hide ((unhide S0).after y)
    clear y HT
    go_wp2
    go_ret2
    exact ⟨rfl, sv, unhide S1⟩
  · rw [hh] at KT
    have HT := hide KT
    have HA := hide (KA hh)
    simp only [if_true]
    clear h ht hd hT hr hl hw0 x0 y0 y1 y2 KT KA hN hh hg he
    generalize ctx L g e T = CX at *
    go_enter Tryz.func9, Tryz.ntmps9
    go_upto_region 1 with fail
    rw [← unhide HW]
    go_wp2_with fail
    refine (unhide KMi).mono ?_
    rintro e_ z0 ⟨rfl, rfl⟩
    clear KMi HW
    go_wp2_with fail
    refine (unhide HT).mono ?_
    rintro e_ z1 ⟨rfl, y⟩
    have KB := hide (unhide HA z1 y)
    clear y HT HA
    go_wp2_with fail
    refine (unhide KB).mono ?_
    rintro e_ z2 ⟨rfl, sv2, s2⟩
    have S2 := hide s2
    clear s2 KB
    go_wp2
    go_ret2
    exact ⟨rfl, sv2, unhide S2⟩
set_option maxRecDepth 100000 in
theorem context_nil (w : World) (g e : Int) (v : Value) :
    Calls Tryz.prog 9 #[.pointer none, .int .i64 g, .int .i64 e, .agg #[v]] w fun e_ w' => e_ = .returned (.tuple #[.int .i64 0, .int .i64 2]) ∧ Below w.heap.size w w' := by
  obtain ⟨w0, hw0⟩ : ∃ w0, w0 = ((w.alloc (.cells #[.int .i64 g] 3)).alloc (.cells #[.int .i64 e] 3)).alloc (.cells #[v] 25) := ⟨_, rfl⟩
  obtain ⟨y0, y1, y2, x0⟩ := blk3 w (.cells #[.int .i64 g] 3) (.cells #[.int .i64 e] 3) (.cells #[v] 25)
  rw [← hw0] at x0
  have KMi := hide (hmissing_nil w0)
  have HW := hide hw0
  clear hw0 y0 y1 y2
  go_enter Tryz.func9, Tryz.ntmps9
  go_upto_region 1 with fail
  rw [← unhide HW]
  go_wp2_with fail
  refine (unhide KMi).mono ?_
  rintro e_ z0 ⟨rfl, rfl⟩
  go_wp2
  go_ret2
  exact ⟨rfl, x0⟩
end Go.Proofs.YtcbafeneaoaglaaGreatDoor.Tn
