/- Texts joined: LgZ LgTo. -/
import Derived.Test.YtnfhbmlmemifjaaGreatDoorZ23
import Derived.Test.YtnfhbmlmemifjaaGreatDoorZ26
import Derived.Deep.RegionLaw
import Derived.Test.YtnfhbmlmemifjaaGreatDoorZ05
/- Append of package ledger. -/
namespace Go.Proofs.YtnfhbmlmemifjaaGreatDoor
open Go.RowKit Go.Maps
theorem insl_found {c : Cm} : ∀ {l : List Lg} {k : Nat} {p : Lg}, AtG l c.gr k → l[k]? = some p → p.1 = c.gr → insl l c = l.set k (p.1, p.2 ++ [c])
  | [], k, p, _, hp, _ => by simp at hp
  | q :: r, 0, p, _, hp, e => by
    simp at hp; subst hp
    unfold insl; rw [if_pos e]; rfl
  | q :: r, k + 1, p, h, hp, e => by
    have h1 := h.lo 0 q (by omega) rfl
    have ht : AtG r c.gr k := ⟨by have := h.le; simp at this; omega, fun j p hj hp => h.lo (j + 1) p (by omega) (by simpa using hp), fun j p hj hp => h.hi (j + 1) p (by omega) (by simpa using hp)⟩
    unfold insl
    rw [if_neg (by omega), if_neg (by omega), insl_found ht (by simpa using hp) e]
    rfl
theorem insl_new {c : Cm} : ∀ {l : List Lg} {k : Nat}, AtG l c.gr k → (∀ p, l[k]? = some p → p.1 ≠ c.gr) → insl l c = (insAt l k (c.gr, [])).set k (c.gr, [c])
  | [], k, h, _ => by
    have := h.le
    simp at this; subst this
    rfl
  | q :: r, 0, h, hn => by
    have h1 := h.hi 0 q (by omega) rfl
    have h2 := hn q rfl
    unfold insl
    rw [if_neg h2, if_pos (by omega)]
    rfl
  | q :: r, k + 1, h, hn => by
    have h1 := h.lo 0 q (by omega) rfl
    have ht : AtG r c.gr k := ⟨by have := h.le; simp at this; omega, fun j p hj hp => h.lo (j + 1) p (by omega) (by simpa using hp), fun j p hj hp => h.hi (j + 1) p (by omega) (by simpa using hp)⟩
    unfold insl
    rw [if_neg (by omega), if_neg (by omega), insl_new ht (fun p hp => hn p (by simpa using hp))]
    simp [insAt]
theorem cells_newC (w : World) (cs : List Value) (t : TypeId) : ∀ j u, cs[j]? = some u → (w.alloc (.cells cs.toArray t)).cell? ((⟨w.heap.size, 0, none⟩ : Addr).add j) = some u := by
  intro j u hj
  rw [addr_lit, Nat.zero_add]
  exact blk_c (heap_alloc_new _ _) (by simpa using hj)
structure Bef (w W : World) (B g n1 cap1 k : Nat) (c : Cm) (x : Cv) (L : List Lg) (X : List (Value × List (Cv × List Value))) (p : Lg) (cv : Value) (ys : List (Cv × List Value)) : Prop where
  own : OwL kLg B W (.slice (some ⟨g, 0, none⟩) n1 cap1) L X
  hp : L[k]? = some p
  hx : X[k]? = some (cv, ys)
  box : W.heap[w.heap.size]? = some (.cells (cmC c x).toArray 34 (0, 0))
  bel : Below w.heap.size w W
  lb : w.heap.size + 1 ≤ B
  le : B ≤ W.heap.size
theorem Bef.row {w W : World} {B g n1 cap1 k : Nat} {c : Cm} {x : Cv} {L : List Lg} {X : List (Value × List (Cv × List Value))} {p : Lg} {cv : Value} {ys : List (Cv × List Value)} (h : Bef w W B g n1 cap1 k c x L X p cv ys) : OwL kCm B W cv p.2 ys := h.own.el k p _ h.hp h.hx
theorem Bef.cell {w W : World} {B g n1 cap1 k : Nat} {c : Cm} {x : Cv} {L : List Lg} {X : List (Value × List (Cv × List Value))} {p : Lg} {cv : Value} {ys : List (Cv × List Value)} (h : Bef w W B g n1 cap1 k c x L X p cv ys) : W.cell? ⟨g, k * 2 + 1, none⟩ = some cv := own_cell h.own.row rfl (cellK_get (K := kLg) (j := 1) h.hp h.hx rfl)
theorem Bef.len {w W : World} {B g n1 cap1 k : Nat} {c : Cm} {x : Cv} {L : List Lg} {X : List (Value × List (Cv × List Value))} {p : Lg} {cv : Value} {ys : List (Cv × List Value)} (h : Bef w W B g n1 cap1 k c x L X p cv ys) : n1 = L.length ∧ k < n1 := by
  obtain ⟨a, cp, e⟩ := own_slice h.own.row
  cases e
  exact ⟨rfl, (List.getElem?_eq_some_iff.1 h.hp).1⟩
theorem Bef.bw {w W W' : World} {B g n1 cap1 k : Nat} {c : Cm} {x : Cv} {L : List Lg} {X : List (Value × List (Cv × List Value))} {p : Lg} {cv : Value} {ys : List (Cv × List Value)} (h : Bef w W B g n1 cap1 k c x L X p cv ys) (hb : Below W.heap.size W W') : Bef w W' B g n1 cap1 k c x L X p cv ys :=
  ⟨h.own.bw hb, h.hp, h.hx, kept_b h.box (lt_of_blk h.box) hb, bw_tr h.bel hb, h.lb, Nat.le_trans h.le hb.size⟩
theorem Bef.done {w W zz w4 : World} {B g n1 cap1 k : Nat} {c : Cm} {x x' : Cv} {us : List Value} {L : List Lg} {X : List (Value × List (Cv × List Value))} {p : Lg} {cv cv' : Value} {ys : List (Cv × List Value)} (h : Bef w W B g n1 cap1 k c x L X p cv ys) (hb : Below W.heap.size W zz) (hc : OC W.heap.size zz c x' us)
    (hrow : w4.ownsRow B 34 15 cv' (p.2.length + 1) (cellK kCm p.2 ys ++ cmC c x')) (hg : (zz.alloc (.cells (cmC c x').toArray 34)).grownBy w4 cv.ownBlock) (hv : cv'.ownBlock = cv.ownBlock ∨ cv'.ownBlock = some (zz.alloc (.cells (cmC c x').toArray 34)).heap.size) :
    OwL kLg B (w4.setCell ⟨g, k * 2 + 1, none⟩ cv') (.slice (some ⟨g, 0, none⟩) n1 cap1) (L.set k (p.1, p.2 ++ [c])) (X.set k (cv', ys ++ [(x', us)])) ∧ Below w.heap.size w (w4.setCell ⟨g, k * 2 + 1, none⟩ cv') ∧ w4.heap[g]? = W.heap[g]? := by
  have b3 : Below W.heap.size W (zz.alloc (.cells (cmC c x').toArray 34)) := bw_tr hb (bwA _ _)
  have hgl := World.ownsRow.lt h.own.row g rfl
  have hcv : ∀ z, cv.ownBlock = some z → B ≤ z ∧ z < W.heap.size := fun z hz => World.ownsRow.lt h.row.row z hz
  have hgcv : cv.ownBlock ≠ some g := fun q => h.own.self g k _ rfl h.hx (zK_row (K := kCm) q)
  refine ⟨h.own.more h.hp h.hx b3 h.le (OC.keep hc (fun z hz => (bwA zz _).block z (OC.lt hc z hz).2)) hrow hg hv, ?_, ?_⟩
  · refine Below.setCell ?_ (by show w.heap.size ≤ g; have := h.lb; omega) _
    refine Fr.toBase (bw_tr h.bel b3) (Fr.ofGrown hg) (fun z hz => ?_)
    have := (hcv z (by simpa using hz)).1
    have := h.lb
    omega
  · rw [(Fr.ofGrown hg).block g (Nat.lt_of_lt_of_le hgl.2 b3.size) (fun q => hgcv (by simpa using q)), b3.block g hgl.2]
set_option maxRecDepth 100000 in
set_option maxHeartbeats 16000000 in
theorem lgAppend_any {w : World} {v : Value} {l : List Lg} {c : Cm} {x : Cv} (h : Lgs w v l) (hs : SmL l) (hc : CmR w c x) (hsc : SmC c) (hT : Tab w) :
    Calls Tryz.prog 28 #[v, cmV c x] w fun e w' => ∃ v' xs', e = .returned (.tuple #[v', .int .i64 (appE l c)]) ∧ OwL kLg w.heap.size w' v' (appL l c) xs' ∧ Below w.heap.size w w' := by
  obtain ⟨j0, hj, hy0, hy1, hyb⟩ := info_parts infoKCommit
  obtain ⟨w0, hw0⟩ : ∃ w0, w0 = w.alloc (.cells (cmC c x).toArray 34) := ⟨_, rfl⟩
  have bl : Below w.heap.size w w0 := by rw [hw0]; exact bwA _ _
  have kk : w0.heap[w.heap.size]? = some (.cells (cmC c x).toArray 34 (0, 0)) := by rw [hw0]; exact heap_alloc_new _ _
  have KM := hide (mayBeL_any (h.bw bl) (hT.bw bl))
  have KT : Hid (∀ W, Below w.heap.size w W → Calls Tryz.prog 165 #[cmV c x] W fun e w' => e = .returned (.bool (mayC c)) ∧ Below W.heap.size W w') := fun W hW => taken_any (hc.bw hW) (hT.bw hW)
  have KF : Hid (chkB l = true → ∀ W, Below w.heap.size w W → Calls Tryz.prog 166 #[v, .int .i64 c.gr] W fun e w' => ∃ (k : Nat) (a : Option Addr) (n q : Nat), e = .returned (.tuple #[.int .i64 (k : Int), .slice a n q]) ∧ Hid (FnP w l c.gr k (.slice a n q)) ∧ Below W.heap.size W w') := fun hch W hW => find_any h hW (chk_parts hch).2.1 hs.n c.gr
  have KL : Hid (∀ W, Below w.heap.size w W → Calls Tryz.prog 167 #[v, .func (.func 168) #[] #[]] W fun e w' => ∃ v' xs', e = .returned v' ∧ Hid (OwL kLg W.heap.size w' v' l xs') ∧ Below W.heap.size W w') := fun W hW => by
    obtain ⟨xs, hr⟩ := (h.bw hW).rdl hs
    exact listLog_any hr hs.n
  have HSL := hide (And.intro hs hsc)
  have HC := hide hc
  have HE : Hid (((chkB l && mayC c) = false → appE l c = 1) ∧ (chkB l = true → mayC c = true → c.ep ≠ (lenL l c.gr : Int) → appE l c = 10) ∧ (chkB l = true → mayC c = true → c.ep = (lenL l c.gr : Int) → fndL l c.gr = none → 16 ≤ l.length → appE l c = 3) ∧ (chkB l = true → mayC c = true → c.ep = (lenL l c.gr : Int) → (fndL l c.gr = none → l.length < 16) → appE l c = 0 ∧ appL l c = insl l c)) := by
    refine ⟨fun q => by unfold appE; rw [q]; rfl, fun q1 q2 q3 => by unfold appE; rw [if_pos (by simp [q1, q2]), if_neg q3], fun q1 q2 q3 q4 q5 => by unfold appE; rw [if_pos (by simp [q1, q2]), if_pos q3, if_pos ⟨q4, q5⟩], fun q1 q2 q3 q4 => ?_⟩
    have e := appE_of q1 q2 q3 q4
    exact ⟨e, by unfold appL; rw [if_pos e]⟩
  have HEn : Hid (∀ e, appE l c = e → e ≠ 0 → appL l c = []) := fun e q1 q2 => by unfold appL; rw [q1, if_neg q2]
  have HCH : Hid (chkB l = true → l.length ≤ 16 ∧ ∀ (j : Nat) (p : Lg), l[j]? = some p → p.2.length ≠ 0) := fun q => ⟨(chk_parts q).1, fun j p hp => (log_iff.1 ((chk_parts q).2.2 p (List.mem_of_getElem? hp))).1⟩
  have HLen : Hid (chkB l = true → lenL l c.gr = ((fndL l c.gr).getD []).length) := fun q => by unfold lenL; rw [if_pos q]
  obtain ⟨a, cap, hv⟩ := h.slice
  obtain ⟨a1, k1, e1⟩ := hc.adds.slice
  obtain ⟨a2, k2, e2⟩ := nums_slice hc.rem
  obtain ⟨a3, k3, e3⟩ := hc.seals.slice
  obtain ⟨a4, k4, e4⟩ := hc.joins.slice
  obtain ⟨a5, k5, e5⟩ := hc.next.slice
  have hNl : l.length ≤ 1073741824 := hs.n
  obtain ⟨N, hN⟩ : ∃ N, N = l.length := ⟨_, rfl⟩
  rw [← hN] at hv hNl
  have hNI : (N : Int) ≤ 1073741824 := by omega
  obtain ⟨E, hE⟩ : ∃ z, z = appE l c := ⟨_, rfl⟩
  obtain ⟨LA0, hLA0⟩ : ∃ z, z = appL l c := ⟨_, rfl⟩
  obtain ⟨rb, hrb⟩ : ∃ z, z = chkB l := ⟨_, rfl⟩
  obtain ⟨tb, htb⟩ : ∃ z, z = mayC c := ⟨_, rfl⟩
  rw [← hrb, ← htb] at HE
  rw [← hE, ← hLA0] at HE HEn
  rw [← hrb] at KM KF HCH HLen
  rw [← htb] at KT
  rw [← hE, ← hLA0]
  clear h hs hc hsc hT hE hLA0 hrb htb
  obtain ⟨g0, g1, g2, g3, g4, g5, adds, rem, seals, joins, g10, g11, next, g13, g14⟩ := c
  obtain ⟨av, rv, qv, jv, nv⟩ := x
  simp only at e1 e2 e3 e4 e5 KF HE HLen
  obtain ⟨LN, hLN⟩ : ∃ z, z = next.length := ⟨_, rfl⟩
  obtain ⟨LA, hLA⟩ : ∃ z, z = adds.length := ⟨_, rfl⟩
  obtain ⟨LR, hLR⟩ : ∃ z, z = rem.length := ⟨_, rfl⟩
  obtain ⟨LQ, hLQ⟩ : ∃ z, z = seals.length := ⟨_, rfl⟩
  obtain ⟨LJ, hLJ⟩ : ∃ z, z = joins.length := ⟨_, rfl⟩
  rw [← hLA] at e1
  rw [← hLR] at e2
  rw [← hLQ] at e3
  rw [← hLJ] at e4
  rw [← hLN] at e5
  subst e1 e2 e3 e4 e5
  have HL := hide (And.intro hLA (And.intro hLR (And.intro hLQ (And.intro hLJ hLN))))
  have HK := hide (And.intro kk bl)
  have HW : Hid (w0 = w.alloc (.cells #[.int .i64 g0, .int .i64 g1, .int .i64 g2, .int .i64 g3, .int .i64 g4, .bool g5, .slice a1 LA k1, .slice a2 LR k2, .slice a3 LQ k3, .slice a4 LJ k4, .int .i64 g10, .int .i64 g11, .slice a5 LN k5, .int .i64 g13, .int .i64 g14] 34)) := hw0
  unfold cmV cmC at KT
  unfold cmV cmC
  simp only at KT ⊢
  subst hv
  clear hLN hLA hLR hLQ hLJ kk bl hw0
  have HN := hide hN
  clear hN
  go_enter Tryz.func28, Tryz.ntmps28
  go_upto_region 1 with fail
  rw [← unhide HW]
  clear HW
  go_wp2_with fail
  refine (unhide KM).mono ?_
  rintro e w1 ⟨rfl, b1⟩
  have HK1 := hide (And.intro (kept_b (unhide HK).1 (lt_of_blk (unhide HK).1) b1) (bw_tr (unhide HK).2 b1))
  clear b1 KM HK
  cases rb with
  | false =>
    have HE1 := hide (And.intro ((unhide HE).1 (by simp)) (unhide HK1).2)
    clear HE KT KF KL HCH HLen HC HSL
    go_wp2_with fail
    go_ret2
    obtain ⟨q1, q2⟩ := unhide HE1
    exact ⟨_, [], by rw [q1]; rfl, by rw [unhide HEn 1 q1 (by decide)]; exact OwL.nil _ _ _, q2⟩
  | true =>
    have s0 : w1.cell? ⟨w.heap.size, 0, none⟩ = some (.int .i64 g0) := blk_c (unhide HK1).1 rfl
    have s1 : w1.cell? ⟨w.heap.size, 1, none⟩ = some (.int .i64 g1) := blk_c (unhide HK1).1 rfl
    have s2 : w1.cell? ⟨w.heap.size, 2, none⟩ = some (.int .i64 g2) := blk_c (unhide HK1).1 rfl
    have s3 : w1.cell? ⟨w.heap.size, 3, none⟩ = some (.int .i64 g3) := blk_c (unhide HK1).1 rfl
    have s4 : w1.cell? ⟨w.heap.size, 4, none⟩ = some (.int .i64 g4) := blk_c (unhide HK1).1 rfl
    have s5 : w1.cell? ⟨w.heap.size, 5, none⟩ = some (.bool g5) := blk_c (unhide HK1).1 rfl
    have s6 : w1.cell? ⟨w.heap.size, 6, none⟩ = some (.slice a1 LA k1) := blk_c (unhide HK1).1 rfl
    have s7 : w1.cell? ⟨w.heap.size, 7, none⟩ = some (.slice a2 LR k2) := blk_c (unhide HK1).1 rfl
    have s8 : w1.cell? ⟨w.heap.size, 8, none⟩ = some (.slice a3 LQ k3) := blk_c (unhide HK1).1 rfl
    have s9 : w1.cell? ⟨w.heap.size, 9, none⟩ = some (.slice a4 LJ k4) := blk_c (unhide HK1).1 rfl
    have s10 : w1.cell? ⟨w.heap.size, 10, none⟩ = some (.int .i64 g10) := blk_c (unhide HK1).1 rfl
    have s11 : w1.cell? ⟨w.heap.size, 11, none⟩ = some (.int .i64 g11) := blk_c (unhide HK1).1 rfl
    have s12 : w1.cell? ⟨w.heap.size, 12, none⟩ = some (.slice a5 LN k5) := blk_c (unhide HK1).1 rfl
    have s13 : w1.cell? ⟨w.heap.size, 13, none⟩ = some (.int .i64 g13) := blk_c (unhide HK1).1 rfl
    have s14 : w1.cell? ⟨w.heap.size, 14, none⟩ = some (.int .i64 g14) := blk_c (unhide HK1).1 rfl
    go_wp2_with fail
    refine (unhide KT w1 (unhide HK1).2).mono ?_
    rintro e w2 ⟨rfl, b2⟩
    have HK2 := hide (And.intro (kept_b (unhide HK1).1 (lt_of_blk (unhide HK1).1) b2) (bw_tr (unhide HK1).2 b2))
    clear b2 KT HK1 s0 s1 s2 s3 s4 s5 s6 s7 s8 s9 s10 s11 s12 s13 s14
    cases tb with
    | false =>
      have HE1 := hide (And.intro ((unhide HE).1 (by simp)) (unhide HK2).2)
      clear HE KF KL HCH HLen HC HSL
      go_wp2_with fail
      go_ret2
      obtain ⟨q1, q2⟩ := unhide HE1
      exact ⟨_, [], by rw [q1]; rfl, by rw [unhide HEn 1 q1 (by decide)]; exact OwL.nil _ _ _, q2⟩
    | true =>
      have s0 : w2.cell? ⟨w.heap.size, 0, none⟩ = some (.int .i64 g0) := blk_c (unhide HK2).1 rfl
      have KF1 := hide (unhide KF (by trivial) w2 (unhide HK2).2)
      clear KF
      go_wp2_with fail
      refine (unhide KF1).mono ?_
      rintro e w3 ⟨k, ak, n, q, rfl, hF, b3⟩
      have HK3 := hide (And.intro (kept_b (unhide HK2).1 (lt_of_blk (unhide HK2).1) b3) (bw_tr (unhide HK2).2 b3))
      have s1 : w3.cell? ⟨w.heap.size, 1, none⟩ = some (.int .i64 g1) := blk_c (unhide HK3).1 rfl
      clear b3 HK2 KF1 s0
      have hlenq : n = lenL l g0 := by
        rw [unhide HLen (by trivial)]
        rcases (unhide hF).2 with ⟨q1, q2, _⟩ | ⟨p, hp, _, q1, q2⟩
        · rw [q1]; cases q2; rfl
        · rw [q1]
          obtain ⟨a9, c9, e9⟩ := q2.slice
          cases e9; rfl
      have hnb : n ≤ 1073741824 := by
        rcases (unhide hF).2 with ⟨q1, q2, _⟩ | ⟨p, hp, _, q1, q2⟩
        · cases q2; omega
        · obtain ⟨a9, c9, e9⟩ := q2.slice
          cases e9
          exact ((unhide HSL).1.g p (List.mem_of_getElem? hp)).n
      have hnI : (n : Int) ≤ 1073741824 := by omega
      have HLQ := hide hlenq
      clear hlenq hnb
      by_cases hep : g1 = (n : Int)
      · have HE2 : Hid (g1 = (lenL l g0 : Int)) := by unfold Hid; rw [← unhide HLQ]; exact hep
        rcases (unhide hF).2 with ⟨q1, q2, q3⟩ | ⟨p, hp, q0, q1, q2⟩
        · -- there is no log of the group
          cases q2
          by_cases h16 : N = 16
          · have HE1 : Hid (E = 3 ∧ Below w.heap.size w w3) := ⟨(unhide HE).2.2.1 (by trivial) (by trivial) (unhide HE2) q1 (by have := unhide HN; omega), (unhide HK3).2⟩
            have n16 : (N : Int) = 16 := by omega
            clear HE KL HCH HLen HC HSL q1 q3 hF HE2 HLQ
            subst h16
            go_wp2_with fail
            go_ret2
            obtain ⟨q1, q2⟩ := unhide HE1
            exact ⟨_, [], by rw [q1]; rfl, by rw [unhide HEn 3 q1 (by decide)]; exact OwL.nil _ _ _, q2⟩
          · have n16 : ¬ (N : Int) = 16 := by omega
            obtain ⟨hE0, hLA0⟩ := (unhide HE).2.2.2 (by trivial) (by trivial) (unhide HE2) (fun _ => by have := (unhide HCH (by trivial)).1; have := unhide HN; omega)
            have HF := hide (And.intro (unhide hF).1 (And.intro q1 q3))
            have HLL0 := hide hLA0
            subst hE0
            have KL1 := hide (unhide KL w3 (unhide HK3).2)
            clear HE KL HLen q1 q3 hF HE2 HLQ HCH hLA0 HEn
            go_wp2_with fail
            refine (unhide KL1).mono ?_
            rintro e w4 ⟨v1, xs1, rfl, ho, b4⟩
            clear hep
            obtain ⟨av1, cv1, hv1⟩ := own_slice (unhide ho).row
            have hk1 := kept_b (unhide HK3).1 (lt_of_blk (unhide HK3).1) b4
            have hb4 := bw_tr (unhide HK3).2 b4
            have hB3 : w.heap.size + 1 ≤ w3.heap.size := lt_of_blk (unhide HK3).1
            have ho1 := (unhide ho).mono hB3
            have hat := (unhide HF).1
            have KI := hide (ins_any (G := g0) ho1 (Nat.le_trans hB3 b4.size) ho1.one hat.le (by have := unhide HN; omega))
            have HO1 := hide (And.intro ho1 (And.intro hk1 (And.intro hb4 (Nat.le_trans hB3 b4.size))))
            rw [← unhide HN] at hv1
            subst hv1
            have s0 : w4.cell? ⟨w.heap.size, 0, none⟩ = some (.int .i64 g0) := blk_c hk1 rfl
            clear ho b4 hk1 hb4 hB3 ho1 KL1 HK3 s1
            have hkI : (0 : Int) ≤ (k : Int) := by omega
            clear hat
            go_wp2_with fail
            refine (unhide KI).mono ?_
            rintro e W2 ⟨v2, rfl, ho2, hfr⟩
            have hat := (unhide HF).1
            obtain ⟨g, cap1, hv2, _, _, _⟩ := own_open ho2.row (by rw [insAt_len]; omega)
            obtain ⟨n1, hn1⟩ : ∃ z, z = (insAt l k (g0, ([] : List Cm))).length := ⟨_, rfl⟩
            rw [← hn1] at hv2
            subst hv2
            have hxl : k ≤ xs1.length := by rw [(unhide HO1).1.xl]; exact hat.le
            have hvb : ∀ z, z ∈ (Value.slice av1 N cv1).ownBlock.toList → w.heap.size + 1 ≤ z := fun z hz => ((unhide HO1).1.lt z (zK_row (by simpa using hz))).1
            obtain ⟨p, hp⟩ : ∃ p : Lg, p = (g0, []) := ⟨_, rfl⟩
            obtain ⟨cv, hcvd⟩ : ∃ z : Value, z = .slice none 0 0 := ⟨_, rfl⟩
            obtain ⟨ys, hys⟩ : ∃ z : List (Cv × List Value), z = [] := ⟨_, rfl⟩
            obtain ⟨LL, hLL⟩ : ∃ z, z = insl l ⟨g0, g1, g2, g3, g4, g5, adds, rem, seals, joins, g10, g11, next, g13, g14⟩ := ⟨_, rfl⟩
            have HBef : Hid (Bef w W2 (w.heap.size + 1) g n1 cap1 k ⟨g0, g1, g2, g3, g4, g5, adds, rem, seals, joins, g10, g11, next, g13, g14⟩ ⟨.slice a1 LA k1, .slice a2 LR k2, .slice a3 LQ k3, .slice a4 LJ k4, .slice a5 LN k5⟩ (insAt l k (g0, [])) (insAt xs1 k nilX) p cv ys) := by
              refine ⟨ho2, by rw [hp]; exact insAt_eq _ hat.le, by rw [hcvd, hys]; exact insAt_eq _ hxl, ?_, Fr.toBase (unhide HO1).2.2.1 hfr (fun z hz => by have := hvb z hz; omega), Nat.le_refl _, Nat.le_trans (unhide HO1).2.2.2 hfr.size⟩
              rw [hfr.block _ (lt_of_blk (unhide HO1).2.1) (fun q => by have := hvb _ q; omega)]
              exact (unhide HO1).2.1
            have HSET : Hid (LL = (insAt l k (g0, [])).set k (p.1, p.2 ++ [⟨g0, g1, g2, g3, g4, g5, adds, rem, seals, joins, g10, g11, next, g13, g14⟩])) := by
              unfold Hid
              rw [hLL, hp]
              exact insl_new (c := ⟨g0, g1, g2, g3, g4, g5, adds, rem, seals, joins, g10, g11, next, g13, g14⟩) hat (unhide HF).2.2
            have HSm : Hid (SmC ⟨g0, g1, g2, g3, g4, g5, adds, rem, seals, joins, g10, g11, next, g13, g14⟩ ∧ p.2.length ≤ 1073741824) := ⟨(unhide HSL).2, by rw [hp]; simp⟩
            have HLL : Hid (LA0 = LL) := by unfold Hid; rw [unhide HLL0, hLL]
            clear hat ho2 hfr hn1 hxl hvb hp hcvd hys hLL HF HLL0 KI HO1 s0 HSL
            go_upto_region 12 with fail
            obtain ⟨hlen1, hkn⟩ := (unhide HBef).len
            have kI : (k : Int) < (n1 : Int) := by omega
            have k0 : (0 : Int) ≤ (k : Int) := by omega
            obtain ⟨ac, cc, hcv⟩ := own_slice (unhide HBef).row.row
            obtain ⟨nc, hnc⟩ : ∃ z, z = p.2.length := ⟨_, rfl⟩
            rw [← hnc] at hcv
            subst hcv
            have hsz1 : nc ≤ 1073741824 := by rw [hnc]; exact (unhide HSm).2
            have HNC := hide (And.intro hnc hsz1)
            clear hlen1 hkn hsz1
            have BD := (unhide HBef).bw (Below.refl _ _).drew
            have HROW : Hid (∀ zz o, Below W2.drew.heap.size W2.drew zz → (zz.alloc o).ownsRow (w.heap.size + 1) 34 15 (.slice ac nc cc) nc (cellK kCm p.2 ys)) := fun zz o hz => by
              have := (BD.row.bw (bw_tr hz (bwA zz o))).row
              rw [← hnc] at this
              exact this
            have HBS : Hid (∀ zz o, Below W2.drew.heap.size W2.drew zz → w.heap.size + 1 ≤ (zz.alloc o).heap.size) := fun zz o hz => Nat.le_trans BD.le (bw_tr hz (bwA zz o)).size
            have HDN : Hid (∀ zz w4 v4 x' us, Below W2.drew.heap.size W2.drew zz → OC W2.drew.heap.size zz ⟨g0, g1, g2, g3, g4, g5, adds, rem, seals, joins, g10, g11, next, g13, g14⟩ x' us → w4.ownsRow (w.heap.size + 1) 34 15 v4 (nc + 1) (cellK kCm p.2 ys ++ cmC ⟨g0, g1, g2, g3, g4, g5, adds, rem, seals, joins, g10, g11, next, g13, g14⟩ x') → (zz.alloc (.cells (cmC ⟨g0, g1, g2, g3, g4, g5, adds, rem, seals, joins, g10, g11, next, g13, g14⟩ x').toArray 34)).grownBy w4 (Value.slice ac nc cc).ownBlock → (v4.ownBlock = (Value.slice ac nc cc).ownBlock ∨ v4.ownBlock = some (zz.alloc (.cells (cmC ⟨g0, g1, g2, g3, g4, g5, adds, rem, seals, joins, g10, g11, next, g13, g14⟩ x').toArray 34)).heap.size) →
                (∃ xs', Hid (OwL kLg (w.heap.size + 1) (w4.setCell ⟨g, k * 2 + 1, none⟩ v4) (.slice (some ⟨g, 0, none⟩) n1 cap1) LL xs' ∧ Below w.heap.size w (w4.setCell ⟨g, k * 2 + 1, none⟩ v4))) ∧ w4.heap[g]? = W2.drew.heap[g]?) := fun zz w4 v4 x' us hz hO h1 h2 h3 => by
              rw [hnc] at h1
              obtain ⟨q1, q2, q3⟩ := BD.done hz hO h1 h2 h3
              rw [← unhide HSET] at q1
              exact ⟨⟨_, q1, q2⟩, q3⟩
            clear BD hnc
            go_cut [] from 49 to 61 (fun wx => ∃ xs', Hid (OwL kLg (w.heap.size + 1) wx (.slice (some ⟨g, 0, none⟩) n1 cap1) LL xs' ∧ Below w.heap.size w wx))
            case first =>
              have BD := (unhide HBef).bw (Below.refl _ _).drew
              have HBD := hide BD
              have KF := hide (frCommit_any ((unhide HC).bw BD.bel) (unhide HSm).1)
              unfold cmV cmC at KF
              simp only at KF
              have x1 : W2.drew.cell? ⟨g, k * 2 + 1, none⟩ = some (.slice ac nc cc) := BD.cell
              have s0 : W2.drew.cell? ⟨w.heap.size, 0, none⟩ = some (.int .i64 g0) := blk_c BD.box rfl
              have s1 : W2.drew.cell? ⟨w.heap.size, 1, none⟩ = some (.int .i64 g1) := blk_c BD.box rfl
              have s2 : W2.drew.cell? ⟨w.heap.size, 2, none⟩ = some (.int .i64 g2) := blk_c BD.box rfl
              have s3 : W2.drew.cell? ⟨w.heap.size, 3, none⟩ = some (.int .i64 g3) := blk_c BD.box rfl
              have s4 : W2.drew.cell? ⟨w.heap.size, 4, none⟩ = some (.int .i64 g4) := blk_c BD.box rfl
              have s5 : W2.drew.cell? ⟨w.heap.size, 5, none⟩ = some (.bool g5) := blk_c BD.box rfl
              have s6 : W2.drew.cell? ⟨w.heap.size, 6, none⟩ = some (.slice a1 LA k1) := blk_c BD.box rfl
              have s7 : W2.drew.cell? ⟨w.heap.size, 7, none⟩ = some (.slice a2 LR k2) := blk_c BD.box rfl
              have s8 : W2.drew.cell? ⟨w.heap.size, 8, none⟩ = some (.slice a3 LQ k3) := blk_c BD.box rfl
              have s9 : W2.drew.cell? ⟨w.heap.size, 9, none⟩ = some (.slice a4 LJ k4) := blk_c BD.box rfl
              have s10 : W2.drew.cell? ⟨w.heap.size, 10, none⟩ = some (.int .i64 g10) := blk_c BD.box rfl
              have s11 : W2.drew.cell? ⟨w.heap.size, 11, none⟩ = some (.int .i64 g11) := blk_c BD.box rfl
              have s12 : W2.drew.cell? ⟨w.heap.size, 12, none⟩ = some (.slice a5 LN k5) := blk_c BD.box rfl
              have s13 : W2.drew.cell? ⟨w.heap.size, 13, none⟩ = some (.int .i64 g13) := blk_c BD.box rfl
              have s14 : W2.drew.cell? ⟨w.heap.size, 14, none⟩ = some (.int .i64 g14) := blk_c BD.box rfl
              clear BD
              go_region_law (first
                | (refine step_appL rfl (.tmp 55) (.tmp 58) 93 rfl (w.heap.size + 1) 34 j0 (.agg cm0) 15 200 Tryz.underlying93 hj hy0 hy1 hyb rfl (by decide) (.slice ac nc cc) nc (cellK kCm p.2 ys) (by first | rfl | simp [Act.eval, Act.put]) (unhide HROW zz _ (unhide HX).2) ⟨zz.heap.size, 0, none⟩ 1 1 [.int .i64 g0, .int .i64 g1, .int .i64 g2, .int .i64 g3, .int .i64 g4, .bool g5, .slice a1' LA k1', .slice a2' LR k2', .slice a3' LQ k3', .slice a4' LJ k4', .int .i64 g10, .int .i64 g11, .slice a5' LN k5', .int .i64 g13, .int .i64 g14] (by first | rfl | simp [Act.eval, Act.put]) rfl (cells_newC zz [.int .i64 g0, .int .i64 g1, .int .i64 g2, .int .i64 g3, .int .i64 g4, .bool g5, .slice a1' LA k1', .slice a2' LR k2', .slice a3' LQ k3', .slice a4' LJ k4', .int .i64 g10, .int .i64 g11, .slice a5' LN k5', .int .i64 g13, .int .i64 g14] 34) (by intro u hu; simp only [List.mem_cons, List.not_mem_nil, or_false] at hu; rcases hu with rfl | rfl | rfl | rfl | rfl | rfl | rfl | rfl | rfl | rfl | rfl | rfl | rfl | rfl | rfl <;> rfl) (by have := (unhide HNC).2; unfold maxLen; omega) (by have := (unhide HNC).2; omega) (unhide HBS zz _ (unhide HX).2) ?_; intro v4 w4 hr4 hg4 hv4; obtain ⟨a4_, c4_, e4_⟩ := own_slice hr4; have DN := (unhide HDN zz w4 v4 _ us (unhide HX).2 (unhide HX).1 hr4 hg4 hv4); have z1 : w4.cell? ⟨g, k * 2 + 1, none⟩ = some (.slice ac nc cc) := (by rw [World.cell?_of_block (w := W2.drew) DN.2]; exact x1); have fz := fun j => own_frozen (own_keep (unhide HBD).own.row (w' := w4) (fun z hz => by cases hz; exact DN.2)) (g := g) rfl j; have HR := hide DN.1; clear DN hr4 hg4 hv4; subst e4_)
                | (go_simp; go_wp2_with (first | (go_at_call 37; refine (unhide KF).mono ?_; rintro e_ zz ⟨x', us, rfl, ho, b3⟩; obtain ⟨a1', k1', e1⟩ := own_slice ho.adds; obtain ⟨a2', k2', e2⟩ := own_slice ho.rem; obtain ⟨a3', k3', e3⟩ := own_slice ho.seals; obtain ⟨a4', k4', e4⟩ := own_slice ho.joins; obtain ⟨a5', k5', e5⟩ := own_slice ho.next.row; have HX := hide (And.intro ho b3); have y1 : zz.cell? ⟨g, k * 2 + 1, none⟩ = some (.slice ac nc cc) := ((unhide HBD).bw b3).cell; have y2 : ∀ o, (zz.alloc o).cell? ⟨g, k * 2 + 1, none⟩ = some (.slice ac nc cc) := (fun o => (by rw [(bwA zz o).cell (lt_of_cell y1)]; exact y1)); have y3 : g < zz.heap.size := lt_of_cell y1; have y4 : ¬ g = zz.heap.size := (by omega); clear ho b3; obtain ⟨av', rv', qv', jv', nv'⟩ := x'; simp only at e1 e2 e3 e4 e5; rw [← (unhide HL).1] at e1; rw [← (unhide HL).2.1] at e2; rw [← (unhide HL).2.2.1] at e3; rw [← (unhide HL).2.2.2.1] at e4; rw [← (unhide HL).2.2.2.2] at e5; subst e1 e2 e3 e4 e5))))
              all_goals
                go_wp2_with fail
                go_meet
                case rel => exact unhide HR
            case rest =>
            have HCUT := hide hcut
            clear hcut HBef HNC HROW HBS HDN
            go_wp2_with fail
            obtain ⟨xs', hcut⟩ := unhide HCUT
            go_ret2
            exact ⟨_, xs', rfl, by rw [unhide HLL]; exact (unhide hcut).1.mono (by omega), (unhide hcut).2⟩
        · -- there is one
          have hN0 : n ≠ 0 := by
            obtain ⟨a9, c9, e9⟩ := q2.slice
            cases e9
            exact (unhide HCH (by trivial)).2 k p hp
          obtain ⟨hE0, hLA0⟩ := (unhide HE).2.2.2 (by trivial) (by trivial) (unhide HE2) (fun q => by rw [q1] at q; cases q)
          have HF := hide (And.intro (unhide hF).1 (And.intro hp q0))
          have HLL0 := hide hLA0
          subst hE0
          have n0 : ¬ (n : Int) = 0 := by omega
          have n01 : ((n : Int) == 0) = false := by simpa using hN0
          have n02 : ¬ n = 0 := hN0
          have KL1 := hide (unhide KL w3 (unhide HK3).2)
          clear HE KL HLen q0 q1 q2 hF HE2 HLQ HCH hLA0 HEn hp hN0
          go_wp2_with fail
          refine (unhide KL1).mono ?_
          rintro e W2 ⟨v1, xs1, rfl, ho, b4⟩
          clear hep n0 n02
          obtain ⟨hat, hp, q0⟩ := unhide HF
          have hkl : k < l.length := (List.getElem?_eq_some_iff.1 hp).1
          obtain ⟨g, cap1, hv2, _, _, _⟩ := own_open (unhide ho).row (by omega)
          obtain ⟨n1, hn1⟩ : ∃ z, z = l.length := ⟨_, rfl⟩
          rw [← hn1] at hv2
          subst hv2
          have hB3 : w.heap.size + 1 ≤ w3.heap.size := lt_of_blk (unhide HK3).1
          obtain ⟨y, hy⟩ : ∃ y, xs1[k]? = some y := ⟨_, List.getElem?_eq_getElem (by rw [(unhide ho).xl]; exact hkl)⟩
          obtain ⟨cv, ys⟩ := y
          obtain ⟨LL, hLL⟩ : ∃ z, z = insl l ⟨g0, g1, g2, g3, g4, g5, adds, rem, seals, joins, g10, g11, next, g13, g14⟩ := ⟨_, rfl⟩
          have HBef : Hid (Bef w W2 (w.heap.size + 1) g n1 cap1 k ⟨g0, g1, g2, g3, g4, g5, adds, rem, seals, joins, g10, g11, next, g13, g14⟩ ⟨.slice a1 LA k1, .slice a2 LR k2, .slice a3 LQ k3, .slice a4 LJ k4, .slice a5 LN k5⟩ l xs1 p cv ys) := ⟨(unhide ho).mono hB3, hp, hy, kept_b (unhide HK3).1 (lt_of_blk (unhide HK3).1) b4, bw_tr (unhide HK3).2 b4, Nat.le_refl _, Nat.le_trans hB3 b4.size⟩
          have HSET : Hid (LL = l.set k (p.1, p.2 ++ [⟨g0, g1, g2, g3, g4, g5, adds, rem, seals, joins, g10, g11, next, g13, g14⟩])) := by
            unfold Hid
            rw [hLL]
            exact insl_found (c := ⟨g0, g1, g2, g3, g4, g5, adds, rem, seals, joins, g10, g11, next, g13, g14⟩) hat hp q0
          have HSm : Hid (SmC ⟨g0, g1, g2, g3, g4, g5, adds, rem, seals, joins, g10, g11, next, g13, g14⟩ ∧ p.2.length ≤ 1073741824) := ⟨(unhide HSL).2, ((unhide HSL).1.g p (List.mem_of_getElem? hp)).n⟩
          have HLL : Hid (LA0 = LL) := by unfold Hid; rw [unhide HLL0, hLL]
          clear hat hp q0 hkl ho b4 hn1 hB3 hy hLL HF HLL0 KL1 HK3 HSL s1
          go_upto_region 12 with fail
          obtain ⟨hlen1, hkn⟩ := (unhide HBef).len
          have kI : (k : Int) < (n1 : Int) := by omega
          have k0 : (0 : Int) ≤ (k : Int) := by omega
          obtain ⟨ac, cc, hcv⟩ := own_slice (unhide HBef).row.row
          obtain ⟨nc, hnc⟩ : ∃ z, z = p.2.length := ⟨_, rfl⟩
          rw [← hnc] at hcv
          subst hcv
          have hsz1 : nc ≤ 1073741824 := by rw [hnc]; exact (unhide HSm).2
          have HNC := hide (And.intro hnc hsz1)
          clear hlen1 hkn hsz1
          have BD := (unhide HBef).bw (Below.refl _ _).drew
          have HROW : Hid (∀ zz o, Below W2.drew.heap.size W2.drew zz → (zz.alloc o).ownsRow (w.heap.size + 1) 34 15 (.slice ac nc cc) nc (cellK kCm p.2 ys)) := fun zz o hz => by
            have := (BD.row.bw (bw_tr hz (bwA zz o))).row
            rw [← hnc] at this
            exact this
          have HBS : Hid (∀ zz o, Below W2.drew.heap.size W2.drew zz → w.heap.size + 1 ≤ (zz.alloc o).heap.size) := fun zz o hz => Nat.le_trans BD.le (bw_tr hz (bwA zz o)).size
          have HDN : Hid (∀ zz w4 v4 x' us, Below W2.drew.heap.size W2.drew zz → OC W2.drew.heap.size zz ⟨g0, g1, g2, g3, g4, g5, adds, rem, seals, joins, g10, g11, next, g13, g14⟩ x' us → w4.ownsRow (w.heap.size + 1) 34 15 v4 (nc + 1) (cellK kCm p.2 ys ++ cmC ⟨g0, g1, g2, g3, g4, g5, adds, rem, seals, joins, g10, g11, next, g13, g14⟩ x') → (zz.alloc (.cells (cmC ⟨g0, g1, g2, g3, g4, g5, adds, rem, seals, joins, g10, g11, next, g13, g14⟩ x').toArray 34)).grownBy w4 (Value.slice ac nc cc).ownBlock → (v4.ownBlock = (Value.slice ac nc cc).ownBlock ∨ v4.ownBlock = some (zz.alloc (.cells (cmC ⟨g0, g1, g2, g3, g4, g5, adds, rem, seals, joins, g10, g11, next, g13, g14⟩ x').toArray 34)).heap.size) →
              (∃ xs', Hid (OwL kLg (w.heap.size + 1) (w4.setCell ⟨g, k * 2 + 1, none⟩ v4) (.slice (some ⟨g, 0, none⟩) n1 cap1) LL xs' ∧ Below w.heap.size w (w4.setCell ⟨g, k * 2 + 1, none⟩ v4))) ∧ w4.heap[g]? = W2.drew.heap[g]?) := fun zz w4 v4 x' us hz hO h1 h2 h3 => by
            rw [hnc] at h1
            obtain ⟨q1, q2, q3⟩ := BD.done hz hO h1 h2 h3
            rw [← unhide HSET] at q1
            exact ⟨⟨_, q1, q2⟩, q3⟩
          clear BD hnc
          go_cut [] from 49 to 61 (fun wx => ∃ xs', Hid (OwL kLg (w.heap.size + 1) wx (.slice (some ⟨g, 0, none⟩) n1 cap1) LL xs' ∧ Below w.heap.size w wx))
          case first =>
            have BD := (unhide HBef).bw (Below.refl _ _).drew
            have HBD := hide BD
            have KF := hide (frCommit_any ((unhide HC).bw BD.bel) (unhide HSm).1)
            unfold cmV cmC at KF
            simp only at KF
            have x1 : W2.drew.cell? ⟨g, k * 2 + 1, none⟩ = some (.slice ac nc cc) := BD.cell
            have s0 : W2.drew.cell? ⟨w.heap.size, 0, none⟩ = some (.int .i64 g0) := blk_c BD.box rfl
            have s1 : W2.drew.cell? ⟨w.heap.size, 1, none⟩ = some (.int .i64 g1) := blk_c BD.box rfl
            have s2 : W2.drew.cell? ⟨w.heap.size, 2, none⟩ = some (.int .i64 g2) := blk_c BD.box rfl
            have s3 : W2.drew.cell? ⟨w.heap.size, 3, none⟩ = some (.int .i64 g3) := blk_c BD.box rfl
            have s4 : W2.drew.cell? ⟨w.heap.size, 4, none⟩ = some (.int .i64 g4) := blk_c BD.box rfl
            have s5 : W2.drew.cell? ⟨w.heap.size, 5, none⟩ = some (.bool g5) := blk_c BD.box rfl
            have s6 : W2.drew.cell? ⟨w.heap.size, 6, none⟩ = some (.slice a1 LA k1) := blk_c BD.box rfl
            have s7 : W2.drew.cell? ⟨w.heap.size, 7, none⟩ = some (.slice a2 LR k2) := blk_c BD.box rfl
            have s8 : W2.drew.cell? ⟨w.heap.size, 8, none⟩ = some (.slice a3 LQ k3) := blk_c BD.box rfl
            have s9 : W2.drew.cell? ⟨w.heap.size, 9, none⟩ = some (.slice a4 LJ k4) := blk_c BD.box rfl
            have s10 : W2.drew.cell? ⟨w.heap.size, 10, none⟩ = some (.int .i64 g10) := blk_c BD.box rfl
            have s11 : W2.drew.cell? ⟨w.heap.size, 11, none⟩ = some (.int .i64 g11) := blk_c BD.box rfl
            have s12 : W2.drew.cell? ⟨w.heap.size, 12, none⟩ = some (.slice a5 LN k5) := blk_c BD.box rfl
            have s13 : W2.drew.cell? ⟨w.heap.size, 13, none⟩ = some (.int .i64 g13) := blk_c BD.box rfl
            have s14 : W2.drew.cell? ⟨w.heap.size, 14, none⟩ = some (.int .i64 g14) := blk_c BD.box rfl
            clear BD
            go_region_law (first
              | (refine step_appL rfl (.tmp 55) (.tmp 58) 93 rfl (w.heap.size + 1) 34 j0 (.agg cm0) 15 200 Tryz.underlying93 hj hy0 hy1 hyb rfl (by decide) (.slice ac nc cc) nc (cellK kCm p.2 ys) (by first | rfl | simp [Act.eval, Act.put]) (unhide HROW zz _ (unhide HX).2) ⟨zz.heap.size, 0, none⟩ 1 1 [.int .i64 g0, .int .i64 g1, .int .i64 g2, .int .i64 g3, .int .i64 g4, .bool g5, .slice a1' LA k1', .slice a2' LR k2', .slice a3' LQ k3', .slice a4' LJ k4', .int .i64 g10, .int .i64 g11, .slice a5' LN k5', .int .i64 g13, .int .i64 g14] (by first | rfl | simp [Act.eval, Act.put]) rfl (cells_newC zz [.int .i64 g0, .int .i64 g1, .int .i64 g2, .int .i64 g3, .int .i64 g4, .bool g5, .slice a1' LA k1', .slice a2' LR k2', .slice a3' LQ k3', .slice a4' LJ k4', .int .i64 g10, .int .i64 g11, .slice a5' LN k5', .int .i64 g13, .int .i64 g14] 34) (by intro u hu; simp only [List.mem_cons, List.not_mem_nil, or_false] at hu; rcases hu with rfl | rfl | rfl | rfl | rfl | rfl | rfl | rfl | rfl | rfl | rfl | rfl | rfl | rfl | rfl <;> rfl) (by have := (unhide HNC).2; unfold maxLen; omega) (by have := (unhide HNC).2; omega) (unhide HBS zz _ (unhide HX).2) ?_; intro v4 w4 hr4 hg4 hv4; obtain ⟨a4_, c4_, e4_⟩ := own_slice hr4; have DN := (unhide HDN zz w4 v4 _ us (unhide HX).2 (unhide HX).1 hr4 hg4 hv4); have z1 : w4.cell? ⟨g, k * 2 + 1, none⟩ = some (.slice ac nc cc) := (by rw [World.cell?_of_block (w := W2.drew) DN.2]; exact x1); have fz := fun j => own_frozen (own_keep (unhide HBD).own.row (w' := w4) (fun z hz => by cases hz; exact DN.2)) (g := g) rfl j; have HR := hide DN.1; clear DN hr4 hg4 hv4; subst e4_)
              | (go_simp; go_wp2_with (first | (go_at_call 37; refine (unhide KF).mono ?_; rintro e_ zz ⟨x', us, rfl, ho, b3⟩; obtain ⟨a1', k1', e1⟩ := own_slice ho.adds; obtain ⟨a2', k2', e2⟩ := own_slice ho.rem; obtain ⟨a3', k3', e3⟩ := own_slice ho.seals; obtain ⟨a4', k4', e4⟩ := own_slice ho.joins; obtain ⟨a5', k5', e5⟩ := own_slice ho.next.row; have HX := hide (And.intro ho b3); have y1 : zz.cell? ⟨g, k * 2 + 1, none⟩ = some (.slice ac nc cc) := ((unhide HBD).bw b3).cell; have y2 : ∀ o, (zz.alloc o).cell? ⟨g, k * 2 + 1, none⟩ = some (.slice ac nc cc) := (fun o => (by rw [(bwA zz o).cell (lt_of_cell y1)]; exact y1)); have y3 : g < zz.heap.size := lt_of_cell y1; have y4 : ¬ g = zz.heap.size := (by omega); clear ho b3; obtain ⟨av', rv', qv', jv', nv'⟩ := x'; simp only at e1 e2 e3 e4 e5; rw [← (unhide HL).1] at e1; rw [← (unhide HL).2.1] at e2; rw [← (unhide HL).2.2.1] at e3; rw [← (unhide HL).2.2.2.1] at e4; rw [← (unhide HL).2.2.2.2] at e5; subst e1 e2 e3 e4 e5))))
            all_goals
              go_wp2_with fail
              go_meet
              case rel => exact unhide HR
          case rest =>
          have HCUT := hide hcut
          clear hcut HBef HNC HROW HBS HDN
          go_wp2_with fail
          obtain ⟨xs', hcut⟩ := unhide HCUT
          go_ret2
          exact ⟨_, xs', rfl, by rw [unhide HLL]; exact (unhide hcut).1.mono (by omega), (unhide hcut).2⟩
      · have HE1 : Hid (E = 10 ∧ Below w.heap.size w w3) := ⟨(unhide HE).2.1 (by trivial) (by trivial) (by rw [← unhide HLQ]; exact hep), (unhide HK3).2⟩
        clear HE KL HCH HLen HC HSL hF HLQ
        go_wp2_with fail
        go_ret2
        obtain ⟨q1, q2⟩ := unhide HE1
        exact ⟨_, [], by rw [q1]; rfl, by rw [unhide HEn 10 q1 (by decide)]; exact OwL.nil _ _ _, q2⟩
end Go.Proofs.YtnfhbmlmemifjaaGreatDoor

/- Touched of package ledger. -/
namespace Go.Proofs.YtnfhbmlmemifjaaGreatDoor
open Go.Shelf Go.RowKit Go.Maps Go.Sort
set_option maxRecDepth 100000 in
set_option maxHeartbeats 2000000 in
theorem lgTouched_any {w : World} {v : Value} {l : List Lg} (h : Lgs w v l) (hs : SmL l) (hT : Tab w) (g e : Int) :
    Calls Tryz.prog 10 #[v, .int .i64 g, .int .i64 e] w fun r w' => ∃ v', r = .returned (.tuple #[v', .bool (decide (0 ≤ e ∧ e < (lenL l g : Int)))]) ∧ Nums w' v' (tchL l g e) ∧ Below w.heap.size w w' := by
  obtain ⟨j0, hj, hy0, hy1, hyb⟩ := info_parts infoKint
  have K1 := hide (commits_any h (Below.refl _ _) hs hT g)
  have hsm := cmsL_sm hs g
  have hlen := cmsL_len l g
  have hmay : ∀ (i : Nat) (c : Cm), (cmsL l g)[i]? = some c → mayB c.next = true ∧ c.next.length ≠ 0 := fun i c hc => ⟨(cmsL_may hc).2.2.2.1, (cmsL_may hc).2.2.2.2⟩
  obtain ⟨L, hL⟩ : ∃ z, z = lenL l g := ⟨_, rfl⟩
  obtain ⟨cs, hcs⟩ : ∃ z, z = cmsL l g := ⟨_, rfl⟩
  obtain ⟨TT, hTT⟩ : ∃ z, z = tchL l g e := ⟨_, rfl⟩
  have HTN : Hid (¬ (0 ≤ e ∧ e < (L : Int)) → TT = []) := fun q => by
    rw [hTT]
    unfold tchL
    split
    · unfold tchA
      rw [List.getElem?_eq_none (by rw [hlen, ← hL]; omega)]
    · rfl
  have HTP : Hid (∀ i : Nat, e = (i : Int) → TT = tchA cs i) := fun i hi => by
    rw [hTT, hcs]
    unfold tchL
    rw [if_pos (by omega), hi, Int.toNat_natCast]
  rw [← hL, ← hcs] at K1
  rw [← hcs] at hsm hmay
  rw [← hcs, ← hL] at hlen
  rw [← hL, ← hTT]
  have hLb : L ≤ 1073741824 := by rw [← hlen]; exact hsm.n
  obtain ⟨a, cap0, rfl⟩ := h.slice
  generalize l.length = NL at *
  have HS := hide (And.intro hmay (And.intro hlen hT))
  have KH := hide (fun (W : World) (a : Option Addr) (c : Nat) => has_any W a L c e hLb)
  have hLI : (L : Int) ≤ 1073741824 := by omega
  clear h hL hLb hs hT hcs hsm hlen hmay hTT
  by_cases hin : 0 ≤ e ∧ e < (L : Int)
  · rw [decide_eq_true hin] at KH ⊢
    obtain ⟨idx, rfl⟩ : ∃ n : Nat, e = (n : Int) := ⟨e.toNat, by omega⟩
    have q1 : (idx : Int) < (L : Int) := hin.2
    have q0 : (0 : Int) ≤ (idx : Int) := hin.1
    have HT1 := hide (unhide HTP idx rfl)
    clear HTN HTP hin
    go_enter Tryz.func10, Tryz.ntmps10
    go_wp2_with fail
    refine (unhide K1).mono ?_
    rintro y w1 ⟨a9, c9, rfl, hcm, b1⟩
    have HCM := hide (And.intro hcm b1)
    clear hcm b1 K1
    go_wp2_with fail
    refine (unhide KH w1 a9 c9).mono ?_
    rintro y w1 ⟨rfl, rfl⟩
    clear KH
    obtain ⟨c, hc⟩ : ∃ c, cs[idx]? = some c := ⟨_, List.getElem?_eq_getElem (by have := (unhide HS).2.1; omega)⟩
    obtain ⟨b', o', ea, x, hx, hcc⟩ := (unhide HCM).1.get hc
    subst ea
    have b1 := (unhide HCM).2
    obtain ⟨a5, k5, e5⟩ := hx.next.slice
    have KM1 := membersX_any (hx.next.bw b1) ((unhide HS).2.2.bw b1)
    have hm1 := (unhide HS).1 idx c hc
    rw [hm1.1, if_pos rfl] at KM1
    have y12 : w1.cell? ⟨b', o' + idx * 15 + 12, none⟩ = some x.nv := by have := hcc 12 _ rfl; rw [b1.cell (lt_of_cell this)]; exact this
    rw [e5] at KM1 y12
    obtain ⟨LN, hLN⟩ : ∃ z, z = c.next.length := ⟨_, rfl⟩
    rw [← hLN] at KM1 y12
    obtain ⟨mA, hmA⟩ : ∃ z, z = mems c.next := ⟨_, rfl⟩
    rw [← hmA] at KM1
    have HA : Hid (mA ≠ [] ∧ mA.length ≤ 8) := by unfold Hid; rw [hmA]; exact ⟨mems_ne hm1.1 hm1.2, mems_len hm1.1⟩
    have HT2 : Hid (TT = tchO mA (if idx = 0 then [] else match cs[idx - 1]? with | none => [] | some d => mems d.next)) := by unfold Hid; rw [unhide HT1, hmA]; unfold tchA; rw [hc]; rfl
    have KMh := hide KM1
    clear KM1 hLN hmA hm1 hx hcc hc e5 HT1 b1
    go_wp2_with fail
    refine (unhide KMh).mono ?_
    rintro y w2 ⟨r1, rfl, hr1, b2⟩
    obtain ⟨a1, k1, rfl⟩ := own_slice hr1
    have HR1 := hide (And.intro hr1 b2)
    clear hr1 b2 KMh y12
    by_cases hi0 : idx = 0
    · subst hi0
      have hr0 := (unhide HR1).1
      have HB : Hid (Below w.heap.size w w2) := bw_tr (unhide HCM).2 (unhide HR1).2
      obtain ⟨l0, hl0⟩ : ∃ z, z = mA := ⟨_, rfl⟩
      have HTT : Hid (TT = Lib.compact (srt l0)) := by unfold Hid; rw [unhide HT2, hl0]; simp [tchO]
      have hpos : 0 < l0.length := by rw [hl0]; exact List.length_pos_iff.2 (unhide HA).1
      have hl16 : l0.length ≤ 16 := by rw [hl0]; have := (unhide HA).2; omega
      rw [← hl0] at hr0
      have hr : w2.ownsRow w.heap.size 3 1 (.slice a1 l0.length k1) l0.length (l0.map I64) := own_mono hr0 (unhide HCM).2.size
      rw [← hl0]
      obtain ⟨wz, hwz⟩ : ∃ z, z = w2 := ⟨_, rfl⟩
      rw [← hwz] at hr HB ⊢
      clear hwz hr0 hl0 HT2 HA HR1 HS HCM
      have hlS : (l0.mergeSort fun x y => decide (x ≤ y)).length = l0.length := by simp
      obtain ⟨g, cap, hv, hg, hcap, _⟩ := own_open hr hpos
      have hcm : cap ≤ maxLen := by rw [hv] at hr; obtain ⟨cur, _, _, _, q, _, _⟩ := own_blk hr; exact q
      have hge : w.heap.size ≤ g := by have := (World.ownsRow.lt hr g (by rw [hv]; rfl)).1; omega
      have hH : Sort.Holds (Value.int .i64) wz g 0 l0.toArray := fun j hj => by
        have hj' : j < l0.length := by simpa using hj
        refine ⟨?_, ?_⟩
        · have := own_cell hr (g := g) (by rw [hv]; rfl) (j := j) (u := .int .i64 l0[j]) (by simp [I64, List.getElem?_eq_getElem hj'])
          rw [getElem!_pos _ j hj]; simpa using this
        · have := own_frozen hr (g := g) (by rw [hv]; rfl) j; simpa using this
      have K1 := hide (AnyM.slices_Sort_int laysSo g 0 cap l0 wz hH hg (by omega))
      obtain ⟨N0, hN0⟩ : ∃ z, z = l0.length := ⟨_, rfl⟩
      rw [← hN0] at hv K1 ⊢
      injection hv with h1_ h2_ h3_
      subst h1_
      have h4_ := h3_.symm
      subst h4_
      clear h2_
      have HP := hide (And.intro hH (And.intro hg (And.intro hcap (And.intro hcm (And.intro hge (And.intro hl16 (And.intro hlS hN0)))))))
      clear hlS hg hcap hcm hge hH hr hpos hl16 hN0
      go_wp2_with fail
      refine (unhide K1).mono ?_
      rintro e w7 ⟨rfl, n7, os7, hw7⟩
      obtain ⟨hH, hg, hcap, hcm, hge, hl16, hlS, hN0⟩ := unhide HP
      have hH2 : Sort.Holds (Value.int .i64) w7 g 0 (l0.mergeSort fun x y => decide (x ≤ y)).toArray := by
        rw [hw7]
        exact Sort.holds_grow _ _ _ _ _ _ (by simpa using hg) (Sort.holds_putRow _ _ _ _ _ _ (Sort.holds_ahead _ _ _ _ _ _ hH) (by simp))
      have f2 : Fr [g] wz w7 := by rw [hw7]; exact (fr_putRow wz g 0 n7 _).tr (fr_grow _ _ _)
      have K2 := Any.slices_Compact_int laysCo g 0 cap _ w7 hH2 (by rw [hlS]; omega) (by rw [hlS]; omega)
      obtain ⟨S, hS⟩ : ∃ z, z = l0.mergeSort fun x y => decide (x ≤ y) := ⟨_, rfl⟩
      rw [← hS] at K2 hH2 hlS
      rw [hlS, ← hN0] at K2
      have hMl := compact_le S
      obtain ⟨M, hM⟩ : ∃ z, z = (Lib.compact S).length := ⟨_, rfl⟩
      rw [← hM] at K2 hMl
      have HQ := hide (And.intro hH2 (And.intro f2 (And.intro hS (And.intro hM (And.intro hMl hlS)))))
      have K2h := hide K2
      clear K1 hw7 hH hg hcap hcm hge hl16 hlS hN0 hH2 f2 K2 hS hM hMl
      go_wp2_with fail
      refine (unhide K2h).mono ?_
      rintro e w8 ⟨rfl, q8, hw8⟩
      have HR : Hid (Nums w8 (.slice (some ⟨g, 0, none⟩) M cap) TT ∧ Below w.heap.size w w8) := by
        obtain ⟨hH, hg, hcap, hcm, hge, hl16, hlS0, hN0⟩ := unhide HP
        obtain ⟨hH2, f2, hS, hM, hMl, hlS⟩ := unhide HQ
        have f3 : Fr [g] w7 w8 := by rw [hw8]; exact fr_putRow w7 g 0 q8 _
        refine ⟨?_, Fr.toBase (unhide HB) (f2.tr f3) (by intro z hz; rw [List.mem_singleton] at hz; subst hz; exact hge)⟩
        have hH3 : Sort.Holds (Value.int .i64) w8 g 0 (Lib.compact S ++ List.replicate (N0 - M) 0).toArray := by
          rw [hw8]
          exact Sort.holds_putRow _ _ _ _ _ _ (Sort.holds_ahead _ _ _ _ _ _ hH2) (by simp [← hM]; omega)
        rw [unhide HTT, hM, show srt l0 = S from hS.symm]
        refine Or.inr ⟨g, 0, cap, rfl, by omega, hcm, fun j z hj => ?_⟩
        have hjl := (List.getElem?_eq_some_iff.1 hj).1
        have := (hH3 j (by simp; omega)).1
        rw [getElem!_pos _ j (by simp; omega)] at this
        simp only [List.getElem_toArray] at this
        rw [List.getElem_append_left hjl, (List.getElem?_eq_some_iff.1 hj).2] at this
        exact this
      clear K2h hw8 HP HQ
      go_wp2_with fail
      go_ret2
      exact ⟨_, rfl, (unhide HR).1, (unhide HR).2⟩
    · obtain ⟨i', hi'⟩ : ∃ z, z = idx - 1 := ⟨_, rfl⟩
      have v1 : (idx : Int) - 1 = (i' : Int) := by omega
      have v2 : (i' : Int) < (L : Int) := by omega
      have v3 : (0 : Int) ≤ (i' : Int) := by omega
      have v4 : (0 : Int) < (idx : Int) := by omega
      have v5 : IntKind.i64.wrap (i' : Int) = (i' : Int) := by rw [IntKind.wrap_i64]; omega
      have v8 : 0 < idx := by omega
      obtain ⟨d, hd⟩ : ∃ d, cs[i']? = some d := ⟨_, List.getElem?_eq_getElem (by have := (unhide HS).2.1; omega)⟩
      obtain ⟨b2', o2', ea, x2, hx2, hcc2⟩ := (unhide HCM).1.get hd
      cases ea
      have bw2 : Below w.heap.size w w2 := bw_tr (unhide HCM).2 (unhide HR1).2
      obtain ⟨a6, k6, e6⟩ := hx2.next.slice
      have KM1 := membersX_any (hx2.next.bw bw2) ((unhide HS).2.2.bw bw2)
      have hm1 := (unhide HS).1 i' d hd
      rw [hm1.1, if_pos rfl] at KM1
      have y12 : w2.cell? ⟨b', o' + i' * 15 + 12, none⟩ = some x2.nv := by have := hcc2 12 _ rfl; rw [bw2.cell (lt_of_cell this)]; exact this
      rw [e6] at KM1 y12
      obtain ⟨LN2, hLN2⟩ : ∃ z, z = d.next.length := ⟨_, rfl⟩
      rw [← hLN2] at KM1 y12
      obtain ⟨mB, hmB⟩ : ∃ z, z = mems d.next := ⟨_, rfl⟩
      rw [← hmB] at KM1
      have HBm : Hid (mB ≠ [] ∧ mB.length ≤ 8) := by unfold Hid; rw [hmB]; exact ⟨mems_ne hm1.1 hm1.2, mems_len hm1.1⟩
      have HTT0 : Hid (TT = Lib.compact (srt (mA ++ mB))) := by unfold Hid; rw [unhide HT2, if_neg hi0, ← hi', hd, hmB]; rfl
      have KMh := hide KM1
      have HB2 := hide bw2
      clear KM1 hLN2 hmB hm1 hx2 hcc2 hd e6 HT2 bw2 hi0 hi'
      go_wp2_with fail
      refine (unhide KMh).mono ?_
      rintro y w3 ⟨r2, rfl, hr2, b3⟩
      obtain ⟨g2, k2, hv2, _, _, _⟩ := own_open hr2 (List.length_pos_iff.2 (unhide HBm).1)
      have hcell2 : ∀ j u, (mB.map I64)[j]? = some u → w3.cell? ((⟨g2, 0, none⟩ : Addr).add j) = some u := fun j u hu => by
        have e0 : (⟨g2, 0, none⟩ : Addr).add j = ⟨g2, j, none⟩ := by unfold Addr.add; by_cases hz : j = 0 <;> simp [hz]
        rw [e0]; exact own_cell hr2 (by rw [hv2]; rfl) hu
      have hrA : w3.ownsRow w.heap.size 3 1 (.slice a1 mA.length k1) mA.length (mA.map I64) := own_mono (own_keep (unhide HR1).1 (fun z hz => b3.block z (World.ownsRow.lt (unhide HR1).1 z hz).2)) (unhide HCM).2.size
      obtain ⟨nB, hnB⟩ : ∃ z, z = mB.length := ⟨_, rfl⟩
      obtain ⟨nA, hnA⟩ : ∃ z, z = mA.length := ⟨_, rfl⟩
      rw [← hnB] at hv2
      subst hv2
      rw [← hnA] at hrA
      have HAP := hide (And.intro hrA (And.intro hcell2 (And.intro hnB (And.intro hnA (And.intro (unhide HBm).2 (And.intro (unhide HA).2 (And.intro (bw_tr (unhide HB2) b3) (unhide HA).1)))))))
      rw [← hnA]
      clear hr2 b3 hcell2 hrA hnB hnA KMh y12 HR1 HB2 HS HCM HA HBm
      go_wp2_with (at_builtin; refine wpList_append_own_at _ rfl (.tmp 25) (.tmp 32) 27 rfl w.heap.size 3 j0 (.int .i64 0) 1 8 Tryz.underlying27 hj hy0 hy1 hyb rfl (by decide) _ nA (mA.map I64) rfl (unhide HAP).1 ⟨g2, 0, none⟩ nB k2 (mB.map I64) rfl (by rw [(unhide HAP).2.2.1]; simp) (unhide HAP).2.1 (i64_one mB) ?c3 ?c4 ?c5 ?nx)
      case c3 => have := unhide HAP; unfold maxLen; omega
      case c4 => have := unhide HAP; omega
      case c5 => exact (unhide HAP).2.2.2.2.2.2.1.size
      case nx =>
        intro v3 w4 hown3 hgrow3 _ _
        obtain ⟨_, _, hnB, hnA, hlB, hlA, hbw3, hne⟩ := unhide HAP
        have HB : Hid (Below w.heap.size w w4) := by
          refine Fr.toBase hbw3 (Fr.ofGrown hgrow3) (fun z hz => ?_)
          exact (World.ownsRow.lt (unhide HAP).1 z (by simpa using hz)).1
        obtain ⟨a3, k3, e3⟩ := own_slice hown3
        subst e3
        obtain ⟨l0, hl0⟩ : ∃ z, z = mA ++ mB := ⟨_, rfl⟩
        have hl0l : l0.length = nA + nB := by rw [hl0, List.length_append, hnA, hnB]
        have HTT : Hid (TT = Lib.compact (srt l0)) := by unfold Hid; rw [unhide HTT0, hl0]
        have hpos : 0 < l0.length := by rw [hl0l, hnA]; have := List.length_pos_iff.2 hne; omega
        have hl16 : l0.length ≤ 16 := by rw [hl0l]; omega
        have hr : w4.ownsRow w.heap.size 3 1 (.slice a3 l0.length k3) l0.length (l0.map I64) := by rw [hl0l, hl0, List.map_append]; exact hown3
        rw [← hl0l]
        obtain ⟨wz, hwz⟩ : ∃ z, z = w4 := ⟨_, rfl⟩
        rw [← hwz] at hr HB ⊢
        clear hwz hl0 hl0l hnA hnB hlB hlA hbw3 hne HAP HTT0 hown3 hgrow3
        have hlS : (l0.mergeSort fun x y => decide (x ≤ y)).length = l0.length := by simp
        obtain ⟨g, cap, hv, hg, hcap, _⟩ := own_open hr hpos
        have hcm : cap ≤ maxLen := by rw [hv] at hr; obtain ⟨cur, _, _, _, q, _, _⟩ := own_blk hr; exact q
        have hge : w.heap.size ≤ g := by have := (World.ownsRow.lt hr g (by rw [hv]; rfl)).1; omega
        have hH : Sort.Holds (Value.int .i64) wz g 0 l0.toArray := fun j hj => by
          have hj' : j < l0.length := by simpa using hj
          refine ⟨?_, ?_⟩
          · have := own_cell hr (g := g) (by rw [hv]; rfl) (j := j) (u := .int .i64 l0[j]) (by simp [I64, List.getElem?_eq_getElem hj'])
            rw [getElem!_pos _ j hj]; simpa using this
          · have := own_frozen hr (g := g) (by rw [hv]; rfl) j; simpa using this
        have K1 := hide (AnyM.slices_Sort_int laysSo g 0 cap l0 wz hH hg (by omega))
        obtain ⟨N0, hN0⟩ : ∃ z, z = l0.length := ⟨_, rfl⟩
        rw [← hN0] at hv K1 ⊢
        injection hv with h1_ h2_ h3_
        subst h1_
        have h4_ := h3_.symm
        subst h4_
        clear h2_
        have HP := hide (And.intro hH (And.intro hg (And.intro hcap (And.intro hcm (And.intro hge (And.intro hl16 (And.intro hlS hN0)))))))
        clear hlS hg hcap hcm hge hH hr hpos hl16 hN0
        go_wp2_with fail
        refine (unhide K1).mono ?_
        rintro e w7 ⟨rfl, n7, os7, hw7⟩
        obtain ⟨hH, hg, hcap, hcm, hge, hl16, hlS, hN0⟩ := unhide HP
        have hH2 : Sort.Holds (Value.int .i64) w7 g 0 (l0.mergeSort fun x y => decide (x ≤ y)).toArray := by
          rw [hw7]
          exact Sort.holds_grow _ _ _ _ _ _ (by simpa using hg) (Sort.holds_putRow _ _ _ _ _ _ (Sort.holds_ahead _ _ _ _ _ _ hH) (by simp))
        have f2 : Fr [g] wz w7 := by rw [hw7]; exact (fr_putRow wz g 0 n7 _).tr (fr_grow _ _ _)
        have K2 := Any.slices_Compact_int laysCo g 0 cap _ w7 hH2 (by rw [hlS]; omega) (by rw [hlS]; omega)
        obtain ⟨S, hS⟩ : ∃ z, z = l0.mergeSort fun x y => decide (x ≤ y) := ⟨_, rfl⟩
        rw [← hS] at K2 hH2 hlS
        rw [hlS, ← hN0] at K2
        have hMl := compact_le S
        obtain ⟨M, hM⟩ : ∃ z, z = (Lib.compact S).length := ⟨_, rfl⟩
        rw [← hM] at K2 hMl
        have HQ := hide (And.intro hH2 (And.intro f2 (And.intro hS (And.intro hM (And.intro hMl hlS)))))
        have K2h := hide K2
        clear K1 hw7 hH hg hcap hcm hge hl16 hlS hN0 hH2 f2 K2 hS hM hMl
        go_wp2_with fail
        refine (unhide K2h).mono ?_
        rintro e w8 ⟨rfl, q8, hw8⟩
        have HR : Hid (Nums w8 (.slice (some ⟨g, 0, none⟩) M cap) TT ∧ Below w.heap.size w w8) := by
          obtain ⟨hH, hg, hcap, hcm, hge, hl16, hlS0, hN0⟩ := unhide HP
          obtain ⟨hH2, f2, hS, hM, hMl, hlS⟩ := unhide HQ
          have f3 : Fr [g] w7 w8 := by rw [hw8]; exact fr_putRow w7 g 0 q8 _
          refine ⟨?_, Fr.toBase (unhide HB) (f2.tr f3) (by intro z hz; rw [List.mem_singleton] at hz; subst hz; exact hge)⟩
          have hH3 : Sort.Holds (Value.int .i64) w8 g 0 (Lib.compact S ++ List.replicate (N0 - M) 0).toArray := by
            rw [hw8]
            exact Sort.holds_putRow _ _ _ _ _ _ (Sort.holds_ahead _ _ _ _ _ _ hH2) (by simp [← hM]; omega)
          rw [unhide HTT, hM, show srt l0 = S from hS.symm]
          refine Or.inr ⟨g, 0, cap, rfl, by omega, hcm, fun j z hj => ?_⟩
          have hjl := (List.getElem?_eq_some_iff.1 hj).1
          have := (hH3 j (by simp; omega)).1
          rw [getElem!_pos _ j (by simp; omega)] at this
          simp only [List.getElem_toArray] at this
          rw [List.getElem_append_left hjl, (List.getElem?_eq_some_iff.1 hj).2] at this
          exact this
        clear K2h hw8 HP HQ
        go_wp2_with fail
        go_ret2
        exact ⟨_, rfl, (unhide HR).1, (unhide HR).2⟩
  · rw [decide_eq_false hin] at KH ⊢
    have HN := hide (unhide HTN hin)
    clear HTN HTP HS hin
    go_enter Tryz.func10, Tryz.ntmps10
    go_wp2_with fail
    refine (unhide K1).mono ?_
    rintro y w1 ⟨a9, c9, rfl, hcm, b1⟩
    have HB1 := hide b1
    clear hcm b1 K1
    go_wp2_with fail
    refine (unhide KH w1 a9 c9).mono ?_
    rintro y w1 ⟨rfl, rfl⟩
    clear KH
    go_wp2_with fail
    go_ret2
    exact ⟨_, rfl, by rw [unhide HN]; exact Or.inl ⟨rfl, none, 0, rfl, fun _ => rfl⟩, unhide HB1⟩
end Go.Proofs.YtnfhbmlmemifjaaGreatDoor
