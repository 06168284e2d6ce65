/- Texts joined: LgApP LgLawAppends. -/
import Derived.Test.YtnfhbmlmemifjaaGreatDoorBgH
import Derived.Test.YtnfhbmlmemifjaaGreatDoorLgRh
import Derived.Test.YtnfhbmlmemifjaaGreatDoorZ29
import Derived.Test.YtnfhbmlmemifjaaGreatDoorZ27
import Derived.Test.YtnfhbmlmemifjaaGreatDoorZ25
import Derived.Test.YtnfhbmlmemifjaaGreatDoorZ22
import Derived.Deep.RegionHeld3
/- What LedgerAppends needs, plainly: how much a Book of a log, of what Append gives and of a commit holds. mkLgAppends.py writes it. -/
namespace Go.Proofs.YtnfhbmlmemifjaaGreatDoor
open Go.RowKit Go.Maps
set_option maxHeartbeats 1600000 in
theorem beyond14b (b : Nat) (n m : Nat) (c : Nat) (w : World) (hn : n ≤ 9007199254740992) (hm : m ≤ 9007199254740992) (h0 : w.cell? ⟨b, 0, none⟩ = some (.int .i64 n)) (h1 : w.cell? ⟨b, 1, none⟩ = some (.int .i64 m)) :
    Calls Tryz.prog 5 #[.slice (some ⟨b, 0, none⟩) 2 c] w fun e w' => ∃ z, e = .returned (.bool z) ∧ w' = w ∧ (z = false → n + m ≤ 262144) := by
  by_cases hb : 262144 < n
  · go_enter Tryz.func5, Tryz.ntmps5
    go_wp2
    refine wp_loop_rounds 1 ?_
    rw [rounds_succ]
    go_wp2
    go_ret
    exact ⟨_, rfl, rfl, fun q => by first | omega | (simp at q; omega) | cases q⟩
  by_cases hb2 : 262144 < m
  · go_enter Tryz.func5, Tryz.ntmps5
    go_wp2
    refine wp_loop_rounds 2 ?_
    rw [rounds_succ]
    go_wp2
    rw [rounds_succ]
    go_wp2
    go_ret
    exact ⟨_, rfl, rfl, fun q => by first | omega | (simp at q; omega) | cases q⟩
  by_cases hb3 : (262144 : Int) < (n : Int) + (m : Int)
  · go_enter Tryz.func5, Tryz.ntmps5
    go_wp2
    refine wp_loop_rounds 2 ?_
    rw [rounds_succ]
    go_wp2
    rw [rounds_succ]
    go_wp2
    go_ret
    exact ⟨_, rfl, rfl, fun q => by first | omega | (simp at q; omega) | cases q⟩
  · go_enter Tryz.func5, Tryz.ntmps5
    go_wp2
    refine wp_loop_rounds 3 ?_
    rw [rounds_succ]
    go_wp2
    rw [rounds_succ]
    go_wp2
    rw [rounds_succ]
    go_wp2
    go_ret
    exact ⟨_, rfl, rfl, fun q => by first | omega | (simp at q; omega) | cases q⟩
theorem sum_mem {α : Type} {f g : α → Nat} : ∀ {l : List α}, (∀ x ∈ l, f x ≤ g x) → (l.map f).foldr (· + ·) 0 ≤ (l.map g).foldr (· + ·) 0
  | [], _ => by simp
  | x :: l, h => by
    have := sum_mem (l := l) (fun y hy => h y (List.mem_cons_of_mem _ hy))
    have := h x List.mem_cons_self
    simp only [List.map_cons, List.foldr_cons]
    omega
theorem csN_two : ∀ {l : List Cm}, (∀ c ∈ l, 2 ≤ cmN c) → 2 * l.length ≤ csN l
  | [], _ => by simp
  | c :: l, h => by
    have := csN_two (l := l) (fun y hy => h y (List.mem_cons_of_mem _ hy))
    have := h c List.mem_cons_self
    unfold csN at this ⊢
    simp only [List.map_cons, List.foldr_cons, List.length_cons]
    unfold csN at *
    omega
theorem logs_len2 (T : KS) (h : T5 T) (hc : T.D 21 = some kgCommit.k) (v : Value) (l : List Lg) (xs : List (Value × List (Cv × List Value))) (hb : ∀ p ∈ l, ∀ c ∈ p.2, 2 ≤ cmN c) : ((pkLg T h hc).L 28 v l xs).length ≤ 2 * lsN l + 1 := by
  have h1 := zf_len (P := (pkLg T h hc).P) (fun p => csN p.2 + 4 * p.2.length + 1) (fun p x => by
    show ((pkCm T h).L 21 x.1 p.2 x.2).length ≤ _
    have h1 := zf_len (P := (pkCm T h).P) (fun c => cmN c + 4) (fun c x => Nat.le_trans (pkCm_len T h c x) (by unfold cmN; omega)) p.2 x.2
    rw [sum_add] at h1
    unfold PK.L
    rw [List.length_append, List.length_singleton]
    unfold csN
    omega) l xs
  have h2 := sum_mem (f := fun p : Lg => csN p.2 + 4 * p.2.length + 1) (g := fun p => 2 * lgN p) (l := l) (fun p hp => by
    have := csN_two (hb p hp)
    unfold lgN
    omega)
  have h3 := sum_two (f := fun p : Lg => 2 * lgN p) (g := lgN) (a := 1) (b := 2) (fun p => by omega) l
  unfold PK.L
  rw [List.length_append, List.length_singleton]
  unfold lsN
  omega
theorem insl_mem2 {c : Cm} : ∀ {l : List Lg} {p : Lg}, p ∈ insl l c → ∀ d ∈ p.2, d = c ∨ ∃ q ∈ l, d ∈ q.2
  | [], p, h, d, hd => by
    have : p = (c.gr, [c]) := by simpa [insl] using h
    subst this
    exact Or.inl (by simpa using hd)
  | q :: r, p, h, d, hd => by
    rw [insl_cons] at h
    split at h
    · rcases List.mem_cons.1 h with e | e
      · subst e
        rcases List.mem_append.1 hd with z | z
        · exact Or.inr ⟨q, List.mem_cons_self, z⟩
        · exact Or.inl (by simpa using z)
      · exact Or.inr ⟨p, List.mem_cons_of_mem _ e, hd⟩
    · split at h
      · rcases List.mem_cons.1 h with e | e
        · subst e; exact Or.inl (by simpa using hd)
        · exact Or.inr ⟨p, e, hd⟩
      · rcases List.mem_cons.1 h with e | e
        · subst e; exact Or.inr ⟨p, List.mem_cons_self, hd⟩
        · rcases insl_mem2 e d hd with z | ⟨z, hz, hz2⟩
          · exact Or.inl z
          · exact Or.inr ⟨z, List.mem_cons_of_mem _ hz, hz2⟩
theorem csN_snoc (l : List Cm) (c : Cm) : csN (l ++ [c]) = csN l + cmN c := by
  unfold csN
  rw [List.map_append]
  exact sum_snoc _ _
theorem insl_lsN (c : Cm) : ∀ l : List Lg, lsN (insl l c) ≤ lsN l + cmN c + 2
  | [] => by simp [insl, lsN, lgN, csN]; omega
  | p :: r => by
    have := insl_lsN c r
    rw [insl_cons]
    split
    · unfold lsN
      simp only [List.map_cons, List.foldr_cons]
      unfold lgN
      rw [csN_snoc, List.length_append, List.length_singleton]
      omega
    · split
      · unfold lsN
        simp only [List.map_cons, List.foldr_cons]
        have : lgN (c.gr, [c]) = 2 + cmN c := by simp [lgN, csN]
        omega
      · unfold lsN at this ⊢
        simp only [List.map_cons, List.foldr_cons]
        omega
theorem mayC_two {c : Cm} (h : mayC c = true) : 2 ≤ cmN c := by
  unfold mayC at h
  simp only [Bool.and_eq_true, decide_eq_true_eq] at h
  have := h.2
  unfold cmN
  omega
theorem chk_two {l : List Lg} (h : chkB l = true) : ∀ p ∈ l, ∀ c ∈ p.2, 2 ≤ cmN c := fun p hp c hc => by
  obtain ⟨j, hj⟩ := List.getElem?_of_mem hc
  exact mayC_two ((log_iff.1 ((chk_parts h).2.2 p hp)).2 j c hj).2.2
theorem app_count {l : List Lg} {c : Cm} (hb : l.length + lsN l + cmN c ≤ 262144) (v v' : Value) (xs xs' : List (Value × List (Cv × List Value))) : ((pkLg ksLg t5Lg hcLg).L 28 v l xs).length + ((pkLg ksLg t5Lg hcLg).L 28 v' (appL l c) xs').length + (c.next.length + 5) ≤ 1150000 := by
  have hcn : c.next.length ≤ cmN c := by unfold cmN; omega
  by_cases h0 : appE l c = 0
  · have ha := appE_ok h0
    have e : appL l c = insl l c := by unfold appL; rw [if_pos h0]
    rw [e]
    have h1 := logs_len2 ksLg t5Lg hcLg v l xs (chk_two ha.1)
    have h2 := logs_len2 ksLg t5Lg hcLg v' (insl l c) xs' (fun p hp d hd => by
      rcases insl_mem2 hp d hd with q | ⟨q, hq, hq2⟩
      · rw [q]; exact mayC_two ha.2.1
      · exact chk_two ha.1 q hq d hq2)
    have h3 := insl_lsN c l
    omega
  · have e : appL l c = [] := by unfold appL; rw [if_neg h0]
    rw [e]
    have h1 := logs_len ksLg t5Lg hcLg v l xs (by omega)
    have h2 : ((pkLg ksLg t5Lg hcLg).L 28 v' [] xs').length = 1 := by unfold PK.L; simp
    omega
theorem app_sb {l : List Lg} {c : Cm} (hb : l.length + lsN l + cmN c ≤ 262144) : (∀ p ∈ appL l c, (pkLg ksLg t5Lg hcLg).S p) ∧ (appL l c).length ≤ 1150000 := by
  have hB := lgB_of (l := l) (by omega)
  by_cases h0 : appE l c = 0
  · have e : appL l c = insl l c := by unfold appL; rw [if_pos h0]
    rw [e]
    refine ⟨fun p hp => ⟨?_, fun d hd => ?_⟩, ?_⟩
    · have := insl_sz (fun q hq => (hB q hq).1) p hp; omega
    · rcases insl_mem2 hp d hd with q | ⟨q, hq, hq2⟩
      · rw [q]; exact smB_of (cmB_of (by omega))
      · exact smB_of ((hB q hq).2 d hq2)
    · have := insl_lenD l c; omega
  · have e : appL l c = [] := by unfold appL; rw [if_neg h0]
    rw [e]
    exact ⟨fun p hp => absurd hp (by simp), by simp⟩
theorem fin3 {w2 y1 y3 z : World} {B1 B2 xb G : Nat} {CL : List Value} {p : Pl} {ps : List Lq} {l : List Lg} {c : Cm} {A : Array Value} (hT : TwLs B1 y1 G l ps) (hC : p.tw B2 y3 c) (h1 : w2.heap.size ≤ B1) (h12 : y1.heap.size ≤ B2) (b13 : Below y1.heap.size y1 z) (b3 : Below y3.heap.size y3 z) (bz : Below w2.heap.size w2 z)
    (hx : z.heap[xb]? = some (.cells A 34 (0, 0))) (hA : A.size = 15) (hxb : w2.heap.size ≤ xb) (n1 : xb < B1 ∨ y1.heap.size ≤ xb) (n2 : xb < B2 ∨ y3.heap.size ≤ xb) (h2s : B2 ≤ y3.heap.size) (hCL : CL.length = 15) (hl : l.length ≤ 262144) (hs : ∀ q ∈ l, SmG q ∧ LgB q) :
    z.there xb 0 CL.toArray.size ∧ (z.setCells xb 0 CL.toArray.toList).heap[xb]? = some (.cells CL.toArray 34 (0, 0)) ∧ TwLs B1 (z.setCells xb 0 CL.toArray.toList) G l ps ∧ p.tw B2 (z.setCells xb 0 CL.toArray.toList) c ∧ Below w2.heap.size w2 (z.setCells xb 0 CL.toArray.toList) ∧
    (∀ k ∈ zK kLg (.slice (some ⟨G, 0, none⟩) l.length (l.length + 2)) (List.zipWith lqX l ps), k < B2) ∧ w2.heap.size ≤ B2 ∧ B2 ≤ (z.setCells xb 0 CL.toArray.toList).heap.size ∧ w2.heap.size ≤ B1 ∧ B1 ≤ B2 := by
  have hlow := hT.low
  have hlt := lt_of_blk hT.blk
  refine ⟨fun j hj => ?_, ?_, ?_, ?_, ?_, ?_, by omega, ?_, h1, by omega⟩
  · have hj' : j < A.size := by rw [hA]; simpa [hCL] using hj
    rw [Nat.zero_add]
    have hy := Array.getElem?_eq_getElem (xs := A) (i := j) hj'
    exact ⟨by rw [cell_of_blk hx hy]; rfl, frozen_of_blk0 hx _⟩
  · rw [bg_pokes, List.toList_toArray]
    have q := pokes_at CL z 0 A hx
    rw [pk_all (by rw [hA, hCL])] at q
    exact q
  · rw [bg_pokes]
    exact hT.keep (Nat.le_refl _) (fun k hk1 hk2 => by rw [pokes_other (by omega)]; exact b13.block k hk2)
  · rw [bg_pokes]
    exact TwC.keep hC (Nat.le_refl _) (fun k hk1 hk2 => by rw [pokes_other (by omega)]; exact b3.block k hk2)
  · rw [bg_pokes]; exact pokes_below hxb _ _ _ bz
  · intro k hk
    have := (OwL.lt (hT.own hl hs) k hk).2
    omega
  · rw [bg_pokes]
    have := (pokes_below (n := 0) (w := z) (Nat.zero_le xb) CL.toArray.toList z 0 (bw_mono (Below.refl z.heap.size z) (Nat.zero_le _))).size
    have := b3.size
    omega
theorem cmC_oneA {w : World} {c : Cm} {x : Cv} (h : CmR w c x) : ∀ u ∈ cmC c x, u.oneCell' = true := by
  intro v hv
  obtain ⟨a1, k1, e1⟩ := h.adds.slice
  obtain ⟨a2, k2, e2⟩ := nums_slice h.rem
  obtain ⟨a3, k3, e3⟩ := h.seals.slice
  obtain ⟨a4, k4, e4⟩ := h.joins.slice
  obtain ⟨a5, k5, e5⟩ := h.next.slice
  simp only [cmC, e1, e2, e3, e4, e5, List.mem_cons, List.not_mem_nil, or_false] at hv
  rcases hv with rfl | rfl | rfl | rfl | rfl | rfl | rfl | rfl | rfl | rfl | rfl | rfl | rfl | rfl | rfl <;> rfl
theorem ap_cross {B1 B2 : Nat} {D P : List Pc} (hD : D.Pairwise ApP) (hP : P.Pairwise ApP) (h1 : ∀ p ∈ D, ∀ k, p.v.ownBlock = some k → B1 ≤ k) (h2 : ∀ p ∈ P, ∀ k, p.v.ownBlock = some k → k < B2) (h : B2 ≤ B1) : (D ++ P).Pairwise ApP :=
  List.pairwise_append.2 ⟨hD, hP, fun p hp q hq _ k hk hk2 => by have := h1 p hp k hk; have := h2 q hq k hk2; omega⟩
end Go.Proofs.YtnfhbmlmemifjaaGreatDoor

/- LedgerAppends, the walk. mkLgAppends.py writes it. -/
namespace Go.Proofs.YtnfhbmlmemifjaaGreatDoor
open Go.RowKit Go.Maps
set_option maxRecDepth 100000 in
set_option maxHeartbeats 16000000 in
theorem LedgerAppends_walk (W : World) (v : Value) (l : List Lg) (h : Lgs W v l) (hT : Tab W) (c : Cm) (x : Cv) (hc : CmR W c x) :
    Calls Tryz.prog 4 #[v, cmV c x] W fun r w' => r = .returned (.bool true) ∧ Below W.heap.size W w' := by
  obtain ⟨a1, k1, a2, k2, a3, k3, a4, k4, a5, k5, hv, -⟩ := cmV_expl hc
  obtain ⟨W0, hW0⟩ : ∃ Z, Z = W.alloc (.cells #[.int .i64 c.gr, .int .i64 c.ep, .int .i64 c.dev, .int .i64 c.mem, .int .i64 c.ke, .bool c.ext, .slice a1 c.adds.length k1, .slice a2 c.rem.length k2, .slice a3 c.seals.length k3, .slice a4 c.joins.length k4, .int .i64 c.own, .int .i64 c.ent, .slice a5 c.next.length k5, .int .i64 c.face, .int .i64 c.card] 34) := ⟨_, rfl⟩
  have hb0 : Below W.heap.size W W0 := by rw [hW0]; exact bwA _ _
  have k0 : W0.heap[W.heap.size]? = some (.cells #[.int .i64 c.gr, .int .i64 c.ep, .int .i64 c.dev, .int .i64 c.mem, .int .i64 c.ke, .bool c.ext, .slice a1 c.adds.length k1, .slice a2 c.rem.length k2, .slice a3 c.seals.length k3, .slice a4 c.joins.length k4, .int .i64 c.own, .int .i64 c.ent, .slice a5 c.next.length k5, .int .i64 c.face, .int .i64 c.card] 34 (0, 0)) := by rw [hW0]; exact heap_alloc_new _ _
  have HCc : Hid (∀ w, Below W0.heap.size W0 w → w.cell? ⟨W.heap.size, 0, none⟩ = some (.int .i64 c.gr) ∧ w.cell? ⟨W.heap.size, 1, none⟩ = some (.int .i64 c.ep) ∧ w.cell? ⟨W.heap.size, 2, none⟩ = some (.int .i64 c.dev) ∧ w.cell? ⟨W.heap.size, 3, none⟩ = some (.int .i64 c.mem) ∧ w.cell? ⟨W.heap.size, 4, none⟩ = some (.int .i64 c.ke) ∧ w.cell? ⟨W.heap.size, 5, none⟩ = some (.bool c.ext) ∧ w.cell? ⟨W.heap.size, 6, none⟩ = some (.slice a1 c.adds.length k1) ∧ w.cell? ⟨W.heap.size, 7, none⟩ = some (.slice a2 c.rem.length k2) ∧ w.cell? ⟨W.heap.size, 8, none⟩ = some (.slice a3 c.seals.length k3) ∧ w.cell? ⟨W.heap.size, 9, none⟩ = some (.slice a4 c.joins.length k4) ∧ w.cell? ⟨W.heap.size, 10, none⟩ = some (.int .i64 c.own) ∧ w.cell? ⟨W.heap.size, 11, none⟩ = some (.int .i64 c.ent) ∧ w.cell? ⟨W.heap.size, 12, none⟩ = some (.slice a5 c.next.length k5) ∧ w.cell? ⟨W.heap.size, 13, none⟩ = some (.int .i64 c.face) ∧ w.cell? ⟨W.heap.size, 14, none⟩ = some (.int .i64 c.card)) := fun w hw => by
    have q := kept_b k0 (lt_of_blk k0) hw
    exact ⟨blk_c q rfl, blk_c q rfl, blk_c q rfl, blk_c q rfl, blk_c q rfl, blk_c q rfl, blk_c q rfl, blk_c q rfl, blk_c q rfl, blk_c q rfl, blk_c q rfl, blk_c q rfl, blk_c q rfl, blk_c q rfl, blk_c q rfl⟩
  have HCb : Hid (∀ w, Below W0.heap.size W0 w → w.heap[W.heap.size]? = some (.cells ([.int .i64 c.gr, .int .i64 c.ep, .int .i64 c.dev, .int .i64 c.mem, .int .i64 c.ke, .bool c.ext, .slice a1 c.adds.length k1, .slice a2 c.rem.length k2, .slice a3 c.seals.length k3, .slice a4 c.joins.length k4, .int .i64 c.own, .int .i64 c.ent, .slice a5 c.next.length k5, .int .i64 c.face, .int .i64 c.card] : List Value).toArray 34 (0, 0))) := fun w hw => kept_b k0 (lt_of_blk k0) hw
  have HTB : Hid (∀ w, Below W.heap.size W w → Tab w) := fun w hw => hT.bw hw
  have HL : Hid (∀ w, Below W0.heap.size W0 w → Lgs w v l ∧ Tab w ∧ CmR w c x) := fun w hw => ⟨h.bw (bw_tr hb0 hw), hT.bw (bw_tr hb0 hw), hc.bw (bw_tr hb0 hw)⟩
  have HS0 : Hid (l.length + lsN l + cmN c ≤ 262144 → (SmL l ∧ (∀ p ∈ l, LgB p) ∧ SmC c ∧ CmR W c x) ∧ CmB c ∧ l.length ≤ 262144 ∧ (∀ q ∈ l, SmG q ∧ LgB q) ∧ l.length + lsN l + cmN c ≤ 262144 ∧ SmL (appL l c)) := fun q =>
    have h1 := smL_of h (by omega)
    have h2 := lgB_of (l := l) (by omega)
    have h3 := smC_of hc (by omega)
    ⟨⟨h1, h2, h3, hc⟩, cmB_of (by omega), by omega, fun p hp => ⟨h1.g p hp, h2 p hp⟩, q, ((szL_of h (by omega)).app h3).sm (by omega)⟩
  have KZ := hide (lsize_any (h.bw (bw_tr hb0 (Below.refl _ _).drew)))
  have KC : Hid (∀ w, Below W0.heap.size W0 w → Calls Tryz.prog 26 #[.agg #[.int .i64 c.gr, .int .i64 c.ep, .int .i64 c.dev, .int .i64 c.mem, .int .i64 c.ke, .bool c.ext, .slice a1 c.adds.length k1, .slice a2 c.rem.length k2, .slice a3 c.seals.length k3, .slice a4 c.joins.length k4, .int .i64 c.own, .int .i64 c.ent, .slice a5 c.next.length k5, .int .i64 c.face, .int .i64 c.card]] w fun e w' => ∃ n : Nat, e = .returned (.int .i64 (n : Int)) ∧ n ≤ 2251799813685248 ∧ (n ≤ 262144 → n = cmN c) ∧ Below w.heap.size w w') := fun w hw => by rw [← hv]; exact cmsize_any (hc.bw (bw_tr hb0 hw))
  obtain ⟨a, cap, hva⟩ := h.slice
  obtain ⟨NL, hNL⟩ : ∃ z, z = l.length := ⟨_, rfl⟩
  have HKT1 : Hid (l.length ≤ 262144 → (∀ p ∈ l, LgB p) → ∀ w, Below W0.heap.size W0 w → Calls Tryz.prog 7 #[v] w fun e w' => ∃ G ps, e = .returned (.slice (some ⟨G, 0, none⟩) NL (NL + 2)) ∧ TwLs w.heap.size w' G l ps ∧ Below w.heap.size w w') := fun q1 q2 w hw => by
    rw [hNL]
    refine (twinlogs_any w v l (h.bw (bw_tr hb0 hw)) q1 q2).mono ?_
    rintro e w' ⟨ps, rfl, hpl, htw, b⟩
    exact ⟨_, ps, rfl, htw.fin hpl, b⟩
  have HKT3 : Hid (CmB c → ∀ w, Below W0.heap.size W0 w → Calls Tryz.prog 27 #[.agg #[.int .i64 c.gr, .int .i64 c.ep, .int .i64 c.dev, .int .i64 c.mem, .int .i64 c.ke, .bool c.ext, .slice a1 c.adds.length k1, .slice a2 c.rem.length k2, .slice a3 c.seals.length k3, .slice a4 c.joins.length k4, .int .i64 c.own, .int .i64 c.ent, .slice a5 c.next.length k5, .int .i64 c.face, .int .i64 c.card]] w fun e w' => ∃ (CL : List Value) (p : Pl), e = .returned (.agg CL.toArray) ∧ (CL = p.row c ∧ p.tw w.heap.size w' c) ∧ Below w.heap.size w w') := fun q w hw => by
    rw [← hv]
    refine (twinpl_any (hc.bw (bw_tr hb0 hw)) q).mono ?_
    rintro e w' ⟨p, rfl, h1, h2⟩
    exact ⟨_, p, rfl, ⟨rfl, h1⟩, h2⟩
  have HKR : Hid (SmL l → (∀ p ∈ l, LgB p) → SmC c → ∀ w, Below W0.heap.size W0 w → Calls Tryz.prog 29 #[v, .agg #[.int .i64 c.gr, .int .i64 c.ep, .int .i64 c.dev, .int .i64 c.mem, .int .i64 c.ke, .bool c.ext, .slice a1 c.adds.length k1, .slice a2 c.rem.length k2, .slice a3 c.seals.length k3, .slice a4 c.joins.length k4, .int .i64 c.own, .int .i64 c.ent, .slice a5 c.next.length k5, .int .i64 c.face, .int .i64 c.card]] w fun e w' => ∃ v', e = .returned (.tuple #[v', .int .i64 (appE l c)]) ∧ Lgs w' v' (appL l c) ∧ Below w.heap.size w w') := fun q1 q2 q3 w hw => by
    rw [← hv]
    exact rappend_any (h.bw (bw_tr hb0 hw)) q1 (fun p hp => (q2 p hp).1) (hc.bw (bw_tr hb0 hw)) q3
  have HV : Hid (cmV c x = .agg #[.int .i64 c.gr, .int .i64 c.ep, .int .i64 c.dev, .int .i64 c.mem, .int .i64 c.ke, .bool c.ext, .slice a1 c.adds.length k1, .slice a2 c.rem.length k2, .slice a3 c.seals.length k3, .slice a4 c.joins.length k4, .int .i64 c.own, .int .i64 c.ent, .slice a5 c.next.length k5, .int .i64 c.face, .int .i64 c.card]) := hv
  have HNL : Hid (NL = l.length) := hNL
  rw [← hNL] at hva
  subst hva
  rw [hv]
  have HW0 := hide hW0
  have HB0 := hide hb0
  clear h hT hc hv k0 hb0 hW0 hNL
  go_enter Tryz.func4, Tryz.ntmps4
  go_upto_region 1 with fail
  rw [← unhide HW0]
  clear HW0
  refine wp_region_held_drew (S := fun w' : World => w'.cell? ⟨W.heap.size, 0, none⟩ = some (.int .i64 c.gr) ∧ w'.cell? ⟨W.heap.size, 1, none⟩ = some (.int .i64 c.ep) ∧ w'.cell? ⟨W.heap.size, 2, none⟩ = some (.int .i64 c.dev) ∧ w'.cell? ⟨W.heap.size, 3, none⟩ = some (.int .i64 c.mem) ∧ w'.cell? ⟨W.heap.size, 4, none⟩ = some (.int .i64 c.ke) ∧ w'.cell? ⟨W.heap.size, 5, none⟩ = some (.bool c.ext) ∧ w'.cell? ⟨W.heap.size, 6, none⟩ = some (.slice a1 c.adds.length k1) ∧ w'.cell? ⟨W.heap.size, 7, none⟩ = some (.slice a2 c.rem.length k2) ∧ w'.cell? ⟨W.heap.size, 8, none⟩ = some (.slice a3 c.seals.length k3) ∧ w'.cell? ⟨W.heap.size, 9, none⟩ = some (.slice a4 c.joins.length k4) ∧ w'.cell? ⟨W.heap.size, 10, none⟩ = some (.int .i64 c.own) ∧ w'.cell? ⟨W.heap.size, 11, none⟩ = some (.int .i64 c.ent) ∧ w'.cell? ⟨W.heap.size, 12, none⟩ = some (.slice a5 c.next.length k5) ∧ w'.cell? ⟨W.heap.size, 13, none⟩ = some (.int .i64 c.face) ∧ w'.cell? ⟨W.heap.size, 14, none⟩ = some (.int .i64 c.card)) (by kernel_rfl) (unhide HCc _ (Below.refl _ _).drew) (fun hHeld => ?_)
  refine wpAnyH_take (i := 0) (oi := { dst := some 12, op := Op.move (Operand.tmp 0), type := 22, pos := "law.go:59", after := #[], guard := none }) (v := .slice a NL cap) rfl (by kernel_rfl) (by kernel_rfl) (by kernel_rfl) (fun _ _ _ h => h) (Or.inl ⟨by rfl, fun w hSw => by (try dsimp only at hSw); go_simp⟩) (by exact hHeld) ?_
  try simp only [Act.put, List.setIfInBounds_toArray, List.set_cons_zero, List.set_cons_succ]
  refine wpAnyH_take (i := 2) (oi := { dst := some 14, op := Op.load 34 (Operand.tmp 3), type := 34, pos := "law.go:59", after := #[], guard := none }) (v := .agg #[.int .i64 c.gr, .int .i64 c.ep, .int .i64 c.dev, .int .i64 c.mem, .int .i64 c.ke, .bool c.ext, .slice a1 c.adds.length k1, .slice a2 c.rem.length k2, .slice a3 c.seals.length k3, .slice a4 c.joins.length k4, .int .i64 c.own, .int .i64 c.ent, .slice a5 c.next.length k5, .int .i64 c.face, .int .i64 c.card]) rfl (by kernel_rfl) (by kernel_rfl) (by kernel_rfl) (fun _ _ _ h => h) (Or.inl ⟨by rfl, fun w hSw => by (try dsimp only at hSw); go_simp⟩) (by exact hHeld) ?_
  try simp only [Act.put, List.setIfInBounds_toArray, List.set_cons_zero, List.set_cons_succ]
  refine wpAnyH_ready (rs := [1]) (by kernel_rfl) (by simp) ?_
  refine (AllReadyH.cons (o := { dst := some 13, op := Op.call { callee := Callee.value (Operand.func 6), args := #[Operand.tmp 12], argTypes := #[22] }, type := 3, pos := "law.go:59", after := #[{ on := 0, ground := Ground.data }], guard := none }) rfl (fun K hK => ?_) AllReadyH.nil)
  go_simp
  refine (unhide KZ).mono ?_
  rintro e z1 ⟨n, rfl, hn, hnl, b1⟩
  have bz1 := bw_tr (Below.refl _ _).drew b1
  go_wp2_with fail
  refine hK.out _ _ (unhide HCc z1 bz1) (fun _ => ?_)
  clear hK K
  try simp only [Act.put, List.setIfInBounds_toArray, List.set_cons_zero, List.set_cons_succ]
  refine wpAnyH_ready (rs := [3]) (by kernel_rfl) (by simp) ?_
  refine (AllReadyH.cons (o := { dst := some 15, op := Op.call { callee := Callee.value (Operand.func 26), args := #[Operand.tmp 14], argTypes := #[34] }, type := 3, pos := "law.go:59", after := #[{ on := 2, ground := Ground.data }, { on := 1, ground := Ground.chain }], guard := none }) rfl (fun K hK => ?_) AllReadyH.nil)
  go_simp
  refine (unhide KC z1 bz1).mono ?_
  rintro e z2 ⟨m, rfl, hm, hml, b2⟩
  have bz2 := bw_tr bz1 b2
  go_wp2_with fail
  refine hK.out _ _ (unhide HCc z2 bz2) (fun _ => ?_)
  clear hK K
  try simp only [Act.put, List.setIfInBounds_toArray, List.set_cons_zero, List.set_cons_succ]
  refine wpAnyH_ready (rs := [4]) (by kernel_rfl) (by simp) ?_
  refine (AllReadyH.cons (o := { dst := some 16, op := Op.buildSlice 27 2 #[(0, Operand.tmp 13), (1, Operand.tmp 15)], type := 27, pos := "law.go:59", after := #[{ on := 1, ground := Ground.data }, { on := 3, ground := Ground.data }], guard := none }) rfl (fun K hK => ?_) AllReadyH.nil)
  go_simp
  have bz3 := bw_tr bz2 (bwA z2 (.cells #[.int .i64 (n : Int), .int .i64 (m : Int)] 3))
  refine hK.out _ _ (unhide HCc _ bz3) (fun _ => ?_)
  clear hK K
  try simp only [Act.put, List.setIfInBounds_toArray, List.set_cons_zero, List.set_cons_succ]
  refine wpAnyH_ready (rs := [5]) (by kernel_rfl) (by simp) ?_
  refine (AllReadyH.cons (o := { dst := some 17, op := Op.call { callee := Callee.value (Operand.func 5), args := #[Operand.tmp 16], argTypes := #[27] }, type := 4, pos := "law.go:59", after := #[{ on := 4, ground := Ground.data }, { on := 3, ground := Ground.chain }], guard := none }) rfl (fun K hK => ?_) AllReadyH.nil)
  go_simp
  refine (beyond14b z2.heap.size n m 2 _ hn (by omega) (blk_c (heap_alloc_new _ _) rfl) (blk_c (heap_alloc_new _ _) rfl)).mono ?_
  rintro e z5 ⟨zb, rfl, hz5, hzb⟩
  subst hz5
  go_wp2_with fail
  refine hK.out _ _ (unhide HCc _ bz3) (fun _ => ?_)
  clear hK K
  try simp only [Act.put, List.setIfInBounds_toArray, List.set_cons_zero, List.set_cons_succ]
  refine wpAnyH_done (by kernel_rfl) ?_ _
  have B2 := hide bz3
  have HN2 : Hid (zb = false → l.length + lsN l + cmN c ≤ 262144) := fun q => by have := hzb q; have := hnl (by omega); have := hml (by omega); omega
  clear hn hnl hm hml hzb b1 b2 bz1 bz2 bz3 KZ KC
  cases zb with
  | true =>
    go_wp2_with fail
    go_ret
    exact ⟨rfl, bw_tr (unhide HB0) (unhide B2)⟩
  | false =>
    have HS := hide (unhide HS0 ((unhide HN2) (by first | rfl | trivial)))
    have KT1 := hide (fun w hw => (unhide HKT1) (unhide HS).2.2.1 (unhide HS).1.2.1 w (bw_tr (unhide B2) hw))
    have KT3 := hide (fun w hw => (unhide HKT3) (unhide HS).2.1 w (bw_tr (unhide B2) hw))
    have KR := hide ((unhide HKR) (unhide HS).1.1 (unhide HS).1.2.1 (unhide HS).1.2.2.1)
    clear HS0 HN2 HKT1 HKT3 HKR
    go_upto_region 3 with fail
    generalize hw2g : (World.alloc z2 _) = w2 at B2 KT1 KT3 ⊢
    clear hw2g
    go_cut [5, 6] from 18 to 22 (fun s5 s6 wx => ∃ (G xb B1 : Nat) (CL : List Value) (pl : Pl) (ps : List Lq) (B2 : Nat), s5 = .slice (some ⟨G, 0, none⟩) NL (NL + 2) ∧ s6 = .pointer (some ⟨xb, 0, none⟩) ∧ CL = pl.row c ∧ (wx.heap[xb]? = some (.cells CL.toArray 34 (0, 0)) ∧ TwLs B1 wx G l ps ∧ pl.tw B2 wx c ∧ Below w2.heap.size w2 wx ∧ (∀ k ∈ zK kLg (.slice (some ⟨G, 0, none⟩) l.length (l.length + 2)) (List.zipWith lqX l ps), k < B2) ∧ w2.heap.size ≤ B2 ∧ B2 ≤ wx.heap.size ∧ w2.heap.size ≤ B1 ∧ B1 ≤ B2))
    case first =>
      have BD : Hid (Below w2.heap.size w2 w2.drew) := (Below.refl _ _).drew
      refine wp_region_held_drew (S := fun w' : World => w'.cell? ⟨W.heap.size, 0, none⟩ = some (.int .i64 c.gr) ∧ w'.cell? ⟨W.heap.size, 1, none⟩ = some (.int .i64 c.ep) ∧ w'.cell? ⟨W.heap.size, 2, none⟩ = some (.int .i64 c.dev) ∧ w'.cell? ⟨W.heap.size, 3, none⟩ = some (.int .i64 c.mem) ∧ w'.cell? ⟨W.heap.size, 4, none⟩ = some (.int .i64 c.ke) ∧ w'.cell? ⟨W.heap.size, 5, none⟩ = some (.bool c.ext) ∧ w'.cell? ⟨W.heap.size, 6, none⟩ = some (.slice a1 c.adds.length k1) ∧ w'.cell? ⟨W.heap.size, 7, none⟩ = some (.slice a2 c.rem.length k2) ∧ w'.cell? ⟨W.heap.size, 8, none⟩ = some (.slice a3 c.seals.length k3) ∧ w'.cell? ⟨W.heap.size, 9, none⟩ = some (.slice a4 c.joins.length k4) ∧ w'.cell? ⟨W.heap.size, 10, none⟩ = some (.int .i64 c.own) ∧ w'.cell? ⟨W.heap.size, 11, none⟩ = some (.int .i64 c.ent) ∧ w'.cell? ⟨W.heap.size, 12, none⟩ = some (.slice a5 c.next.length k5) ∧ w'.cell? ⟨W.heap.size, 13, none⟩ = some (.int .i64 c.face) ∧ w'.cell? ⟨W.heap.size, 14, none⟩ = some (.int .i64 c.card)) (by kernel_rfl) (unhide HCc _ (bw_tr (unhide B2) (unhide BD))) (fun hHeld => ?_)
      refine wpAnyH_take (i := 0) (oi := { dst := some 18, op := Op.move (Operand.tmp 0), type := 22, pos := "law.go:62", after := #[], guard := none }) (v := .slice a NL cap) rfl (by kernel_rfl) (by kernel_rfl) (by kernel_rfl) (fun _ _ _ h => h) (Or.inl ⟨by rfl, fun w hSw => by (try dsimp only at hSw); go_simp⟩) (by exact hHeld) ?_
      try simp only [Act.put, List.setIfInBounds_toArray, List.set_cons_zero, List.set_cons_succ]
      refine wpAnyH_take (i := 2) (oi := { dst := some 20, op := Op.load 34 (Operand.tmp 3), type := 34, pos := "law.go:62", after := #[], guard := none }) (v := .agg #[.int .i64 c.gr, .int .i64 c.ep, .int .i64 c.dev, .int .i64 c.mem, .int .i64 c.ke, .bool c.ext, .slice a1 c.adds.length k1, .slice a2 c.rem.length k2, .slice a3 c.seals.length k3, .slice a4 c.joins.length k4, .int .i64 c.own, .int .i64 c.ent, .slice a5 c.next.length k5, .int .i64 c.face, .int .i64 c.card]) rfl (by kernel_rfl) (by kernel_rfl) (by kernel_rfl) (fun _ _ _ h => h) (Or.inl ⟨by rfl, fun w hSw => by (try dsimp only at hSw); go_simp⟩) (by exact hHeld) ?_
      try simp only [Act.put, List.setIfInBounds_toArray, List.set_cons_zero, List.set_cons_succ]
      refine wpAnyH_ready (rs := [1, 4]) (by kernel_rfl) (by simp) ?_
      refine (AllReadyH.cons (o := { dst := some 19, op := Op.call { callee := Callee.value (Operand.func 7), args := #[Operand.tmp 18], argTypes := #[22] }, type := 22, pos := "law.go:62", after := #[{ on := 0, ground := Ground.data }], guard := none }) rfl (fun K hK => ?_) (AllReadyH.cons (o := { dst := some 6, op := Op.alloc 34, type := 0, pos := "law.go:62", after := #[], guard := none }) rfl (fun K hK => ?_) AllReadyH.nil))
      · go_simp
        refine (unhide KT1 _ (unhide BD)).mono ?_
        rintro r y1 ⟨G, ps, rfl, hT, b1⟩
        have HT1 := hide hT
        have HB1 := hide b1
        have BY1 := hide (bw_tr (unhide BD) b1)
        clear hT b1
        go_wp2_with fail
        refine hK.out _ _ (unhide HCc _ (bw_tr (unhide B2) (unhide BY1))) (fun _ => ?_)
        clear hK K
        try simp only [Act.put, List.setIfInBounds_toArray, List.set_cons_zero, List.set_cons_succ]
        refine wpAnyH_ready (rs := [3, 4]) (by kernel_rfl) (by simp) ?_
        refine (AllReadyH.cons (o := { dst := some 21, op := Op.call { callee := Callee.value (Operand.func 27), args := #[Operand.tmp 20], argTypes := #[34] }, type := 34, pos := "law.go:62", after := #[{ on := 2, ground := Ground.data }, { on := 1, ground := Ground.chain }], guard := none }) rfl (fun K hK => ?_) (AllReadyH.cons (o := { dst := some 6, op := Op.alloc 34, type := 0, pos := "law.go:62", after := #[], guard := none }) rfl (fun K hK => ?_) AllReadyH.nil))
        · go_simp
          refine (unhide KT3 _ (unhide BY1)).mono ?_
          rintro r y3 ⟨CL, pl, rfl, hC, b3⟩
          have HC3 := hide hC
          have HB3 := hide b3
          have BY3 := hide (bw_tr (unhide BY1) b3)
          clear hC b3
          go_wp2_with fail
          refine hK.out _ _ (unhide HCc _ (bw_tr (unhide B2) (unhide BY3))) (fun _ => ?_)
          clear hK K
          try simp only [Act.put, List.setIfInBounds_toArray, List.set_cons_zero, List.set_cons_succ]
          refine wpAnyH_ready (rs := [4]) (by kernel_rfl) (by simp) ?_
          refine (AllReadyH.cons (o := { dst := some 6, op := Op.alloc 34, type := 0, pos := "law.go:62", after := #[], guard := none }) rfl (fun K hK => ?_) AllReadyH.nil)
          go_simp
          refine hK.out _ _ (unhide HCc _ (bw_tr (unhide B2) (bw_tr (unhide BY3) (bwA _ _)))) (fun _ => ?_)
          clear hK K
          try simp only [Act.put, List.setIfInBounds_toArray, List.set_cons_zero, List.set_cons_succ]
          refine wpAnyH_ready (rs := [5]) (by kernel_rfl) (by simp) ?_
          refine (AllReadyH.cons (o := { dst := some 5, op := Op.assign (Operand.tmp 19), type := 22, pos := "law.go:62", after := #[{ on := 1, ground := Ground.data }, { on := 3, ground := Ground.chain }, { on := 0, ground := Ground.phase }, { on := 1, ground := Ground.phase }, { on := 2, ground := Ground.textOnly Departure.lateStores }, { on := 3, ground := Ground.textOnly Departure.lateStoresUnsure }, { on := 4, ground := Ground.phase }], guard := none }) rfl (fun K hK => ?_) AllReadyH.nil)
          go_simp
          refine hK.out _ _ (unhide HCc _ (bw_tr (unhide B2) (bw_tr (unhide BY3) (bwA _ _)))) (fun _ => ?_)
          clear hK K
          try simp only [Act.put, List.setIfInBounds_toArray, List.set_cons_zero, List.set_cons_succ]
          refine wpAnyH_ready (rs := [6]) (by kernel_rfl) (by simp) ?_
          refine (AllReadyH.cons (o := { dst := none, op := Op.store 34 (Operand.tmp 6) (Operand.tmp 21), type := 0, pos := "law.go:62", after := #[{ on := 4, ground := Ground.data }, { on := 3, ground := Ground.data }, { on := 5, ground := Ground.chain }, { on := 0, ground := Ground.phase }, { on := 1, ground := Ground.phase }, { on := 2, ground := Ground.phase }, { on := 3, ground := Ground.phase }, { on := 4, ground := Ground.phase }, { on := 5, ground := Ground.phase }], guard := none }) rfl (fun K hK => ?_) AllReadyH.nil)
          obtain ⟨hC1, hC2⟩ := unhide HC3
          have F := hide (fin3 (w2 := w2) (z := (y3.alloc (.cells #[.int .i64 0, .int .i64 0, .int .i64 0, .int .i64 0, .int .i64 0, .bool false, .slice none 0 0, .slice none 0 0, .slice none 0 0, .slice none 0 0, .int .i64 0, .int .i64 0, .slice none 0 0, .int .i64 0, .int .i64 0] 34))) (CL := CL) (A := #[.int .i64 0, .int .i64 0, .int .i64 0, .int .i64 0, .int .i64 0, .bool false, .slice none 0 0, .slice none 0 0, .slice none 0 0, .slice none 0 0, .int .i64 0, .int .i64 0, .slice none 0 0, .int .i64 0, .int .i64 0]) (unhide HT1) hC2 (unhide BD).size (Nat.le_refl _) (bw_tr (unhide HB3) (bwA _ _)) (bwA _ _) (bw_tr (unhide BY3) (bwA _ _)) (heap_alloc_new _ _) rfl (unhide BY3).size (Or.inr (unhide HB3).size) (Or.inr (Nat.le_refl _)) (unhide HB3).size (by rw [hC1]; rfl) (unhide HS).2.2.1 (unhide HS).2.2.2.1)
          obtain ⟨xb, hxb9⟩ : ∃ b, b = y3.heap.size := ⟨_, rfl⟩
          rw [← hxb9] at F
          have HX9 := hide hxb9
          have hone : CL.toArray.all (·.oneCell') = true := by rw [hC1, List.all_toArray]; exact List.all_eq_true.2 (cmC_oneA (TwC.cmr hC2 (unhide HS).1.2.2.2 (unhide HS).2.1.a (unhide HS).2.1.r (unhide HS).2.1.q (unhide HS).2.1.j (unhide HS).2.1.n (unhide HS).2.1.u))
          clear hxb9
          have hcs : (Tryz.prog.info? 34).map (·.size) = some CL.toArray.size := by rw [List.size_toArray, show CL.length = 15 by rw [hC1]; rfl]; exact bgsizeCommit
          refine bg_store rfl 34 (.tmp 6) (.tmp 21) rfl xb 0 CL.toArray (by rw [unhide HX9]; first | rfl | simp [Act.eval, Act.put]) (by first | rfl | simp [Act.eval, Act.put]) (unhide F).1 hcs hone ?_
          refine hK.out _ _ (unhide HCc _ (bw_tr (unhide B2) (unhide F).2.2.2.2.1)) (fun _ => ?_)
          clear hK K
          try simp only [Act.put]
          refine wpAnyH_done (by kernel_rfl) ?_ _
          clear hC1 hC2 hone hcs
          go_wp2_with fail
          go_meet
          case rel => exact ⟨G, xb, _, CL, pl, ps, _, rfl, by first | (rw [unhide HX9]; done) | (rw [unhide HX9]; rfl) | (rw [unhide HX9]; simp), (unhide HC3).1, (unhide F).2⟩
        · go_simp
          refine hK.out _ _ (unhide HCc _ (bw_tr (unhide B2) (bw_tr (unhide BY1) (bwA _ _)))) (fun _ => ?_)
          clear hK K
          try simp only [Act.put, List.setIfInBounds_toArray, List.set_cons_zero, List.set_cons_succ]
          refine wpAnyH_ready (rs := [3]) (by kernel_rfl) (by simp) ?_
          refine (AllReadyH.cons (o := { dst := some 21, op := Op.call { callee := Callee.value (Operand.func 27), args := #[Operand.tmp 20], argTypes := #[34] }, type := 34, pos := "law.go:62", after := #[{ on := 2, ground := Ground.data }, { on := 1, ground := Ground.chain }], guard := none }) rfl (fun K hK => ?_) AllReadyH.nil)
          go_simp
          refine (unhide KT3 _ (bw_tr (unhide BY1) (bwA _ _))).mono ?_
          rintro r y3 ⟨CL, pl, rfl, hC, b3⟩
          have HC3 := hide hC
          have HB3 := hide b3
          have BY3 := hide (bw_tr (bw_tr (unhide BY1) (bwA _ _)) b3)
          clear hC b3
          go_wp2_with fail
          refine hK.out _ _ (unhide HCc _ (bw_tr (unhide B2) (unhide BY3))) (fun _ => ?_)
          clear hK K
          try simp only [Act.put, List.setIfInBounds_toArray, List.set_cons_zero, List.set_cons_succ]
          refine wpAnyH_ready (rs := [5]) (by kernel_rfl) (by simp) ?_
          refine (AllReadyH.cons (o := { dst := some 5, op := Op.assign (Operand.tmp 19), type := 22, pos := "law.go:62", after := #[{ on := 1, ground := Ground.data }, { on := 3, ground := Ground.chain }, { on := 0, ground := Ground.phase }, { on := 1, ground := Ground.phase }, { on := 2, ground := Ground.textOnly Departure.lateStores }, { on := 3, ground := Ground.textOnly Departure.lateStoresUnsure }, { on := 4, ground := Ground.phase }], guard := none }) rfl (fun K hK => ?_) AllReadyH.nil)
          go_simp
          refine hK.out _ _ (unhide HCc _ (bw_tr (unhide B2) (unhide BY3))) (fun _ => ?_)
          clear hK K
          try simp only [Act.put, List.setIfInBounds_toArray, List.set_cons_zero, List.set_cons_succ]
          refine wpAnyH_ready (rs := [6]) (by kernel_rfl) (by simp) ?_
          refine (AllReadyH.cons (o := { dst := none, op := Op.store 34 (Operand.tmp 6) (Operand.tmp 21), type := 0, pos := "law.go:62", after := #[{ on := 4, ground := Ground.data }, { on := 3, ground := Ground.data }, { on := 5, ground := Ground.chain }, { on := 0, ground := Ground.phase }, { on := 1, ground := Ground.phase }, { on := 2, ground := Ground.phase }, { on := 3, ground := Ground.phase }, { on := 4, ground := Ground.phase }, { on := 5, ground := Ground.phase }], guard := none }) rfl (fun K hK => ?_) AllReadyH.nil)
          obtain ⟨hC1, hC2⟩ := unhide HC3
          have F := hide (fin3 (w2 := w2) (z := y3) (CL := CL) (A := #[.int .i64 0, .int .i64 0, .int .i64 0, .int .i64 0, .int .i64 0, .bool false, .slice none 0 0, .slice none 0 0, .slice none 0 0, .slice none 0 0, .int .i64 0, .int .i64 0, .slice none 0 0, .int .i64 0, .int .i64 0]) (unhide HT1) hC2 (unhide BD).size (by simp) (bw_tr (bwA _ _) (unhide HB3)) (Below.refl _ _) (unhide BY3) (kept_b (heap_alloc_new _ _) (by simp) (unhide HB3)) rfl (unhide BY1).size (Or.inr (Nat.le_refl _)) (Or.inl (by simp)) (unhide HB3).size (by rw [hC1]; rfl) (unhide HS).2.2.1 (unhide HS).2.2.2.1)
          obtain ⟨xb, hxb9⟩ : ∃ b, b = y1.heap.size := ⟨_, rfl⟩
          rw [← hxb9] at F
          have HX9 := hide hxb9
          have hone : CL.toArray.all (·.oneCell') = true := by rw [hC1, List.all_toArray]; exact List.all_eq_true.2 (cmC_oneA (TwC.cmr hC2 (unhide HS).1.2.2.2 (unhide HS).2.1.a (unhide HS).2.1.r (unhide HS).2.1.q (unhide HS).2.1.j (unhide HS).2.1.n (unhide HS).2.1.u))
          clear hxb9
          have hcs : (Tryz.prog.info? 34).map (·.size) = some CL.toArray.size := by rw [List.size_toArray, show CL.length = 15 by rw [hC1]; rfl]; exact bgsizeCommit
          refine bg_store rfl 34 (.tmp 6) (.tmp 21) rfl xb 0 CL.toArray (by rw [unhide HX9]; first | rfl | simp [Act.eval, Act.put]) (by first | rfl | simp [Act.eval, Act.put]) (unhide F).1 hcs hone ?_
          refine hK.out _ _ (unhide HCc _ (bw_tr (unhide B2) (unhide F).2.2.2.2.1)) (fun _ => ?_)
          clear hK K
          try simp only [Act.put]
          refine wpAnyH_done (by kernel_rfl) ?_ _
          clear hC1 hC2 hone hcs
          go_wp2_with fail
          go_meet
          case rel => exact ⟨G, xb, _, CL, pl, ps, _, rfl, by first | (rw [unhide HX9]; done) | (rw [unhide HX9]; rfl) | (rw [unhide HX9]; simp), (unhide HC3).1, (unhide F).2⟩
      · go_simp
        refine hK.out _ _ (unhide HCc _ (bw_tr (unhide B2) (bw_tr (unhide BD) (bwA _ _)))) (fun _ => ?_)
        clear hK K
        try simp only [Act.put, List.setIfInBounds_toArray, List.set_cons_zero, List.set_cons_succ]
        refine wpAnyH_ready (rs := [1]) (by kernel_rfl) (by simp) ?_
        refine (AllReadyH.cons (o := { dst := some 19, op := Op.call { callee := Callee.value (Operand.func 7), args := #[Operand.tmp 18], argTypes := #[22] }, type := 22, pos := "law.go:62", after := #[{ on := 0, ground := Ground.data }], guard := none }) rfl (fun K hK => ?_) AllReadyH.nil)
        go_simp
        refine (unhide KT1 _ (bw_tr (unhide BD) (bwA _ _))).mono ?_
        rintro r y1 ⟨G, ps, rfl, hT, b1⟩
        have HT1 := hide hT
        have HB1 := hide b1
        have BY1 := hide (bw_tr (bw_tr (unhide BD) (bwA _ _)) b1)
        clear hT b1
        go_wp2_with fail
        refine hK.out _ _ (unhide HCc _ (bw_tr (unhide B2) (unhide BY1))) (fun _ => ?_)
        clear hK K
        try simp only [Act.put, List.setIfInBounds_toArray, List.set_cons_zero, List.set_cons_succ]
        refine wpAnyH_ready (rs := [3]) (by kernel_rfl) (by simp) ?_
        refine (AllReadyH.cons (o := { dst := some 21, op := Op.call { callee := Callee.value (Operand.func 27), args := #[Operand.tmp 20], argTypes := #[34] }, type := 34, pos := "law.go:62", after := #[{ on := 2, ground := Ground.data }, { on := 1, ground := Ground.chain }], guard := none }) rfl (fun K hK => ?_) AllReadyH.nil)
        go_simp
        refine (unhide KT3 _ (unhide BY1)).mono ?_
        rintro r y3 ⟨CL, pl, rfl, hC, b3⟩
        have HC3 := hide hC
        have HB3 := hide b3
        have BY3 := hide (bw_tr (unhide BY1) b3)
        clear hC b3
        go_wp2_with fail
        refine hK.out _ _ (unhide HCc _ (bw_tr (unhide B2) (unhide BY3))) (fun _ => ?_)
        clear hK K
        try simp only [Act.put, List.setIfInBounds_toArray, List.set_cons_zero, List.set_cons_succ]
        refine wpAnyH_ready (rs := [5]) (by kernel_rfl) (by simp) ?_
        refine (AllReadyH.cons (o := { dst := some 5, op := Op.assign (Operand.tmp 19), type := 22, pos := "law.go:62", after := #[{ on := 1, ground := Ground.data }, { on := 3, ground := Ground.chain }, { on := 0, ground := Ground.phase }, { on := 1, ground := Ground.phase }, { on := 2, ground := Ground.textOnly Departure.lateStores }, { on := 3, ground := Ground.textOnly Departure.lateStoresUnsure }, { on := 4, ground := Ground.phase }], guard := none }) rfl (fun K hK => ?_) AllReadyH.nil)
        go_simp
        refine hK.out _ _ (unhide HCc _ (bw_tr (unhide B2) (unhide BY3))) (fun _ => ?_)
        clear hK K
        try simp only [Act.put, List.setIfInBounds_toArray, List.set_cons_zero, List.set_cons_succ]
        refine wpAnyH_ready (rs := [6]) (by kernel_rfl) (by simp) ?_
        refine (AllReadyH.cons (o := { dst := none, op := Op.store 34 (Operand.tmp 6) (Operand.tmp 21), type := 0, pos := "law.go:62", after := #[{ on := 4, ground := Ground.data }, { on := 3, ground := Ground.data }, { on := 5, ground := Ground.chain }, { on := 0, ground := Ground.phase }, { on := 1, ground := Ground.phase }, { on := 2, ground := Ground.phase }, { on := 3, ground := Ground.phase }, { on := 4, ground := Ground.phase }, { on := 5, ground := Ground.phase }], guard := none }) rfl (fun K hK => ?_) AllReadyH.nil)
        obtain ⟨hC1, hC2⟩ := unhide HC3
        have F := hide (fin3 (w2 := w2) (z := y3) (CL := CL) (A := #[.int .i64 0, .int .i64 0, .int .i64 0, .int .i64 0, .int .i64 0, .bool false, .slice none 0 0, .slice none 0 0, .slice none 0 0, .slice none 0 0, .int .i64 0, .int .i64 0, .slice none 0 0, .int .i64 0, .int .i64 0]) (unhide HT1) hC2 (bw_tr (unhide BD) (bwA _ _)).size (Nat.le_refl _) (unhide HB3) (Below.refl _ _) (unhide BY3) (kept_b (kept_b (heap_alloc_new _ _) (by simp) (unhide HB1)) (Nat.lt_of_lt_of_le (by simp) (unhide HB1).size) (unhide HB3)) rfl (unhide BD).size (Or.inl (by simp)) (Or.inl (Nat.lt_of_lt_of_le (by simp) (unhide HB1).size)) (unhide HB3).size (by rw [hC1]; rfl) (unhide HS).2.2.1 (unhide HS).2.2.2.1)
        obtain ⟨xb, hxb9⟩ : ∃ b, b = w2.drew.heap.size := ⟨_, rfl⟩
        rw [← hxb9] at F
        have HX9 := hide hxb9
        have hone : CL.toArray.all (·.oneCell') = true := by rw [hC1, List.all_toArray]; exact List.all_eq_true.2 (cmC_oneA (TwC.cmr hC2 (unhide HS).1.2.2.2 (unhide HS).2.1.a (unhide HS).2.1.r (unhide HS).2.1.q (unhide HS).2.1.j (unhide HS).2.1.n (unhide HS).2.1.u))
        clear hxb9
        have hcs : (Tryz.prog.info? 34).map (·.size) = some CL.toArray.size := by rw [List.size_toArray, show CL.length = 15 by rw [hC1]; rfl]; exact bgsizeCommit
        refine bg_store rfl 34 (.tmp 6) (.tmp 21) rfl xb 0 CL.toArray (by rw [unhide HX9]; first | rfl | simp [Act.eval, Act.put]) (by first | rfl | simp [Act.eval, Act.put]) (unhide F).1 hcs hone ?_
        refine hK.out _ _ (unhide HCc _ (bw_tr (unhide B2) (unhide F).2.2.2.2.1)) (fun _ => ?_)
        clear hK K
        try simp only [Act.put]
        refine wpAnyH_done (by kernel_rfl) ?_ _
        clear hC1 hC2 hone hcs
        go_wp2_with fail
        go_meet
        case rel => exact ⟨G, xb, _, CL, pl, ps, _, rfl, by first | (rw [unhide HX9]; done) | (rw [unhide HX9]; rfl) | (rw [unhide HX9]; simp), (unhide HC3).1, (unhide F).2⟩
    case rest =>
    obtain ⟨G, xb, B1, CL, pl, ps, B3, rfl, rfl, hCL, hF⟩ := hcut
    have HF := hide hF
    have HCL := hide hCL
    have HZ : Hid (CL.length = 15) := by unfold Hid; rw [hCL]; rfl
    clear hF hCL KT1 KT3
    rename World => w5
    have B5 : Hid (Below W0.heap.size W0 w5) := bw_tr (unhide B2) (unhide HF).2.2.2.1
    obtain ⟨qx, qT, qC, -⟩ := unhide HF
    have HT := hide qT
    have HC := hide qC
    have HX := hide qx
    have HOw : Hid (OwL kLg B1 w5 (.slice (some ⟨G, 0, none⟩) NL (NL + 2)) l (List.zipWith lqX l ps)) := by rw [unhide HNL]; exact qT.own (unhide HS).2.2.1 (unhide HS).2.2.2.1
    have HOc : Hid (OC B3 w5 c (twX c pl.ga pl.gr pl.gq pl.gj pl.gn) pl.us) := twC_ownG qC (unhide HS).1.2.2.1 (unhide HS).2.1.a (unhide HS).2.1.r (unhide HS).2.1.q (unhide HS).2.1.j (unhide HS).2.1.u
    have K4 : Hid (Calls Tryz.prog 28 #[.slice (some ⟨G, 0, none⟩) NL (NL + 2), .agg CL.toArray] w5 fun e w' => ∃ v' xs', e = .returned (.tuple #[v', .int .i64 (appE l c)]) ∧ OwL kLg w5.heap.size w' v' (appL l c) xs' ∧ Below w5.heap.size w5 w') := by
      rw [unhide HCL]
      exact lgAppend_any ((unhide HOw).lgs (unhide HS).1.1) (unhide HS).1.1 ((unhide HOc).rd (unhide HS).1.2.2.1) (unhide HS).1.2.2.1 (unhide HL w5 (unhide B5)).2.1
    clear qT qC
    go_wp2_with (refine wpList_load_mid rfl 34 (.tmp 6) rfl xb 0 (by first | rfl | simp [Act.eval]) CL _ (rng_blk qx) Tryz.underlying34 rfl (by rw [unhide HZ]; exact bgsizeCommit) ?_)
    refine (unhide K4).mono ?_
    rintro r w6 ⟨v6, xs6, rfl, q6, b6⟩
    obtain ⟨a6, c6, hv6⟩ := own_slice q6.row
    subst hv6
    obtain ⟨N6, hN6⟩ : ∃ z, z = (appL l c).length := ⟨_, rfl⟩
    have HN6 := hide hN6
    have HO6 := hide q6
    rw [← hN6] at HO6 ⊢
    have B6 := hide b6
    clear q6 b6 hN6 K4 qx
    have K5 := hide (unhide KR w6 (bw_tr (unhide B5) (unhide B6)))
    obtain ⟨s0, s1, s2, s3, s4, s5, s6, s7, s8, s9, s10, s11, s12, s13, s14⟩ := unhide HCc w6 (bw_tr (unhide B5) (unhide B6))
    clear KR
    go_wp2_with fail
    refine (unhide K5).mono ?_
    rintro r w7 ⟨v7, rfl, q7, b7⟩
    obtain ⟨a7, c7, hv7⟩ := q7.slice
    subst hv7
    rw [← unhide HN6] at q7 ⊢
    have HO7 := hide q7
    have B7 := hide (bw_tr (unhide B6) b7)
    have B67 := hide b7
    clear s0 s1 s2 s3 s4 s5 s6 s7 s8 s9 s10 s11 s12 s13 s14
    clear q7 b7 K5
    have HQ6 : Hid (Lgs w7 (.slice a6 N6 c6) (appL l c)) := ((unhide HO6).lgs (unhide HS).2.2.2.2.2).bw (unhide B67)
    have K6 := hide (samelogs_any (unhide HQ6) (unhide HO7))
    go_wp2_with fail
    refine (unhide K6).mono ?_
    rintro r w8 ⟨rfl, b8⟩
    have B8 := hide (bw_tr (unhide B7) b8)
    have B6to8 := hide (bw_tr (unhide B67) b8)
    clear b8 K6 HQ6
    have K7 := hide (leftlogs_any w8 B1 G _ l ps ((unhide HT).bw (unhide B8)) (unhide HL w8 (bw_tr (unhide B5) (unhide B8))).1 (unhide HS).2.2.1 (unhide HS).1.2.1)
    rw [← unhide HNL] at K7
    go_wp2_with fail
    refine (unhide K7).mono ?_
    rintro r w9 ⟨rfl, b9⟩
    have B9 := hide (bw_tr (unhide B8) b9)
    have B6to9 := hide (bw_tr (unhide B6to8) b9)
    clear b9 K7
    have K8 : Hid (Calls Tryz.prog 31 #[.agg CL.toArray, .agg #[.int .i64 c.gr, .int .i64 c.ep, .int .i64 c.dev, .int .i64 c.mem, .int .i64 c.ke, .bool c.ext, .slice a1 c.adds.length k1, .slice a2 c.rem.length k2, .slice a3 c.seals.length k3, .slice a4 c.joins.length k4, .int .i64 c.own, .int .i64 c.ent, .slice a5 c.next.length k5, .int .i64 c.face, .int .i64 c.card]] w9 fun e w' => e = .returned (.bool true) ∧ Below w9.heap.size w9 w') := by
      rw [unhide HCL, ← unhide HV]
      exact leftcm_any (TwC.bw (unhide HC) (unhide B9)) (unhide HL w9 (bw_tr (unhide B5) (unhide B9))).2.2 (unhide HS).2.1.a (unhide HS).2.1.r (unhide HS).2.1.q (unhide HS).2.1.j (unhide HS).2.1.n (unhide HS).2.1.u
    have qx := kept_b (unhide HX) (lt_of_blk (unhide HX)) (unhide B9)
    have qb := unhide HCb w9 (bw_tr (unhide B5) (unhide B9))
    go_wp2_with (first | (refine bg_loadG (by first | rfl | simp [Region.wanted, yielded]) 34 (.tmp 6) rfl xb 0 (by first | rfl | simp [Act.eval]) CL _ (rng_blk qx) Tryz.underlying34 rfl (by rw [unhide HZ]; exact bgsizeCommit) ?_) | (refine bg_loadG (by first | rfl | simp [Region.wanted, yielded]) 34 (.tmp 3) rfl W.heap.size 0 (by first | rfl | simp [Act.eval]) [.int .i64 c.gr, .int .i64 c.ep, .int .i64 c.dev, .int .i64 c.mem, .int .i64 c.ke, .bool c.ext, .slice a1 c.adds.length k1, .slice a2 c.rem.length k2, .slice a3 c.seals.length k3, .slice a4 c.joins.length k4, .int .i64 c.own, .int .i64 c.ent, .slice a5 c.next.length k5, .int .i64 c.face, .int .i64 c.card] _ (rng_blk qb) Tryz.underlying34 rfl bgsizeCommit ?_))
    refine (unhide K8).mono ?_
    rintro r w10 ⟨rfl, b10⟩
    have BA := hide (bw_tr (unhide B9) b10)
    have BV6s : Hid (Below w6.heap.size w6 w10) := bw_tr (unhide B6to9) b10
    clear b10 K8 qx qb B7 B8 B9 B67
    go_wp2_with fail
    refine wp_build 81 #[] rfl (by kernel_rfl) ?_
    have hbuilt : (Tryz.prog.built 81 []).getD #[] = bookF 0 (fun _ => .slice none 0 0) := by kernel_rfl
    have hzero : ∀ w, (zeroValue 81).run Tryz.prog w = .ok (.agg (bookF 0 (fun _ => .slice none 0 0))) w := fun w => by kernel_rfl
    have hall : (bookF 0 (fun _ => .slice none 0 0)).all (·.oneCell') = true := by kernel_rfl
    have hsz62 : (Tryz.prog.info? 81).map (·.size) = some (bookF 0 (fun _ => .slice none 0 0)).size := by kernel_rfl
    simp only [List.map_toArray, List.map_nil, hbuilt]
    generalize hBF : bookF 0 (fun _ => .slice none 0 0) = BF at hbuilt hzero hall hsz62 ⊢
    go_upto_region 9 with (refine wpList_store_row rfl 81 (.tmp 11) (.tmp 55) rfl w10.heap.size BF rfl rfl 81 BF (heap_alloc_new _ _) hsz62 rfl hall ?_)
    obtain ⟨V, hV⟩ : ∃ V, V = (w10.alloc (.cells BF 81)).setRow w10.heap.size BF := ⟨_, rfl⟩
    have hblk : V.heap[w10.heap.size]? = some (.cells BF 81 (0, 0)) := by rw [hV]; exact setRow_newB w10 _ _ _
    have hVb : Below w10.heap.size w10 V := by rw [hV]; exact setRow_belowB w10 _ _ _
    rw [← hV]
    rw [← hBF] at hblk
    have BV : Hid (Below w5.heap.size w5 V) := bw_tr (unhide BA) hVb
    have BV6 : Hid (Below w6.heap.size w6 V ∧ Below W.heap.size W V) := ⟨bw_tr (unhide BV6s) hVb, bw_tr (unhide HB0) (bw_tr (unhide B5) (unhide BV))⟩
    obtain ⟨b, hb⟩ : ∃ b, b = w10.heap.size := ⟨_, rfl⟩
    rw [← hb] at hblk ⊢
    have hbB : W.heap.size ≤ b := by rw [hb]; exact Nat.le_trans (bw_tr (unhide HB0) (unhide B5)).size (unhide BA).size
    obtain ⟨n1, hn1⟩ : ∃ z, z = ((pkLg ksLg t5Lg hcLg).L 28 (.slice (some ⟨G, 0, none⟩) NL (NL + 2)) l (List.zipWith lqX l ps)).length := ⟨_, rfl⟩
    obtain ⟨n2, hn2⟩ : ∃ z, z = ((pkLg ksLg t5Lg hcLg).L 28 (.slice a6 N6 c6) (appL l c) xs6).length := ⟨_, rfl⟩
    have HCN : Hid (n1 + n2 + (c.next.length + 5) ≤ 1150000) := by unfold Hid; rw [hn1, hn2]; exact app_count (unhide HS).2.2.2.2.1 _ _ _ _
    have HWB : Hid (W.heap.size ≤ B1 ∧ B1 ≤ B3 ∧ B3 ≤ w5.heap.size ∧ W.heap.size ≤ V.heap.size) := ⟨Nat.le_trans (bw_tr (unhide HB0) (unhide B2)).size (unhide HF).2.2.2.2.2.2.2.1, (unhide HF).2.2.2.2.2.2.2.2, (unhide HF).2.2.2.2.2.2.1, (unhide BV6).2.size⟩
    have HSB : Hid (∀ a ∈ l, (pkLg ksLg t5Lg hcLg).S a) := fun a ha => ⟨Nat.le_trans ((unhide HS).1.2.1 a ha).1 (by decide), fun c hc => smB_of (((unhide HS).1.2.1 a ha).2 c hc)⟩
    have KB1 : Hid (Calls Tryz.prog 21 #[.pointer (some ⟨b, 0, none⟩), .slice (some ⟨G, 0, none⟩) NL (NL + 2)] V fun e w' => e = .returned (.tuple #[]) ∧ BK ksLg W.heap.size w' b n1 B3 [] ∧ Tf ksLg.ts W.heap.size V w') := by
      have hcn := unhide HCN
      refine (logsLg_r W.heap.size V b 0 B1 [] _ l _ (BK.start (S := ksLg) hblk hbB B1) (by omega) (unhide HWB).1 (unhide HWB).2.2.2 ((unhide HOw).bw (unhide BV)) (unhide HSB) (Nat.le_trans (unhide HS).2.2.1 (by decide)) (by rw [List.nil_append]; exact (pkLg ksLg t5Lg hcLg).L_ap 28 (unhide HOw))).mono ?_
      rintro e w' ⟨rfl, h1, h2⟩
      refine ⟨rfl, ?_, h2⟩
      rw [Nat.zero_add, ← hn1] at h1
      exact h1.up (unhide HWB).2.1 (fun p hp k hq => (unhide HF).2.2.2.2.1 k (by rw [← unhide HNL]; exact (pkLg ksLg t5Lg hcLg).L_blk (by simpa using hp) hq))
    have HN12 := hide (And.intro hn1 hn2)
    clear hV hblk hVb hBF hb hbB hbuilt hzero hall hsz62 hn1 hn2 BA
    go_wp2_with fail
    refine (unhide KB1).mono ?_
    rintro r z3 ⟨rfl, hk1, t1⟩
    have HK1 := hide hk1
    have HT1 := hide t1
    have KB2 : Hid (Calls Tryz.prog 21 #[.pointer (some ⟨b, 0, none⟩), .slice a6 N6 c6] z3 fun e w' => e = .returned (.tuple #[]) ∧ BK ksLg W.heap.size w' b (n1 + n2) B3 ((pkLg ksLg t5Lg hcLg).L 28 (.slice a6 N6 c6) (appL l c) xs6) ∧ Tf ksLg.ts W.heap.size z3 w') := by
      have hcn := unhide HCN
      obtain ⟨g1, g2⟩ := app_sb (unhide HS).2.2.2.2.1
      have ho := ((unhide HO6).bw (unhide BV6).1).mono (unhide HWB).2.2.1
      have ho3 := (pkLg ksLg t5Lg hcLg).tf (i := 28) hlLg ho g1 g2 t1
      refine (logsLg_r W.heap.size z3 b n1 B3 [] _ _ _ hk1 (by have := (unhide HN12).2; omega) (Nat.le_trans (unhide HWB).1 (unhide HWB).2.1) (Nat.le_trans (unhide HWB).2.2.2 t1.size) ho3 g1 g2 (by rw [List.nil_append]; exact (pkLg ksLg t5Lg hcLg).L_ap 28 ho3)).mono ?_
      rintro e w' ⟨rfl, h1, h2⟩
      rw [List.nil_append, ← (unhide HN12).2] at h1
      exact ⟨rfl, h1, h2⟩
    clear hk1 t1 KB1
    go_wp2_with fail
    refine (unhide KB2).mono ?_
    rintro r z4 ⟨rfl, hk2, t2⟩
    have HT2 := hide ((unhide HT1).trans t2)
    have KB3 : Hid (Calls Tryz.prog 22 #[.pointer (some ⟨b, 0, none⟩), .agg CL.toArray] z4 fun e w' => e = .returned (.tuple #[]) ∧ (∃ n d, n ≤ 1150000 ∧ BK ksLg W.heap.size w' b n B3 d) ∧ Tf ksLg.ts W.heap.size z4 w') := by
      have hcn := unhide HCN
      have hL := pkCm_len ksLg t5Lg c (twX c pl.ga pl.gr pl.gq pl.gj pl.gn, pl.us)
      have hsb := smB_of (unhide HS).2.1
      have hoc := ((unhide HOc).bw (unhide BV)).tf hsb (unhide HT2)
      rw [unhide HCL]
      refine (commitLg_e W.heap.size z4 b (n1 + n2) B3 _ c (twX c pl.ga pl.gr pl.gq pl.gj pl.gn, pl.us) hk2 (by omega) (Nat.le_trans (unhide HWB).1 (unhide HWB).2.1) (Nat.le_trans (unhide HWB).2.2.2 (unhide HT2).size) hoc hsb ?_).mono ?_
      · exact ap_cross (B1 := w5.heap.size) (B2 := w5.heap.size) ((pkLg ksLg t5Lg hcLg).L_ap 28 (unhide HO6)) ((pkCm ksLg t5Lg).ap B3 z4 c _ hoc) (fun p hp k hk => ((unhide HO6).lt k ((pkLg ksLg t5Lg hcLg).L_blk hp hk)).1) (fun p hp k hk => ((unhide HOc).lt k ((pkCm ksLg t5Lg).blk c _ p k hp hk)).2) (Nat.le_refl _)
      · rintro e w' ⟨rfl, h1, h2⟩
        exact ⟨rfl, ⟨_, _, by omega, h1⟩, h2⟩
    have qx := rng_tf (kept_b (unhide HX) (lt_of_blk (unhide HX)) (unhide BV)) (unhide HT2) (by decide)
    clear hk2 t2 KB2 HT1 HK1
    go_wp2_with (refine wpList_load_mid rfl 34 (.tmp 6) rfl xb 0 (by first | rfl | simp [Act.eval]) CL _ (rng_blk qx) Tryz.underlying34 rfl (by rw [unhide HZ]; exact bgsizeCommit) ?_)
    refine (unhide KB3).mono ?_
    rintro r z6 ⟨rfl, ⟨n3, d3, hn3, hk3⟩, t3⟩
    have HT3 := hide ((unhide HT2).trans t3)
    have KB5 := hide (apartLg_b W.heap.size b n3 B3 d3 z6 hk3 (Nat.le_trans (unhide HWB).2.2.2 (unhide HT3).size) hn3)
    have BZ : Hid (Below W.heap.size W z6) := (unhide BV6).2.trans (unhide HT3).bel
    clear hk3 hn3 t3 KB3 qx HT2
    go_wp2_with fail
    refine (unhide KB5).mono ?_
    rintro r z7 ⟨rfl, b_⟩
    have BZ5 := hide ((unhide BZ).trans b_)
    clear b_ KB5
    have KAL := hide (alive14_any (unhide HTB z7 (unhide BZ5)))
    go_wp2_with fail
    refine (unhide KAL).mono ?_
    rintro r z8 ⟨rfl, b_⟩
    have BZ6 := hide (bw_tr (unhide BZ5) b_)
    clear b_ KAL
    go_wp2_with fail
    go_ret
    exact ⟨rfl, unhide BZ6⟩
end Go.Proofs.YtnfhbmlmemifjaaGreatDoor
