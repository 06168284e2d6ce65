/- Texts joined: PoTw PoTx PoTy PoTz PoTj PoTm. -/
import Derived.Test.YtnimdnoemmodaaaLgTC
import Derived.Test.YtnimdnoemmodaaaZ23
import Derived.Test.YtnimdnoemmodaaaPoLw
import Derived.Deep.MidRow
/- Twins of mails, in memory of their own: what is left of the marks' words. No walk is in this text. -/
namespace Go.Proofs.Ytnimdnoemmodaaa
open Go.RowKit Go.Maps
theorem own_raw {B : Nat} {e : TypeId} {c n cap g : Nat} {w : World} {A : Array Value} (h : w.heap[g]? = some (.cells A e (0, 0))) (hB : B ≤ g) (hs : A.size = cap * c) (hn : n ≤ cap) (hc : cap ≤ maxLen) : w.ownsRow B e c (.slice (some ⟨g, 0, none⟩) n cap) n (A.toList.take (n * c)) := by
  refine ⟨?_, Or.inr ⟨g, cap, A, rfl, hB, h, hn, hc, hs, rfl⟩⟩
  have := Nat.mul_le_mul_right c hn
  rw [List.length_take, Array.length_toList, hs]
  omega
theorem own_prefix {B : Nat} {e : TypeId} {c N n cap g : Nat} {w : World} {xs : List Value} (h : w.ownsRow B e c (.slice (some ⟨g, 0, none⟩) N cap) N xs) (hn : n ≤ N) : w.ownsRow B e c (.slice (some ⟨g, 0, none⟩) n cap) n (xs.take (n * c)) := by
  rcases h.2 with ⟨q, _⟩ | ⟨g', cp, cur, q, h0, hg, q1, q2, q3, q4⟩
  · cases q
  · cases q
    have := own_raw (n := n) hg h0 q3 (by omega) q2
    rw [← q4, List.take_take, Nat.min_eq_left (Nat.mul_le_mul_right c hn)]
    exact this
theorem twint_own {B g : Nat} {w : World} {l : List Int} (h : Twint w g l) (hB : B ≤ g) (hl : l.length ≤ 1048576) : Ints B w (.slice (some ⟨g, 0, none⟩) l.length (l.length + 2)) l := by
  have := own_raw (B := B) (c := 1) (n := l.length) (cap := l.length + 2) h hB (by simp [tw]) (by omega) (by unfold maxLen; omega)
  have e : (tw l (mkI l.length) (mkI (l.length + 1))).toList.take (l.length * 1) = l.map I64 := by
    unfold tw
    rw [List.take_append_of_le_length (by simp), List.take_of_length_le (by simp)]
    rfl
  rw [e] at this
  exact this
theorem rwC_ri (l : List (List Int)) : rwC l = riC l := by
  unfold rwC riC
  rw [List.flatMap_def]
  rfl
theorem rwC_lenP {c : Nat} : ∀ {l : List (List Int)}, (∀ q ∈ l, q.length = c) → (rwC l).length = l.length * c
  | [], _ => by simp [rwC]
  | a :: r, h => by
    have := rwC_lenP (l := r) (fun q hq => h q (by simp [hq]))
    have ha := h a (by simp)
    simp only [rwC, List.flatMap_cons, List.length_append, List.length_cons] at this ⊢
    rw [this, Nat.add_mul, icC, List.length_map, ha]
    omega
theorem twR_own {B c g : Nat} {t : TypeId} {w : World} {l : List (List Int)} (h : TwR c t w g l) (hc : 0 < c) (hB : B ≤ g) (hl : l.length ≤ 1048576) (hf : ∀ q ∈ l, q.length = c) : w.ownsRow B t c (.slice (some ⟨g, 0, none⟩) l.length (l.length + 2)) l.length (riC l) := by
  have hz := rwC_lenP hf
  have := own_raw (B := B) (c := c) (n := l.length) (cap := l.length + 2) h hB (by
    unfold twR
    rw [List.size_toArray, List.length_append, List.length_append, hz, icC, icC, List.length_map, List.length_map, mkR_len hc, mkR_len hc, Nat.add_mul]
    omega) (by omega) (by unfold maxLen; omega)
  have e : (twR l (mkR c l.length) (mkR c (l.length + 1))).toList.take (l.length * c) = riC l := by
    unfold twR
    rw [List.take_append_of_le_length (by rw [hz]; exact Nat.le_refl _), List.take_of_length_le (by rw [hz]; exact Nat.le_refl _), rwC_ri]
  rw [e] at this
  exact this
theorem treeC_lenP : ∀ {T : List Nd} {us : List Value}, us.length = T.length → (treeC T us).length = T.length * 4
  | [], [], _ => by simp [treeC]
  | [], u :: r, h => by simp at h
  | n :: T, [], h => by simp at h
  | n :: T, u :: us, h => by
    have := treeC_lenP (T := T) (us := us) (by simpa using h)
    simp only [treeC, List.zipWith_cons_cons, List.flatten_cons, List.length_append, List.length_cons] at this ⊢
    rw [this]
    simp [ndC]
    omega
theorem twT_own {B g : Nat} {w : World} {T : List Nd} {us : List Value} (h : TwT B w g T us) (hu : ∀ n ∈ T, n.un.length ≤ 1048576) : OTr B w (.slice (some ⟨g, 0, none⟩) T.length (T.length + 2)) T us := by
  have h1 := own_prefix (n := T.length) h.own (by omega)
  have e : (treeC (T ++ [mkN T.length, mkN (T.length + 1)]) (us ++ [.slice none 0 0, .slice none 0 0])).take (T.length * 4) = treeC T us := by
    have hl := treeC_lenP h.ul
    have : treeC (T ++ [mkN T.length, mkN (T.length + 1)]) (us ++ [.slice none 0 0, .slice none 0 0]) = treeC T us ++ treeC [mkN T.length, mkN (T.length + 1)] [.slice none 0 0, .slice none 0 0] := by
      unfold treeC
      rw [List.zipWith_append h.ul.symm, List.flatten_append]
    rw [this, List.take_append_of_le_length (by rw [hl]; exact Nat.le_refl _), List.take_of_length_le (by rw [hl]; exact Nat.le_refl _)]
  rw [e] at h1
  refine ⟨h.ul, h1, fun i n u hn hx => ?_, h.apart⟩
  obtain ⟨g', e1, e2, e3⟩ := h.un i n u hn hx
  rw [e1]
  exact twint_own e3 e2 (hu n (List.mem_of_getElem? hn))
theorem twC_own {B : Nat} {w : World} {c : Cm} {ga gr gq gj gn : Nat} {us : List Value} (h : TwC B w c ga gr gq gj gn us) (hs : SmC c) (hA : c.adds.length ≤ 262144) (hR : c.rem.length ≤ 262144) (hQ : c.seals.length ≤ 262144) (hJ : c.joins.length ≤ 262144) (hU : ∀ n ∈ c.next, n.un.length ≤ 262144) : OC B w c (twX c ga gr gq gj gn) us :=
  ⟨twR_own h.adds (by decide) h.la (by omega) (fun q hq => (hs.fa q hq).1), twint_own h.rem h.lr (by omega), twR_own h.seals (by decide) h.lq (by omega) (fun q hq => (hs.fq q hq).1), twR_own h.joins (by decide) h.lj (by omega) (fun q hq => (hs.fj q hq).1), twT_own h.next (fun n hn => Nat.le_trans (hU n hn) (by decide)), fun i u k hu hk => by
    have := h.un u (List.mem_of_getElem? hu)
    intro q
    have q' : some gr = some k := q
    exact this (by rw [hk, ← q'])⟩
structure TwMl (m : Ml) : Prop where
  s : SmM m
  a : m.cm.adds.length ≤ 262144
  r : m.cm.rem.length ≤ 262144
  q : m.cm.seals.length ≤ 262144
  j : m.cm.joins.length ≤ 262144
  n : m.cm.next.length ≤ 262144
  u : ∀ n ∈ m.cm.next, n.un.length ≤ 262144
  t : m.tr.length ≤ 262144
  v : ∀ n ∈ m.tr, n.un.length ≤ 262144
theorem twMl_of {w : World} {m : Ml} {x : Mx} (h : MlR w m x) (hb : mlB m) (hn : mlN m ≤ 262144) : TwMl m := by
  have h0 := smM_of h hb (by omega)
  unfold mlN cmN at hn
  exact ⟨h0, by omega, by omega, by omega, by omega, by omega, fun n hq => by have := usum_mem hq; omega, by omega, fun n hq => by have := usum_mem hq; omega⟩
end Go.Proofs.Ytnimdnoemmodaaa

/- TwinFace, TwinMail, markMail. -/
namespace Go.Proofs.Ytnimdnoemmodaaa
open Go.RowKit Go.Maps
set_option maxRecDepth 100000 in
set_option maxHeartbeats 4000000 in
theorem twface_any {w : World} {v : Value} {T : List Nd} {f0 f1 f3 : Int} (h : Trd w v T) (hl : T.length ≤ 262144) (hu : ∀ n ∈ T, n.un.length ≤ 262144) :
    Calls Try.prog 42 #[.agg #[.int .i64 f0, .int .i64 f1, v, .int .i64 f3]] w fun e w' => ∃ g us, e = .returned (.agg #[.int .i64 f0, .int .i64 f1, .slice (some ⟨g, 0, none⟩) T.length (T.length + 2), .int .i64 f3]) ∧ OTr w.heap.size w' (.slice (some ⟨g, 0, none⟩) T.length (T.length + 2)) T us ∧ Below w.heap.size w w' := by
  obtain ⟨w0, hw0⟩ : ∃ w0, w0 = (w.alloc (.cells #[.int .i64 f0, .int .i64 f1, v, .int .i64 f3] 49)).alloc (.cells #[.int .i64 0, .int .i64 0, .slice none 0 0, .int .i64 0] 49) := ⟨_, rfl⟩
  have s0 : TwoB w w0 49 #[.int .i64 f0, .int .i64 f1, v, .int .i64 f3] #[.int .i64 0, .int .i64 0, .slice none 0 0, .int .i64 0] := by rw [hw0]; exact TwoB.start _ _ _ _
  have KL := hide (twinTree_any w0 v T (h.bw s0.bel) (Nat.le_trans hl (by decide)) (fun n hn => Nat.le_trans (hu n hn) (by decide)))
  have HU : Hid (∀ n ∈ T, n.un.length ≤ 1048576) := fun n hn => Nat.le_trans (hu n hn) (by decide)
  obtain ⟨a, c, rfl⟩ := h.slice
  have S0 := hide s0
  have HW := hide hw0
  clear h hl hu s0 hw0
  generalize hN : T.length = N at *
  have HN := hide hN
  clear hN
  go_enter Try.func42, Try.ntmps42
  go_upto_region 1 with fail
  rw [← unhide HW]
  clear HW
  have c1 : w0.cell? ⟨w.heap.size, 2, none⟩ = some (.slice a N c) := blk_c (unhide S0).k1 rfl
  go_wp2_with fail
  refine (unhide KL).mono ?_
  rintro e w1 ⟨g, us, rfl, ht, b1⟩
  have hg0 := ht.low
  have hto := twT_own ht (unhide HU)
  rw [unhide HN] at hto
  have s1 := (unhide S0).bw b1
  have p1 := s1.poke 2 (.slice (some ⟨g, 0, none⟩) N (N + 2))
  obtain ⟨V1, hV1⟩ : ∃ V, V = w1.setCell ⟨w.heap.size, 2, none⟩ (.slice (some ⟨g, 0, none⟩) N (N + 2)) := ⟨_, rfl⟩
  rw [← hV1] at p1
  have s2 : TwoB w V1 49 #[.int .i64 f0, .int .i64 f1, .slice (some ⟨g, 0, none⟩) N (N + 2), .int .i64 f3] #[.int .i64 0, .int .i64 0, .slice none 0 0, .int .i64 0] := p1.1
  have an := s2.answer [.int .i64 f0, .int .i64 f1, .slice (some ⟨g, 0, none⟩) N (N + 2), .int .i64 f3] rfl
  obtain ⟨WZ, hWZ⟩ : ∃ W, W = pokes V1 (w.heap.size + 1) 0 [.int .i64 f0, .int .i64 f1, .slice (some ⟨g, 0, none⟩) N (N + 2), .int .i64 f3] := ⟨_, rfl⟩
  rw [← hWZ] at an
  have HO : Hid (OTr w.heap.size WZ (.slice (some ⟨g, 0, none⟩) N (N + 2)) T us ∧ Below w.heap.size w WZ) := by
    have h2 := (unhide S0).two
    refine ⟨((hto.owl.keep (fun k hk => ?_)).mono (by omega)).otr, an.2.1⟩
    have h1 := (hto.owl.lt k hk).1
    rw [an.2.2 k (by omega), p1.2 k (by omega)]
  have c1 : w1.cell? ⟨w.heap.size, 2, none⟩ = some (.slice a N c) := blk_c s1.k1 rfl
  have f3_ := fun j => froz_b' (i := j) s1.k1
  have d0 : V1.cell? ⟨w.heap.size, 0, none⟩ = some (.int .i64 f0) := blk_c s2.k1 rfl
  have d1 : V1.cell? ⟨w.heap.size, 1, none⟩ = some (.int .i64 f1) := blk_c s2.k1 rfl
  have d2 : V1.cell? ⟨w.heap.size, 2, none⟩ = some (.slice (some ⟨g, 0, none⟩) N (N + 2)) := blk_c s2.k1 rfl
  have d3 : V1.cell? ⟨w.heap.size, 3, none⟩ = some (.int .i64 f3) := blk_c s2.k1 rfl
  have e0 : V1.cell? ⟨w.heap.size + 1, 0, none⟩ = some (.int .i64 0) := blk_c s2.k2 rfl
  have e1 : V1.cell? ⟨w.heap.size + 1, 1, none⟩ = some (.int .i64 0) := blk_c s2.k2 rfl
  have e2 : V1.cell? ⟨w.heap.size + 1, 2, none⟩ = some (.slice none 0 0) := blk_c s2.k2 rfl
  have e3 : V1.cell? ⟨w.heap.size + 1, 3, none⟩ = some (.int .i64 0) := blk_c s2.k2 rfl
  have fe := fun j => froz_b' (i := j) s2.k2
  have z0 : WZ.cell? ⟨w.heap.size + 1, 0, none⟩ = some (.int .i64 f0) := blk_c an.1 rfl
  have z1 : WZ.cell? ⟨w.heap.size + 1, 1, none⟩ = some (.int .i64 f1) := blk_c an.1 rfl
  have z2 : WZ.cell? ⟨w.heap.size + 1, 2, none⟩ = some (.slice (some ⟨g, 0, none⟩) N (N + 2)) := blk_c an.1 rfl
  have z3 : WZ.cell? ⟨w.heap.size + 1, 3, none⟩ = some (.int .i64 f3) := blk_c an.1 rfl
  have HV := hide hV1
  have HZ : Hid (WZ = (((V1.setCell ⟨w.heap.size + 1, 0, none⟩ (.int .i64 f0)).setCell ⟨w.heap.size + 1, 1, none⟩ (.int .i64 f1)).setCell ⟨w.heap.size + 1, 2, none⟩ (.slice (some ⟨g, 0, none⟩) N (N + 2))).setCell ⟨w.heap.size + 1, 3, none⟩ (.int .i64 f3)) := hWZ
  clear S0 KL ht hto b1 s1 p1 hV1 s2 an hWZ hg0
  go_upto_region 2 with fail
  rw [← unhide HV]
  clear HV c1 f3_
  go_wp2_with fail
  rw [← unhide HZ]
  exact bodyPost_ret (v := .agg #[.int .i64 f0, .int .i64 f1, .slice (some ⟨g, 0, none⟩) N (N + 2), .int .i64 f3]) (by simp [results, Try.results42, go_sem, z0, z1, z2, z3]) rfl ⟨g, us, rfl, (unhide HO).1, (unhide HO).2⟩
theorem TwoB.there1 {w W : World} {t : TypeId} {cs zs : Array Value} (h : TwoB w W t cs zs) {o n : Nat} (hn : o + n ≤ cs.size) : W.there w.heap.size o n := fun j hj => by
  have e : cs[o + j]? = some (cs[o + j]'(by omega)) := Array.getElem?_eq_getElem _
  exact ⟨by rw [blk_c h.k1 e]; rfl, froz_b' h.k1⟩
theorem TwoB.pokesP {w W : World} {t : TypeId} {cs zs : Array Value} (h : TwoB w W t cs zs) (o : Nat) (vs : List Value) : TwoB w (pokes W w.heap.size o vs) t (pk cs o vs) zs ∧ ∀ k, w.heap.size + 2 ≤ k → (pokes W w.heap.size o vs).heap[k]? = W.heap[k]? := by
  refine ⟨⟨pokes_at vs W o cs h.k1, by rw [pokes_other (by omega)]; exact h.k2, ?_⟩, fun k hk => pokes_other (by omega) _ _ _⟩
  have : ∀ (vs : List Value) (o : Nat) (X : World), Below w.heap.size w X → Below w.heap.size w (pokes X w.heap.size o vs) := by
    intro vs
    induction vs with
    | nil => intro o X h; exact h
    | cons v r ih => intro o X h; exact ih _ _ (Below.setCell h (Nat.le_refl _) v)
  exact this vs o W h.bel
theorem pk_cm (m : Ml) (x : Mx) (cx : Cv) (us : List Value) : pk (mlC m x).toArray 1 (cmC m.cm cx) = (mlC m ⟨cx, us, x.tv, x.ts⟩).toArray := by
  simp only [mlC, cmC, pk, List.setIfInBounds_toArray, List.set_cons_zero, List.set_cons_succ, Nat.reduceAdd]
theorem pk_fc (m : Ml) (cx : Cv) (us : List Value) (xv tv : Value) (xs ts : List Value) : pk (mlC m ⟨cx, us, xv, xs⟩).toArray 21 [.int .i64 m.f0, .int .i64 m.f1, tv, .int .i64 m.f3] = (mlC m ⟨cx, us, tv, ts⟩).toArray := by
  simp only [mlC, pk, List.setIfInBounds_toArray, List.set_cons_zero, List.set_cons_succ, Nat.reduceAdd]
theorem cm_oneP {w : World} {c : Cm} {x : Cv} (h : CmR w c x) : ∀ u ∈ cmC c x, u.oneCell' = true := by
  obtain ⟨a1, k1, e1⟩ := h.adds.slice
  obtain ⟨a2, k2, e2⟩ := nums_slice h.rem
  obtain ⟨a3, k3, e3⟩ := h.seals.slice
  obtain ⟨a4, k4, e4⟩ := h.joins.slice
  obtain ⟨a5, k5, e5⟩ := h.next.slice
  have : (cmC c x).all (fun u => u.oneCell') = true := by
    simp only [cmC, e1, e2, e3, e4, e5, List.all_cons, List.all_nil]
    rfl
  exact fun u hu => List.all_eq_true.1 this u hu
theorem infoFc : (Try.prog.info? 49).map (·.size) = some 4 := by kernel_rfl
end Go.Proofs.Ytnimdnoemmodaaa

/- TwinMail. -/
namespace Go.Proofs.Ytnimdnoemmodaaa
open Go.RowKit Go.Maps
set_option maxRecDepth 100000 in
set_option maxHeartbeats 1000000 in
theorem twmail_any {w : World} {m : Ml} {x : Mx} (h : MlR w m x) (hs : TwMl m) :
    Calls Try.prog 23 #[.agg (mlC m x).toArray] w fun e w' => ∃ x', e = .returned (.agg (mlC m x').toArray) ∧ OM w.heap.size w' m x' ∧ Below w.heap.size w w' := by
  obtain ⟨w0, hw0⟩ : ∃ w0, w0 = (w.alloc (.cells (mlC m x).toArray 53)).alloc (.cells ml0 53) := ⟨_, rfl⟩
  have s0 : TwoB w w0 53 (mlC m x).toArray ml0 := by rw [hw0]; exact TwoB.start _ _ _ _
  have KA : Hid (Calls Try.prog 41 #[.agg (cmC m.cm x.cx).toArray] w0 fun e w' => ∃ cx us, e = .returned (.agg (cmC m.cm cx).toArray) ∧ Hid (OC w0.heap.size w' m.cm cx us ∧ CmR w' m.cm cx) ∧ Below w0.heap.size w0 w') := by
    refine Calls.mono (twincm_any (h.c.bw s0.bel) hs.a hs.r hs.q hs.j hs.n hs.u) ?_
    rintro e w' ⟨ga, gr, gq, gj, gn, us, rfl, ht, hb⟩
    have ho := twC_own ht hs.s.c hs.a hs.r hs.q hs.j hs.u
    exact ⟨_, us, rfl, ⟨ho, ho.rd hs.s.c⟩, hb⟩
  have KB : Hid (∀ W, Below w.heap.size w W → Calls Try.prog 42 #[.agg #[.int .i64 m.f0, .int .i64 m.f1, x.tv, .int .i64 m.f3]] W fun e w' => ∃ tv ts, e = .returned (.agg #[.int .i64 m.f0, .int .i64 m.f1, tv, .int .i64 m.f3]) ∧ Hid (OTr W.heap.size w' tv m.tr ts ∧ tv.oneCell' = true) ∧ Below W.heap.size W w') := fun W hW => by
    refine Calls.mono (twface_any (h.t.bw hW) hs.t hs.v) ?_
    rintro e w' ⟨g, us, rfl, ho, hb⟩
    exact ⟨_, us, rfl, ⟨ho, rfl⟩, hb⟩
  have HSM := hide hs.s
  have r1 : w0.rangeAt w.heap.size 1 (cmC m.cm x.cx) := blk_rng s0.k1 (ml_cm m x)
  have i1 : (Try.prog.info? 45).map (·.size) = some (cmC m.cm x.cx).length := infoCmS
  have HR1 := hide (And.intro r1 i1)
  have HW : Hid (w0 = (w.alloc (.cells (mlC m x).toArray 53)).alloc (.cells ml0 53)) := hw0
  have S0 := hide s0
  have HX := hide h
  clear h hs s0 hw0 r1 i1
  obtain ⟨CM, hCM⟩ : ∃ z, z = (mlC m x).toArray := ⟨_, rfl⟩
  rw [← hCM] at HW ⊢
  have HCM := hide hCM
  clear hCM
  go_enter Try.func23, Try.ntmps23
  go_upto_region 1 with fail
  have HW' : Hid (w0 = (w.alloc (.cells CM 53)).alloc (.cells #[.int .u8 0, .int .i64 0, .int .i64 0, .int .i64 0, .int .i64 0, .int .i64 0, .bool false, .slice none 0 0, .slice none 0 0, .slice none 0 0, .slice none 0 0, .int .i64 0, .int .i64 0, .slice none 0 0, .int .i64 0, .int .i64 0, .int .i64 0, .int .i64 0, .int .i64 0, .int .i64 0, .int .i64 0, .int .i64 0, .int .i64 0, .slice none 0 0, .int .i64 0, .int .i64 0, .int .i64 0, .int .i64 0, .int .i64 0, .int .i64 0] 53)) := unhide HW
  rw [← unhide HW']
  clear HW HW'
  go_wp2_with (refine wpList_load_mid rfl 45 (.tmp 3) rfl w.heap.size 1 rfl (cmC m.cm x.cx) _ (unhide HR1).1 Try.underlying45 rfl (unhide HR1).2 ?_)
  refine (unhide KA).mono ?_
  rintro e w1 ⟨cx, us, rfl, hO, b1⟩
  have s1 := (unhide S0).bw b1
  have p1 := s1.pokesP 1 (cmC m.cm cx)
  obtain ⟨V1, hV1⟩ : ∃ V, V = pokes w1 w.heap.size 1 (cmC m.cm cx) := ⟨_, rfl⟩
  rw [← hV1] at p1
  have e1 : pk (mlC m x).toArray 1 (cmC m.cm cx) = (mlC m ⟨cx, us, x.tv, x.ts⟩).toArray := pk_cm m x cx us
  rw [e1] at p1
  have th1 : w1.there w.heap.size 1 (cmC m.cm cx).toArray.size := s1.there1 (by show 1 + 15 ≤ 30; omega)
  have o1 : (cmC m.cm cx).toArray.all (·.oneCell') = true := all_oneCell_toArray (cm_oneP (unhide hO).2)
  have i2 : (Try.prog.info? 45).map (·.size) = some (cmC m.cm cx).toArray.size := infoCmS
  have HT1 := hide (And.intro th1 (And.intro i2 o1))
  have hoc : OC (w.heap.size + 2) V1 m.cm cx us := ((unhide hO).1.keep (fun k hk => p1.2 k (by have := ((unhide hO).1.lt k hk).1; have := (unhide S0).two; omega))).mono (unhide S0).two
  have r2 : V1.rangeAt w.heap.size 21 [.int .i64 m.f0, .int .i64 m.f1, x.tv, .int .i64 m.f3] := blk_rng p1.1.k1 (fun j u hu => by
    match j, hu with
    | 0, hu => exact hu
    | 1, hu => exact hu
    | 2, hu => exact hu
    | 3, hu => exact hu)
  have K2 := hide (unhide KB V1 p1.1.bel)
  have HR2 := hide r2
  have S1 := hide p1.1
  have HOC := hide hoc
  have HV1 : Hid (w1.setCells w.heap.size 1 (cmC m.cm cx).toArray.toList = V1) := by rw [setCells_pokesM]; exact hV1.symm
  clear KA KB HR1 hO b1 s1 p1 e1 hV1 th1 o1 i2 hoc r2
  go_upto_region 2 with (refine wpList_store_mid rfl 45 (.tmp 6) (.tmp 5) rfl w.heap.size 1 (cmC m.cm cx).toArray rfl rfl (unhide HT1).1 (unhide HT1).2.1 (unhide HT1).2.2 ?_)
  rw [unhide HV1]
  clear HV1 HT1
  go_wp2_with (refine wpList_load_mid rfl 49 (.tmp 7) rfl w.heap.size 21 rfl [.int .i64 m.f0, .int .i64 m.f1, x.tv, .int .i64 m.f3] _ (unhide HR2) Try.underlying49 rfl infoFc ?_)
  refine (unhide K2).mono ?_
  rintro e w2 ⟨tv, ts, rfl, hO2, b2⟩
  have s2 := (unhide S1).bw b2
  have p2 := s2.pokesP 21 [.int .i64 m.f0, .int .i64 m.f1, tv, .int .i64 m.f3]
  obtain ⟨V2, hV2⟩ : ∃ V, V = pokes w2 w.heap.size 21 [.int .i64 m.f0, .int .i64 m.f1, tv, .int .i64 m.f3] := ⟨_, rfl⟩
  rw [← hV2] at p2
  have e2 : pk (mlC m ⟨cx, us, x.tv, x.ts⟩).toArray 21 [.int .i64 m.f0, .int .i64 m.f1, tv, .int .i64 m.f3] = (mlC m ⟨cx, us, tv, ts⟩).toArray := pk_fc m cx us x.tv tv x.ts ts
  rw [e2] at p2
  have th2 : w2.there w.heap.size 21 4 := s2.there1 (by show 21 + 4 ≤ 30; omega)
  have om : OM (w.heap.size + 2) V2 m ⟨cx, us, tv, ts⟩ := by
    have h2 := (unhide S0).two
    have hv1 : w.heap.size + 2 ≤ V1.heap.size := (unhide S1).two
    have hoc2 : OC (w.heap.size + 2) V2 m.cm cx us := (unhide HOC).keep (fun k hk => by
      have q := (unhide HOC).lt k hk
      rw [p2.2 k q.1, b2.block k q.2])
    have hot : OwL kNd V1.heap.size V2 tv m.tr ts := (unhide hO2).1.owl.keep (fun k hk => p2.2 k (by have := ((unhide hO2).1.owl.lt k hk).1; omega))
    refine ⟨hoc2, (hot.mono hv1).otr, fun k hk hz => ?_⟩
    have q1 := ((unhide HOC).lt k hk).2
    have q2 := (hot.lt k hz).1
    omega
  have o2 : (#[Value.int .i64 m.f0, .int .i64 m.f1, tv, .int .i64 m.f3]).all (·.oneCell') = true := all_oneCell_toArray (fun u hu => by
    simp at hu
    rcases hu with rfl | rfl | rfl | rfl
    · rfl
    · rfl
    · exact (unhide hO2).2
    · rfl)
  have i3 : (Try.prog.info? 49).map (·.size) = some (#[Value.int .i64 m.f0, .int .i64 m.f1, tv, .int .i64 m.f3]).size := infoFc
  have HT2 := hide (And.intro th2 (And.intro i3 o2))
  have S2 := hide p2.1
  have HOM := hide om
  have HV2 : Hid (w2.setCells w.heap.size 21 [.int .i64 m.f0, .int .i64 m.f1, tv, .int .i64 m.f3] = V2) := by rw [setCells_pokesM]; exact hV2.symm
  clear K2 HR2 hO2 b2 s2 p2 e2 hV2 th2 om o2 i3
  go_upto_region 3 with (refine wpList_store_mid rfl 49 (.tmp 10) (.tmp 9) rfl w.heap.size 21 #[.int .i64 m.f0, .int .i64 m.f1, tv, .int .i64 m.f3] rfl rfl (unhide HT2).1 (unhide HT2).2.1 (unhide HT2).2.2 ?_)
  first | rw [unhide HV2] | rw [show (#[Value.int .i64 m.f0, .int .i64 m.f1, tv, .int .i64 m.f3]).toList = [.int .i64 m.f0, .int .i64 m.f1, tv, .int .i64 m.f3] from rfl, unhide HV2]
  clear HV2 HT2
  have h1 := all_oneCell_toArray (ml_one ((unhide HOM).rd (unhide HSM)))
  obtain ⟨C1, hC1⟩ : ∃ C : Array Value, C = (mlC m ⟨cx, us, tv, ts⟩).toArray := ⟨_, rfl⟩
  have z1 : C1.all (·.oneCell') = true := by rw [hC1]; exact h1
  have z0 : C1.size = 30 := by rw [hC1]; rfl
  have z2 : (Try.prog.info? 53).map (·.size) = some C1.size := by rw [z0]; exact infoMlS
  have s9 : TwoB w V2 53 C1 ml0 := by rw [hC1]; exact unhide S2
  have HO : Hid (OM w.heap.size (V2.setRow (w.heap.size + 1) C1) m ⟨cx, us, tv, ts⟩ ∧ Below w.heap.size w (V2.setRow (w.heap.size + 1) C1)) :=
    ⟨((unhide HOM).keep (fun k hk => setRow_other _ _ _ _ (by have := ((unhide HOM).lt k hk).1; omega))).mono (by omega), below_setRow' s9.bel (by omega) _⟩
  have HC := hide hC1
  have HZ := hide (And.intro s9.k1 (And.intro s9.k2 (And.intro z0 (And.intro z1 z2))))
  clear S0 S1 S2 HOC HOM HX HCM s9 hC1 z0 z1 z2 h1 HSM
  go_wp2_with (first | refine wpList_load_row rfl 53 (.tmp 1) rfl w.heap.size rfl 53 C1 (0, 0) _ (unhide HZ).1 Try.underlying53 rfl (unhide HZ).2.2.2.2 ?_ | refine wpList_store_row rfl 53 (.tmp 2) (.tmp 11) rfl (w.heap.size + 1) C1 rfl rfl 53 ml0 (unhide HZ).2.1 (unhide HZ).2.2.2.2 (by rw [(unhide HZ).2.2.1]; rfl) (unhide HZ).2.2.2.1 ?_)
  refine bodyPost_ret (v := .agg C1) (results_cell_row Try.results23 _ _ (w.heap.size + 1) 53 C1 (0, 0) _ rfl (setRow_heap _ _ _ _ _ _ (unhide HZ).2.1) Try.underlying53 rfl (unhide HZ).2.2.2.2) rfl ⟨⟨cx, us, tv, ts⟩, by rw [unhide HC], (unhide HO).1, (unhide HO).2⟩
end Go.Proofs.Ytnimdnoemmodaaa

/- An element of a row of one's own is put anew, whole; what is stored into the spare room turns nothing; a row of mails without anything. No walk is in this text. -/
namespace Go.Proofs.Ytnimdnoemmodaaa
open Go.RowKit Go.Maps
theorem cellK_putA {α ξ : Type} {K : EK α ξ} {l : List α} {xs : List ξ} {k : Nat} {a a' : α} {x x' : ξ} (ha : l[k]? = some a) (hx : xs[k]? = some x) : (pk (cellK K l xs).toArray (k * K.c) (K.C a' x')).toList = cellK K (l.set k a') (xs.set k x') := by
  have hk : k < l.length := (List.getElem?_eq_some_iff.1 ha).1
  have hkx : k < xs.length := (List.getElem?_eq_some_iff.1 hx).1
  have hR : k < (rowsK K l xs).length := by unfold rowsK; rw [List.length_zipWith]; omega
  unfold cellK
  rw [fl_set K.pos rowsK_len hR (K.Cl _ _), List.toList_toArray]
  congr 1
  unfold rowsK
  apply List.ext_getElem?
  intro i
  by_cases c : k = i
  · subst c
    rw [List.getElem?_set_self (by rw [List.length_zipWith]; omega), List.getElem?_zipWith, List.getElem?_set_self hk, List.getElem?_set_self hkx]
  · rw [List.getElem?_set_ne c, List.getElem?_zipWith, List.getElem?_zipWith, List.getElem?_set_ne c, List.getElem?_set_ne c]
theorem OwL.putAll {α ξ : Type} {K : EK α ξ} {B g : Nat} {w w' : World} {v : Value} {l : List α} {xs : List ξ} (ho : OwL K B w v l xs) (hg : v.ownBlock = some g) {k : Nat} {a a' : α} {x x' : ξ} (ha : l[k]? = some a) (hx : xs[k]? = some x) (hb : Below w.heap.size w w') (hB : B ≤ w.heap.size) (hO : K.O w.heap.size w' a' x') :
    OwL K B (pokes w' g (k * K.c) (K.C a' x')) v (l.set k a') (xs.set k x') := by
  have hk : k < l.length := (List.getElem?_eq_some_iff.1 ha).1
  have hkx : k < xs.length := (List.getElem?_eq_some_iff.1 hx).1
  have hgl := World.ownsRow.lt ho.row g hg
  have row1 : w'.ownsRow B K.t K.c v l.length (cellK K l xs) := own_keep ho.row (fun z hz => hb.block z (World.ownsRow.lt ho.row z hz).2)
  have row2 := own_pokes hg (K.C a' x') w' (k * K.c) _ row1
  rw [cellK_putA ha hx] at row2
  have ge : ∀ z ∈ K.Z x', w.heap.size ≤ z := fun z hz => (K.lt _ _ _ _ hO z hz).1
  have lt : ∀ (i : Nat) (y : ξ) (z : Nat), xs[i]? = some y → z ∈ K.Z y → z < w.heap.size := fun i y z hy hz => (ho.lt z (zK_el hy hz)).2
  refine ⟨by simp [ho.xl], by rw [List.length_set]; exact row2, fun i b y hb' hy => ?_, fun i i' y y' z hy hy' hz hz' => ?_, fun z i y hz hy hzy => ?_⟩
  · by_cases c : k = i
    · subst c
      rw [List.getElem?_set_self hk] at hb'
      rw [List.getElem?_set_self hkx] at hy
      cases hb'; cases hy
      exact K.keep _ _ _ _ _ (K.mono _ _ _ _ _ hO hB) (fun z hz => pokes_other (by have := ge z hz; omega) _ _ _)
    · rw [List.getElem?_set_ne c] at hb'
      rw [List.getElem?_set_ne c] at hy
      refine K.keep _ _ _ _ _ (ho.el i b y hb' hy) (fun z hz => ?_)
      rw [pokes_other (fun q => ho.self z i y (by rw [q]; exact hg) hy hz), hb.block z (lt i y z hy hz)]
  · by_cases c : k = i <;> by_cases d : k = i'
    · omega
    · subst c
      rw [List.getElem?_set_self hkx] at hy
      rw [List.getElem?_set_ne d] at hy'
      cases hy
      have := ge z hz
      have := lt i' y' z hy' hz'
      omega
    · subst d
      rw [List.getElem?_set_self hkx] at hy'
      rw [List.getElem?_set_ne c] at hy
      cases hy'
      have := ge z hz'
      have := lt i y z hy hz
      omega
    · rw [List.getElem?_set_ne c] at hy
      rw [List.getElem?_set_ne d] at hy'
      exact ho.ap i i' y y' z hy hy' hz hz'
  · rw [hg] at hz; cases hz
    by_cases c : k = i
    · subst c
      rw [List.getElem?_set_self hkx] at hy
      cases hy
      have := ge g hzy
      omega
    · rw [List.getElem?_set_ne c] at hy
      exact ho.self g i y hg hy hzy
end Go.Proofs.Ytnimdnoemmodaaa

/- A row of one's own, and another row behind it. No function is walked in this text. -/
namespace Go.Proofs.Ytnimdnoemmodaaa
open Go.RowKit Go.Maps
theorem cellK_app {α ξ : Type} {K : EK α ξ} {l l2 : List α} {xs ys : List ξ} (hl : xs.length = l.length) : cellK K (l ++ l2) (xs ++ ys) = cellK K l xs ++ cellK K l2 ys := by
  unfold cellK rowsK
  rw [List.zipWith_append hl.symm, List.flatten_append]
theorem get_app {α : Type} {l m : List α} {b : α} {i : Nat} (h : (l ++ m)[i]? = some b) : (i < l.length ∧ l[i]? = some b) ∨ (l.length ≤ i ∧ m[i - l.length]? = some b) := by
  rcases Nat.lt_or_ge i l.length with c | c
  · rw [List.getElem?_append_left c] at h; exact Or.inl ⟨c, h⟩
  · rw [List.getElem?_append_right c] at h; exact Or.inr ⟨c, h⟩
theorem OwL.join {α ξ : Type} {K : EK α ξ} {B B2 : Nat} {w w4 : World} {v v' v2 : Value} {l l2 : List α} {xs ys : List ξ} (ho : OwL K B w v l xs) (h2 : OwL K B2 w v2 l2 ys) (hB : B ≤ B2) (hap : ∀ k ∈ zK K v xs, k ∉ zK K v2 ys)
    (hrow : w4.ownsRow B K.t K.c v' (l.length + l2.length) (cellK K l xs ++ cellK K l2 ys)) (hg : w.grownBy w4 v.ownBlock) (hv : v'.ownBlock = v.ownBlock ∨ v'.ownBlock = some w.heap.size) : OwL K B w4 v' (l ++ l2) (xs ++ ys) := by
  have hf := Fr.ofGrown hg
  have k1 : ∀ (i : Nat) (a : α) (y : ξ), l[i]? = some a → xs[i]? = some y → K.O B w4 a y := fun i a y ha hy => K.keep _ _ _ _ _ (ho.el i a y ha hy) (fun z hz => by
    exact hf.block z (ho.lt z (zK_el hy hz)).2 (fun q => ho.self z i y (by simpa using q) hy hz))
  have k2 : ∀ (i : Nat) (a : α) (y : ξ), l2[i]? = some a → ys[i]? = some y → K.O B w4 a y := fun i a y ha hy => K.mono _ _ _ _ _ (K.keep _ _ _ _ _ (h2.el i a y ha hy) (fun z hz => by
    exact hf.block z (h2.lt z (zK_el hy hz)).2 (fun q => hap z (zK_row (by simpa using q)) (zK_el hy hz)))) hB
  refine ⟨by simp [ho.xl, h2.xl], ?_, fun i a y ha hy => ?_, fun i j y y' z hy hy' hz hz' => ?_, fun z i y hz hy hzy => ?_⟩
  · rw [cellK_app ho.xl, List.length_append]; exact hrow
  · rcases get_app ha with ⟨c1, c2⟩ | ⟨c1, c2⟩ <;> rcases get_app hy with ⟨c3, c4⟩ | ⟨c3, c4⟩
    · exact k1 i a y c2 c4
    · rw [ho.xl] at c3; omega
    · rw [ho.xl] at c3; omega
    · rw [ho.xl] at c4; exact k2 _ a y c2 c4
  · rcases get_app hy with ⟨c1, c2⟩ | ⟨c1, c2⟩ <;> rcases get_app hy' with ⟨c3, c4⟩ | ⟨c3, c4⟩
    · exact ho.ap i j y y' z c2 c4 hz hz'
    · exact absurd (zK_el c4 hz') (hap z (zK_el c2 hz))
    · exact absurd (zK_el c2 hz) (hap z (zK_el c4 hz'))
    · have := h2.ap _ _ y y' z c2 c4 hz hz'
      omega
  · rcases get_app hy with ⟨c1, c2⟩ | ⟨c1, c2⟩
    · rcases hv with q | q
      · exact ho.self z i y (by rw [← q]; exact hz) c2 hzy
      · rw [q] at hz; cases hz
        have := (ho.lt _ (zK_el c2 hzy)).2
        omega
    · rcases hv with q | q
      · exact hap z (zK_row (by rw [← q]; exact hz)) (zK_el c2 hzy)
      · rw [q] at hz; cases hz
        have := (h2.lt _ (zK_el c2 hzy)).2
        omega
theorem OwL.joinR {α ξ : Type} {K : EK α ξ} {w0 w w4 : World} {v v' v2 : Value} {l l2 : List α} {xs ys : List ξ} (ho : OwL K w0.heap.size w v l xs) (hr : ∀ (i : Nat) (a : α) (x : ξ), l[i]? = some a → xs[i]? = some x → K.O w0.heap.size w4 a x → K.R w4 a x) (h2 : RdL K w0 v2 l2 ys) (hb : Below w0.heap.size w0 w)
    (hrow : w4.ownsRow w0.heap.size K.t K.c v' (l.length + l2.length) (cellK K l xs ++ cellK K l2 ys)) (hg : w.grownBy w4 v.ownBlock) : RdL K w4 v' (l ++ l2) (xs ++ ys) ∧ Below w0.heap.size w0 w4 := by
  have hf := Fr.ofGrown hg
  have hb4 : Below w0.heap.size w0 w4 := Fr.toBase hb hf (fun k hk => (World.ownsRow.lt ho.row k (by simpa using hk)).1)
  refine ⟨⟨by simp [ho.xl, h2.xl], fun i a y ha hy => ?_, ?_⟩, hb4⟩
  · rcases get_app ha with ⟨c1, c2⟩ | ⟨c1, c2⟩ <;> rcases get_app hy with ⟨c3, c4⟩ | ⟨c3, c4⟩
    · exact hr i a y c2 c4 (K.keep _ _ _ _ _ (ho.el i a y c2 c4) (fun z hz => hf.block z (ho.lt z (zK_el c4 hz)).2 (fun q => ho.self z i y (by simpa using q) c4 hz)))
    · rw [ho.xl] at c3; omega
    · rw [ho.xl] at c3; omega
    · rw [ho.xl] at c4; exact K.bw _ _ _ _ (h2.el _ a y c2 c4) hb4
  · obtain ⟨ad, cap, hv⟩ := own_slice hrow
    refine ⟨ad, cap, by rw [List.length_append]; exact hv, ?_⟩
    rcases Nat.eq_zero_or_pos (l.length + l2.length) with h0 | h0
    · exact Or.inl (List.eq_nil_of_length_eq_zero (by rw [List.length_append]; exact h0))
    · obtain ⟨g, cap', hv', hg', hc, _⟩ := own_open hrow h0
      rw [hv] at hv'
      cases hv'
      refine Or.inr ⟨g, 0, rfl, fun j u hj => ?_⟩
      rw [Nat.zero_add]
      rw [cellK_app ho.xl] at hj
      exact own_cell hrow (by rw [hv]; rfl) hj
theorem run_append_owned_noneK {P : Program} {w : World} (base : Nat) (t ty e : TypeId) (i : TypeInfo) (size : Nat) (ht : P.underlying t = some (.slice e)) (hi : P.info? e = some i)
    (v : Value) (n c : Nat) (xs : List Value) (hown : w.ownsRow base e size v n xs) : (Builtin.append_ #[t, t] ty #[v, .slice none 0 c]).run P w = .ok v w := by
  rcases hown.2 with ⟨rfl, rfl⟩ | ⟨g, cap, cur, rfl, _, _, hnc, _⟩
  · simp [Builtin.append_, run_underlying ht, Go.sizeOf, typeInfo, hi, Builtin.lenOf, Builtin.firstCells]
  · simp [Builtin.append_, run_underlying ht, Go.sizeOf, typeInfo, hi, Builtin.lenOf, Builtin.firstCells, hnc, storeCells]
theorem addr_add0 (g o j : Nat) : (⟨g, o, none⟩ : Addr).add j = ⟨g, o + j, none⟩ := by unfold Addr.add; by_cases hz : j = 0 <;> simp [hz]
structure JnM (B : Nat) (w w' : World) (v v' : Value) (l l2 : List Ml) (xs ys : List Mx) : Prop where
  row : w'.ownsRow B kMl.t kMl.c v' (l.length + l2.length) (cellK kMl l xs ++ cellK kMl l2 ys)
  gr : w.grownBy w' v.ownBlock
  at_ : v'.ownBlock = v.ownBlock ∨ v'.ownBlock = some w.heap.size
theorem wpList_joinM {w : World} {ops : Array Oper} {rest : List Oper} {o : Oper} {a : Act} {Q : Exit → Act → World → Prop} (hgd : Region.wanted o (yielded ops a.tmps) = true) (s x : Operand)
    (ho : o.op = .call { callee := .builtin .append, args := #[s, x], argTypes := #[23, 23] })
    (B : Nat) (v v2 : Value) (l l2 : List Ml) (xs ys : List Mx) (hs : a.eval s = v) (hx : a.eval x = v2) (hown : OwL kMl B w v l xs) (h2 : RdL kMl w v2 l2 ys) (hlen : l.length + l2.length ≤ 1073741824) (hB : B ≤ w.heap.size)
    (h : ∀ v' w', Hid (JnM B w w' v v' l l2 xs ys) → wpList Try.prog ops Q rest (a.put o.dst v') w') : wpList Try.prog ops Q (o :: rest) a w := by
  obtain ⟨i0, hi, hz0, hz1, hz2⟩ := info_parts infoKMail
  have hone : ∀ u ∈ cellK kMl l2 ys, u.oneCell' = true := cellK_one h2.xl h2.el
  have hcl : (cellK kMl l2 ys).length = l2.length * 30 := cellK_len (K := kMl) h2.xl
  obtain ⟨ad, cap, hv, hc⟩ := h2.form
  rw [hv] at hx
  refine wpList_step fun K hK => ?_
  rw [if_pos hgd]
  cases ad with
  | none =>
    have h0 : l2 = [] := by
      rcases hc with c | ⟨g, o, c, _⟩
      · exact c
      · cases c
    subst h0
    have hy : ys = [] := List.eq_nil_of_length_eq_zero h2.xl
    subst hy
    have hrun := run_append_owned_noneK (P := Try.prog) (w := w) B 23 o.type 53 i0 30 Try.underlying23 hi v l.length cap _ hown.row
    unfold Oper.wp
    simp only [List.length_nil] at hx
    simp [execOp, ho, resolve, invoke, builtin, hs, hx, hrun, Result.andThen]
    exact hK _ _ (h v w ⟨by simpa [cellK, rowsK] using hown.row, ⟨rfl, rfl, rfl, Nat.le_refl _, fun _ _ _ => rfl⟩, Or.inl rfl⟩)
  | some ad =>
    obtain ⟨v', w', hr, h2', h3, _, h5⟩ := run_append_own_at (P := Try.prog) w B 23 o.type 53 i0 (.agg ml0) 30 336 Try.underlying23 hi hz0 hz1 hz2 rfl (by decide) v l.length _ hown.row ad l2.length cap (cellK kMl l2 ys) hcl (by
      intro j y hj
      rcases hc with c | ⟨g, o, c, hc⟩
      · subst c
        rw [List.length_nil, Nat.zero_mul] at hcl
        rw [List.eq_nil_of_length_eq_zero hcl] at hj
        simp at hj
      · simp at c; subst c
        rw [addr_add0]
        exact hc j y hj) hone (by unfold maxLen; omega) (by omega) hB
    unfold Oper.wp
    simp [execOp, ho, resolve, invoke, builtin, hs, hx, hr, Result.andThen]
    exact hK _ _ (h v' w' ⟨h2', h3, h5⟩)
end Go.Proofs.Ytnimdnoemmodaaa

/- markMail; TwinMails: mails, copied, with two marks in the room behind. -/
namespace Go.Proofs.Ytnimdnoemmodaaa
open Go.RowKit Go.Maps
def cmNo : Cm := ⟨0, 0, 0, 0, 0, false, [], [], [], [], 0, 0, [], 0, 0⟩
def mlNo (e : Int) : Ml := ⟨0, cmNo, 0, e, 0, 0, 0, 0, 0, [], 0, 0, 0, 0, 0, 0⟩
def mxNo : Mx := ⟨⟨.slice none 0 0, .slice none 0 0, .slice none 0 0, .slice none 0 0, .slice none 0 0⟩, [], .slice none 0 0, []⟩
theorem otr_nilM (B : Nat) (w : World) : OTr B w (.slice none 0 0) [] [] := ⟨rfl, World.ownsRow_nil _ _ _ _, fun i n u h => by simp at h, fun i j u u' k h => by simp at h⟩
theorem om_no (B : Nat) (w : World) (e : Int) : OM B w (mlNo e) mxNo :=
  ⟨⟨World.ownsRow_nil _ _ _ _, World.ownsRow_nil _ _ _ _, World.ownsRow_nil _ _ _ _, World.ownsRow_nil _ _ _ _, otr_nilM B w, fun i u k h => by simp [mxNo] at h⟩, otr_nilM B w, fun k hk => by simp [mxNo, cvZ, zK, Value.ownBlock] at hk⟩
theorem smNo (e : Int) : SmM (mlNo e) := by
  refine ⟨?_, by simp [mlNo], by simp [mlNo], by simp [mlNo]⟩
  constructor <;> simp [mlNo, cmNo]
theorem mxNo_Z : mxZ mxNo = [] := by simp [mxZ, mxNo, cvZ, zK, Value.ownBlock]
theorem ml_no : (mlC (mlNo 0) mxNo).toArray = ml0 := rfl
theorem made_mls (m : Nat) : (madeCells (Value.agg ml0).cells (m * 30)).toList = cellK kMl (List.replicate m (mlNo 0)) (List.replicate m mxNo) := by
  have hl : (List.replicate m mxNo).length = (List.replicate m (mlNo 0)).length := by simp
  apply List.ext_getElem?
  intro i
  obtain ⟨q, r, hr, rfl⟩ : ∃ q r, r < 30 ∧ i = q * 30 + r := ⟨i / 30, i % 30, Nat.mod_lt _ (by omega), by rw [Nat.mul_comm]; exact (Nat.div_add_mod i 30).symm⟩
  rcases Nat.lt_or_ge q m with h | h
  · have e2 : (q * 30 + r) % 30 = r := by omega
    have h3 : q * 30 + r < m * 30 := by omega
    have hcz : ml0.size = 30 := rfl
    have hv : (mlC (mlNo 0) mxNo)[r]? = some ((mlC (mlNo 0) mxNo)[r]'(by show r < 30; exact hr)) := List.getElem?_eq_getElem _
    have e5 := cellK_get (K := kMl) (l := List.replicate m (mlNo 0)) (xs := List.replicate m mxNo) (i := q) (j := r) (by simp [h]) (by simp [h]) hv
    rw [show q * 30 + r = q * kMl.c + r from rfl, e5]
    have e6 : ml0[r]? = some ((mlC (mlNo 0) mxNo)[r]'(by show r < 30; exact hr)) := by rw [← ml_no, List.getElem?_toArray]; exact hv
    have e7 : ml0[r]'(by rw [hcz]; exact hr) = (mlC (mlNo 0) mxNo)[r]'(by show r < 30; exact hr) := by
      rw [Array.getElem?_eq_getElem (by rw [hcz]; exact hr)] at e6
      exact Option.some.inj e6
    rw [← e7]
    simp [madeCells, Value.cells, h3, hcz, e2, kMl]
    rw [getElem!_pos ml0 r (by rw [hcz]; exact hr)]
  · rw [List.getElem?_eq_none (by simp [madeCells]; omega), List.getElem?_eq_none (by rw [cellK_len hl, List.length_replicate]; show m * 30 ≤ _; omega)]
theorem OwL.made {w : World} {m : Nat} (hm : m ≤ 1073741824) : OwL kMl w.heap.size (w.alloc (.cells (madeCells (Value.agg ml0).cells (m * 30)) 53)) (.slice (some ⟨w.heap.size, 0, none⟩) m m) (List.replicate m (mlNo 0)) (List.replicate m mxNo) := by
  have hz : ∀ (i : Nat) (x : Mx), (List.replicate m mxNo)[i]? = some x → x = mxNo := fun i x hx => List.eq_of_mem_replicate (List.mem_of_getElem? hx)
  refine ⟨by simp, ?_, fun i a x ha hx => ?_, fun i j x y k hx hy hk => ?_, fun k i x hk hx hq => ?_⟩
  · have h := own_raw (B := w.heap.size) (e := 53) (c := 30) (n := m) (cap := m) (g := w.heap.size) (w := w.alloc (.cells (madeCells (Value.agg ml0).cells (m * 30)) 53)) (heap_alloc_new _ _) (Nat.le_refl _) (by simp [madeCells]) (Nat.le_refl _) (by unfold maxLen; omega)
    rw [made_mls, List.take_of_length_le (by rw [cellK_len (by simp), List.length_replicate]; exact Nat.le_refl _)] at h
    rw [List.length_replicate]
    exact h
  · have h1 := List.eq_of_mem_replicate (List.mem_of_getElem? ha)
    have h2 := hz i x hx
    subst h1 h2
    exact om_no _ _ _
  · rw [hz i x hx] at hk
    rw [show kMl.Z mxNo = [] from mxNo_Z] at hk
    simp at hk
  · rw [hz i x hx, show kMl.Z mxNo = [] from mxNo_Z] at hq
    simp at hq
theorem OwL.front {α ξ : Type} {K : EK α ξ} {B g M n cap : Nat} {w : World} {l l2 : List α} {xs ys : List ξ} (ho : OwL K B w (.slice (some ⟨g, 0, none⟩) M cap) (l ++ l2) (xs ++ ys)) (hl : xs.length = l.length) (hM : M = l.length + l2.length) (hn : n = l.length) : OwL K B w (.slice (some ⟨g, 0, none⟩) n cap) l xs := by
  subst hn hM
  have hr := ho.row
  rw [List.length_append] at hr
  have h1 := own_prefix (n := l.length) hr (by omega)
  have e : (cellK K (l ++ l2) (xs ++ ys)).take (l.length * K.c) = cellK K l xs := by
    rw [cellK_app hl, List.take_append_of_le_length (by rw [cellK_len hl]; exact Nat.le_refl _), List.take_of_length_le (by rw [cellK_len hl]; exact Nat.le_refl _)]
  rw [e] at h1
  have up1 : ∀ (i : Nat) (a : α), l[i]? = some a → (l ++ l2)[i]? = some a := fun i a h => by rw [List.getElem?_append_left (List.getElem?_eq_some_iff.1 h).1]; exact h
  have up2 : ∀ (i : Nat) (x : ξ), xs[i]? = some x → (xs ++ ys)[i]? = some x := fun i a h => by rw [List.getElem?_append_left (List.getElem?_eq_some_iff.1 h).1]; exact h
  exact ⟨hl, h1, fun i a x ha hx => ho.el i a x (up1 i a ha) (up2 i x hx), fun i j x y k hx hy => ho.ap i j x y k (up2 i x hx) (up2 j y hy), fun k i x hk hx => ho.self k i x hk (up2 i x hx)⟩
theorem built_mail (e : Int) : Try.prog.built 53 [(3, .int .i64 e)] = some (mlC (mlNo e) mxNo).toArray := by kernel_rfl
set_option maxRecDepth 100000 in
set_option maxHeartbeats 4000000 in
theorem markMail_any (n : Nat) (w : World) (h : (n : Int) ≤ 1125899906842624) :
    Calls Try.prog 24 #[.int .i64 (n : Int)] w fun e w' => e = .returned (.agg (mlC (mlNo (mkI n)) mxNo).toArray) ∧ Below w.heap.size w w' := by
  have hm : -1000 - (n : Int) = mkI n := rfl
  obtain ⟨CS, hCS⟩ : ∃ C, C = (mlC (mlNo (mkI n)) mxNo).toArray := ⟨_, rfl⟩
  have h1 : CS.size = 30 := by rw [hCS]; rfl
  have h2 : CS.all (·.oneCell') = true := by rw [hCS]; exact all_oneCell_toArray (ml_one (w := w) (OM.rd (om_no 0 w (mkI n)) (smNo _)))
  have h3 : Try.prog.built 53 [(3, .int .i64 (mkI n))] = some CS := by rw [hCS]; exact built_mail _
  have h4 : (Try.prog.info? 53).map (·.size) = some CS.size := by rw [h1]; exact infoMlS
  have HZ := hide (And.intro h1 (And.intro h2 (And.intro h3 h4)))
  clear h1 h2 h3 h4
  rw [← hCS]
  clear hCS
  go_enter Try.func24, Try.ntmps24
  go_upto_region 1 with fail
  go_step
  go_step
  go_step
  go_step
  go_step
  go_step
  go_step
  refine wpList_buildTo (P := Try.prog) ?_ 53 #[(3, .tmp 4)] ?_ (some 5) ?_ CS ?_ ?_
  · rfl
  · rfl
  · rfl
  · simp only [List.map_toArray, List.map_cons, List.map_nil, List.toList_toArray]
    exact (unhide HZ).2.2.1
  obtain ⟨W1, hW1⟩ : ∃ W, W = w.alloc (.cells ml0 53) := ⟨_, rfl⟩
  have k1 : W1.heap[w.heap.size]? = some (.cells ml0 53 (0, 0)) := by rw [hW1]; exact heap_alloc_new _ _
  have k2 : Below w.heap.size w W1 := by rw [hW1]; exact bwA _ _
  have k3 : Hid (W1 = w.alloc (.cells #[.int .u8 0, .int .i64 0, .int .i64 0, .int .i64 0, .int .i64 0, .int .i64 0, .bool false, .slice none 0 0, .slice none 0 0, .slice none 0 0, .slice none 0 0, .int .i64 0, .int .i64 0, .slice none 0 0, .int .i64 0, .int .i64 0, .int .i64 0, .int .i64 0, .int .i64 0, .int .i64 0, .int .i64 0, .int .i64 0, .int .i64 0, .slice none 0 0, .int .i64 0, .int .i64 0, .int .i64 0, .int .i64 0, .int .i64 0, .int .i64 0] 53)) := hW1
  rw [← unhide k3]
  clear k3 hW1
  refine wpList_store_row (P := Try.prog) ?_ 53 (.tmp 2) (.tmp 5) ?_ w.heap.size CS ?_ ?_ 53 ml0 k1 (unhide HZ).2.2.2 (by rw [(unhide HZ).1]; rfl) (unhide HZ).2.1 ?_
  · rfl
  · rfl
  · rfl
  · rfl
  have g0 : (W1.setRow w.heap.size CS).heap[w.heap.size]? = some (.cells CS 53 (0, 0)) := setRow_heap _ _ _ _ _ _ k1
  have g1 : Below w.heap.size w (W1.setRow w.heap.size CS) := below_setRow' k2 (Nat.le_refl _) _
  generalize W1.setRow w.heap.size CS = W2 at *
  clear k1 k2
  go_wp2_with fail
  exact bodyPost_ret (v := .agg CS) (results_cell_row Try.results24 _ _ w.heap.size 53 CS (0, 0) _ rfl g0 Try.underlying53 rfl (unhide HZ).2.2.2) rfl ⟨rfl, g1⟩
theorem slice_roomMail (w : World) (g n cap i : Nat) (hi : i ≤ cap) : (Instr.slice 23 (.slice (some ⟨g, 0, none⟩) n cap) none (some (.int .i64 (i : Int))) none).run Try.prog w = .ok (.slice (some ⟨g, 0, none⟩) i cap) w := by
  have ht : Try.prog.underlying 23 = some (.slice (Try.prog.elem 23)) := by kernel_rfl
  have he : Try.prog.elem 23 = 53 := by kernel_rfl
  have hs : (Go.sizeOf 53).run Try.prog w = .ok 30 w := by kernel_rfl
  rw [run_slice_h (P := Try.prog) w 23 (some ⟨g, 0, none⟩) n cap ht .i64 i (by omega) (by omega), he, hs]
  simp [Result.andThen, sliced, Addr.add]
theorem take_put {α : Type} {l : List α} {i M : Nat} {a z : α} (hi : l[i]? = some a) : (l.take i ++ List.replicate (M + 1) z).set i a = l.take (i + 1) ++ List.replicate M z := by
  have hlt := (List.getElem?_eq_some_iff.1 hi).1
  have e1 : (l.take i).length = i := by rw [List.length_take]; omega
  rw [List.set_append_right _ _ (by omega), e1, Nat.sub_self, List.replicate_succ, List.set_cons_zero, List.take_add_one, hi]
  simp
theorem put_snoc {α : Type} {xs : List α} {i M : Nat} {x z : α} (hi : xs.length = i) : (xs ++ List.replicate (M + 1) z).set i x = (xs ++ [x]) ++ List.replicate M z := by
  rw [List.set_append_right _ _ (by omega), hi, Nat.sub_self, List.replicate_succ, List.set_cons_zero]
  simp
theorem OwL.there {B g M cap : Nat} {w w' : World} {l : List Ml} {xs : List Mx} (ho : OwL kMl B w (.slice (some ⟨g, 0, none⟩) M cap) l xs) {i : Nat} (hi : i < l.length) (hb : Below w.heap.size w w') : w'.there g (i * 30) 30 := fun j hj => by
  have h1 : l[i]? = some l[i] := List.getElem?_eq_getElem hi
  have h2 : xs[i]? = some (xs[i]'(by rw [ho.xl]; exact hi)) := List.getElem?_eq_getElem _
  have hv : (mlC l[i] (xs[i]'(by rw [ho.xl]; exact hi)))[j]? = some ((mlC l[i] (xs[i]'(by rw [ho.xl]; exact hi)))[j]'hj) := List.getElem?_eq_getElem _
  have hc := own_cell ho.row rfl (cellK_get (K := kMl) h1 h2 hv)
  have hg := (World.ownsRow.lt ho.row g rfl).2
  have hf : w.frozen? ⟨g, i * 30 + j, none⟩ = false := own_frozen ho.row rfl _
  have e9 := hb.block g hg
  exact ⟨by rw [World.cell?_of_block (w := w) e9, show w.cell? ⟨g, i * 30 + j, none⟩ = _ from hc]; rfl, by rw [World.frozen?_of_block (w := w) e9]; exact hf⟩
def mkM (n : Nat) : Ml := mlNo (mkI n)
set_option maxRecDepth 100000 in
set_option maxHeartbeats 2000000 in
theorem twmails_any {w : World} {v : Value} {l : List Ml} {xs : List Mx} (h : RdL kMl w v l xs) (hl : l.length ≤ 524288) (hs : ∀ m ∈ l, TwMl m) :
    Calls Try.prog 11 #[v] w fun e w' => ∃ ys, e = .returned (.slice (some ⟨w.heap.size, 0, none⟩) l.length (l.length + 2)) ∧ ys.length = l.length ∧ OwL kMl w.heap.size w' (.slice (some ⟨w.heap.size, 0, none⟩) (l.length + 2) (l.length + 2)) (l ++ [mkM l.length, mkM (l.length + 1)]) (ys ++ [mxNo, mxNo]) ∧ Below w.heap.size w w' := by
  obtain ⟨a, c, hv⟩ := rdl_slice h
  subst hv
  obtain ⟨i0, hi, hz0, hz1, hz2⟩ := info_parts infoKMail
  have hmk := run_makeSlice (P := Try.prog) w 23 53 i0 (.agg ml0) Try.underlying23 hi hz0 .i64 .i64 (l.length : Int) ((l.length : Int) + 2) (by omega) (by omega) (by rw [hz1]; omega) (by rw [hz2]; omega) (by omega)
  rw [hz1] at hmk
  have e2 : ((l.length : Int) + 2).toNat = l.length + 2 := by omega
  rw [e2, Int.toNat_natCast] at hmk
  have S0 : Hid (OwL kMl w.heap.size (w.alloc (.cells (madeCells (Value.agg ml0).cells ((l.length + 2) * 30)) 53)) (.slice (some ⟨w.heap.size, 0, none⟩) (l.length + 2) (l.length + 2)) (l.take 0 ++ List.replicate (l.length + 2 - 0) (mlNo 0)) ([] ++ List.replicate (l.length + 2 - 0) mxNo) ∧ Below w.heap.size w (w.alloc (.cells (madeCells (Value.agg ml0).cells ((l.length + 2) * 30)) 53))) := by
    refine ⟨?_, bwA _ _⟩
    have := OwL.made (w := w) (m := l.length + 2) (by omega)
    simpa using this
  generalize madeCells (Value.agg ml0).cells ((l.length + 2) * 30) = mc at *
  have HC : Hid (∀ i, i < l.length → ∃ (b o : Nat) (m : Ml) (cs : List Value), a = some ⟨b, o, none⟩ ∧ l[i]? = some m ∧ cs.length = 30 ∧ ∀ W, Below w.heap.size w W → W.rangeAt b (o + i * 30) cs ∧
      Calls Try.prog 23 #[.agg cs.toArray] W fun e w' => ∃ (x' : Mx) (cs' : List Value), e = .returned (.agg cs'.toArray) ∧ Hid (cs'.length = 30 ∧ (∀ u ∈ cs', u.oneCell' = true) ∧ OM W.heap.size w' m x' ∧ mlC m x' = cs') ∧ Below W.heap.size W w') := fun i hi => by
    obtain ⟨m, hm⟩ : ∃ m, l[i]? = some m := ⟨_, List.getElem?_eq_getElem hi⟩
    obtain ⟨b, o, x, hab, hx, hR, hc⟩ := h.get hm
    refine ⟨b, o, m, mlC m x, hab, hm, rfl, fun W hW => ⟨fun j u hj => ?_, ?_⟩⟩
    · have : w.cell? ⟨b, o + i * 30 + j, none⟩ = some u := hc j u hj
      rw [hW.cell (lt_of_cell this)]
      exact this
    · have hT := hs m (List.mem_of_getElem? hm)
      refine Calls.mono (twmail_any (hR.1.bw hW) hT) ?_
      rintro e w' ⟨x', rfl, ho, hb⟩
      exact ⟨x', _, rfl, ⟨rfl, ml_one (OM.rd ho hT.s), ho, rfl⟩, hb⟩
  obtain ⟨N, hN⟩ : ∃ N, N = l.length := ⟨_, rfl⟩
  have HN := hide hN
  rw [← hN] at hmk HC S0 ⊢
  have hNI : (N : Int) ≤ 524288 := by omega
  have hsl : ∀ W, (Instr.slice 23 (.slice (some ⟨w.heap.size, 0, none⟩) N (N + 2)) none (some (.int .i64 ((N : Int) + 2))) none).run Try.prog W = .ok (.slice (some ⟨w.heap.size, 0, none⟩) (N + 2) (N + 2)) W := fun W => by
    have := slice_roomMail W w.heap.size N (N + 2) (N + 2) (Nat.le_refl _)
    exact this
  clear e2 hi hz0 hz1 hz2 h hl hs hN
  go_enter Try.func11, Try.ntmps11
  go_wp2_with fail
  go_loopw [15] (fun iv wr => ∃ (i : Nat) (ys : List Mx), iv = .int .i64 (i : Int) ∧ i ≤ N ∧ Hid (ys.length = i ∧ OwL kMl w.heap.size wr (.slice (some ⟨w.heap.size, 0, none⟩) (N + 2) (N + 2)) (l.take i ++ List.replicate (N + 2 - i) (mlNo 0)) (ys ++ List.replicate (N + 2 - i) mxNo) ∧ Below w.heap.size w wr)) (fun iv _ => (N - (intOf iv)).toNat)
  case atStart => exact ⟨0, [], rfl, by omega, rfl, unhide S0⟩
  case round =>
    clear S0
    obtain ⟨i, ys, rfl, hi, HS⟩ := hrel
    by_cases hin : i < N
    · obtain ⟨b, o, m, cs, rfl, hm, hcl, hc⟩ := unhide HC i hin
      obtain ⟨hrg, K⟩ := hc wr (unhide HS).2.2
      have q1 : (i : Int) < (N : Int) := by omega
      have q0 : (0 : Int) ≤ (i : Int) := by omega
      have z1 : (Try.prog.info? 53).map (·.size) = some cs.length := by rw [hcl]; exact infoMlS
      have HZ := hide (And.intro hrg z1)
      have HM := hide hm
      have KH := hide K
      clear hc hrg z1 hm K hcl
      go_wp2_with (refine wpList_load_mid rfl 53 (.tmp 22) rfl b (o + i * 30) (by simp [Act.eval]) cs _ (unhide HZ).1 Try.underlying53 rfl (unhide HZ).2 ?_)
      refine (unhide KH).mono ?_
      rintro x w2 ⟨x', cs', rfl, hO, b2⟩
      obtain ⟨hyl, ho, hbw⟩ := unhide HS
      have hsz : w.heap.size ≤ wr.heap.size := hbw.size
      have hZ : N + 2 - i = (N + 2 - (i + 1)) + 1 := by omega
      have hlen : (l.take i ++ List.replicate (N + 2 - i) (mlNo 0)).length = N + 2 := by rw [List.length_append, List.length_take, List.length_replicate, ← unhide HN]; omega
      have th := ho.there (i := i) (by rw [hlen]; omega) b2
      have ecs : cs'.toArray.size = 30 := by rw [List.size_toArray]; exact (unhide hO).1
      have th2 : w2.there w.heap.size (i * 30) cs'.toArray.size := by rw [ecs]; exact th
      have y1 : (Try.prog.info? 53).map (·.size) = some cs'.toArray.size := by rw [List.size_toArray, (unhide hO).1]; exact infoMlS
      have y2 := all_oneCell_toArray (unhide hO).2.1
      have HX : Hid ((ys ++ [x']).length = i + 1 ∧ OwL kMl w.heap.size (w2.setCells w.heap.size (i * 30) cs'.toArray.toList) (.slice (some ⟨w.heap.size, 0, none⟩) (N + 2) (N + 2)) (l.take (i + 1) ++ List.replicate (N + 2 - (i + 1)) (mlNo 0)) ((ys ++ [x']) ++ List.replicate (N + 2 - (i + 1)) mxNo) ∧ Below w.heap.size w (w2.setCells w.heap.size (i * 30) cs'.toArray.toList)) := by
        refine ⟨by simp [hyl], ?_, ?_⟩
        · obtain ⟨z, hz⟩ : ∃ z, (l.take i ++ List.replicate (N + 2 - i) (mlNo 0))[i]? = some z := ⟨_, List.getElem?_eq_getElem (by rw [hlen]; omega)⟩
          obtain ⟨y, hy⟩ : ∃ y, (ys ++ List.replicate (N + 2 - i) mxNo)[i]? = some y := ⟨_, List.getElem?_eq_getElem (by rw [ho.xl, hlen]; omega)⟩
          have := ho.putAll (a' := m) (x' := x') rfl hz hy b2 hsz (unhide hO).2.2.1
          rw [hZ, take_put (unhide HM), put_snoc hyl, show kMl.C m x' = cs' from (unhide hO).2.2.2] at this
          rw [setCells_pokesM]
          exact this
        · rw [setCells_pokesM]
          exact (pokes_fr (g := w.heap.size) _ _ _ (Fr.refl [w.heap.size] w2)).toBase (bw_tr hbw b2) (by simp)
      have HY := hide (And.intro th2 (And.intro y1 y2))
      clear th th2 y1 y2 hO b2 KH HZ HM HS hyl ho hbw hsz hZ hlen ecs
      go_wp2_with (refine wpList_store_mid rfl 53 (.tmp 25) (.tmp 24) rfl w.heap.size (i * 30) cs'.toArray (by simp [Act.eval]) rfl (unhide HY).1 (unhide HY).2.1 (unhide HY).2.2 ?_)
      go_roundw
      case rel => exact ⟨i + 1, _, by go_num, by omega, HX⟩
      case measure => simp [intOf]; omega
    · obtain rfl : i = N := by omega
      have HM : Hid (ys.length = i ∧ OwL kMl w.heap.size wr (.slice (some ⟨w.heap.size, 0, none⟩) (i + 2) (i + 2)) (l ++ [if 1 ≤ 0 then mkM i else mlNo 0, if 2 ≤ 0 then mkM (i + 1) else mlNo 0]) (ys ++ [mxNo, mxNo]) ∧ Below w.heap.size w wr) := by
        obtain ⟨h1, h2, h3⟩ := unhide HS
        refine ⟨h1, ?_, h3⟩
        rw [show i + 2 - i = 2 by omega, List.take_of_length_le (by rw [← unhide HN]; exact Nat.le_refl _)] at h2
        exact h2
      clear HS HC hmk
      go_wp2_with fail
      go_loopw [6] (fun iv wr => ∃ (k x : Nat), iv = .int .i64 (x : Int) ∧ k ≤ 2 ∧ x = i + k ∧ Hid (ys.length = i ∧ OwL kMl w.heap.size wr (.slice (some ⟨w.heap.size, 0, none⟩) (i + 2) (i + 2)) (l ++ [if 1 ≤ k then mkM i else mlNo 0, if 2 ≤ k then mkM (i + 1) else mlNo 0]) (ys ++ [mxNo, mxNo]) ∧ Below w.heap.size w wr)) (fun iv _ => (i + 2 - (intOf iv)).toNat)
      case atStart => exact ⟨0, i, rfl, by omega, rfl, HM⟩
      case round =>
        clear HM
        obtain ⟨k, x, rfl, hk, hx, hM⟩ := hrel
        by_cases hk2 : k < 2
        · have K := hide (markMail_any x wr (by omega))
          have q1 : (x : Int) < (i : Int) + 2 := by omega
          have q0 : (0 : Int) ≤ (x : Int) := by omega
          have q5 : decide (x < i + 2) = true := decide_eq_true (by omega)
          have HX := hide hx
          have xb : (x : Int) ≤ 1048580 := by omega
          clear hx
          go_wp2_with fail
          refine (unhide K).mono ?_
          rintro e w2 ⟨rfl, b2⟩
          obtain ⟨h1, ho, hbw⟩ := unhide hM
          have hsz : w.heap.size ≤ wr.heap.size := hbw.size
          have hlN := unhide HN
          have hlen : (l ++ [if 1 ≤ k then mkM i else mlNo 0, if 2 ≤ k then mkM (i + 1) else mlNo 0]).length = i + 2 := by rw [List.length_append, ← hlN]; rfl
          have hxk := unhide HX
          have th := ho.there (i := x) (by rw [hlen]; omega) b2
          have y2 := all_oneCell_toArray (ml_one (w := w2) (OM.rd (om_no 0 w2 (mkI x)) (smNo _)))
          obtain ⟨CS, hCS⟩ : ∃ C, C = (mlC (mlNo (mkI x)) mxNo).toArray := ⟨_, rfl⟩
          have hcz : CS.size = 30 := by rw [hCS]; rfl
          rw [← hCS] at y2 ⊢
          have th2 : w2.there w.heap.size (x * 30) CS.size := by rw [hcz]; exact th
          have y1 : (Try.prog.info? 53).map (·.size) = some CS.size := by rw [hcz]; exact infoMlS
          have HQ : Hid (ys.length = i ∧ OwL kMl w.heap.size (w2.setCells w.heap.size (x * 30) CS.toList) (.slice (some ⟨w.heap.size, 0, none⟩) (i + 2) (i + 2)) (l ++ [if 1 ≤ k + 1 then mkM i else mlNo 0, if 2 ≤ k + 1 then mkM (i + 1) else mlNo 0]) (ys ++ [mxNo, mxNo]) ∧ Below w.heap.size w (w2.setCells w.heap.size (x * 30) CS.toList)) := by
            refine ⟨h1, ?_, ?_⟩
            · obtain ⟨z, hz⟩ : ∃ z, (l ++ [if 1 ≤ k then mkM i else mlNo 0, if 2 ≤ k then mkM (i + 1) else mlNo 0])[x]? = some z := ⟨_, List.getElem?_eq_getElem (by rw [hlen]; omega)⟩
              obtain ⟨y, hy⟩ : ∃ y, (ys ++ [mxNo, mxNo])[x]? = some y := ⟨_, List.getElem?_eq_getElem (by rw [ho.xl, hlen]; omega)⟩
              have := ho.putAll (a' := mkM x) (x' := mxNo) rfl hz hy b2 hsz (om_no _ _ _)
              rw [setCells_pokesM, hCS]
              have e1 : (l ++ [if 1 ≤ k then mkM i else mlNo 0, if 2 ≤ k then mkM (i + 1) else mlNo 0]).set x (mkM x) = l ++ [if 1 ≤ k + 1 then mkM i else mlNo 0, if 2 ≤ k + 1 then mkM (i + 1) else mlNo 0] := by
                rw [List.set_append_right _ _ (by omega), ← hlN]
                rcases (by omega : k = 0 ∨ k = 1) with rfl | rfl
                · have : x = i := by omega
                  subst this
                  simp
                · have : x = i + 1 := by omega
                  subst this
                  simp
              have e3 : (ys ++ [mxNo, mxNo]).set x mxNo = ys ++ [mxNo, mxNo] := by
                rw [List.set_append_right _ _ (by omega), h1]
                rcases (by omega : k = 0 ∨ k = 1) with rfl | rfl
                · have : x = i := by omega
                  subst this
                  simp
                · have : x = i + 1 := by omega
                  subst this
                  simp
              rw [e1, e3] at this
              exact this
            · rw [setCells_pokesM]
              exact (pokes_fr (g := w.heap.size) _ _ _ (Fr.refl [w.heap.size] w2)).toBase (bw_tr hbw b2) (by simp)
          have HY := hide (And.intro th2 (And.intro y1 y2))
          have HK := hide hxk
          clear K hM h1 ho hbw hsz hlN hlen hxk th y2 hCS hcz th2 y1 b2
          go_wp2_with (refine wpList_store_mid rfl 53 (.tmp 44) (.tmp 43) rfl w.heap.size (x * 30) CS (by simp [Act.eval]) rfl (unhide HY).1 (unhide HY).2.1 (unhide HY).2.2 ?_)
          go_roundw
          case rel =>
            have := unhide HK
            exact ⟨k + 1, x + 1, by go_num, by omega, by omega, HQ⟩
          case measure => simp [intOf]; omega
        · obtain rfl : k = 2 := by omega
          have HQ : Hid (ys.length = i ∧ OwL kMl w.heap.size wr (.slice (some ⟨w.heap.size, 0, none⟩) (i + 2) (i + 2)) (l ++ [mkM i, mkM (i + 1)]) (ys ++ [mxNo, mxNo]) ∧ Below w.heap.size w wr) := unhide hM
          have q1 : ¬ ((x : Int) < (i : Int) + 2) := by omega
          have q5 : decide (x < i + 2) = false := decide_eq_false (by omega)
          clear hM hx
          go_wp2_with fail
          go_ret
          first | exact ⟨ys, rfl, (unhide HQ).1, (unhide HQ).2.1, (unhide HQ).2.2⟩ | exact ⟨rfl, ys, (unhide HQ).1, (unhide HQ).2.1, (unhide HQ).2.2⟩ | exact ⟨rfl, ⟨ys, (unhide HQ).1, (unhide HQ).2.1⟩, (unhide HQ).2.2⟩
end Go.Proofs.Ytnimdnoemmodaaa
