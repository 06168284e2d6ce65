/- Texts joined: PoRa PoRb PoLawReads PostReads. -/
import Derived.Test.YtnimdnoemmodaaaZ24
import Derived.Test.YtnimdnoemmodaaaPoFrame
/- What PostReads keeps: boxes of which one has got mail, and what was read of it. No walk is in this text. -/
namespace Go.Proofs.Ytnimdnoemmodaaa
open Go.RowKit Go.Maps
theorem idx_dev {l : List Bx} (h : mayP l) {i j : Nat} {a c : Bx} (hi : l[i]? = some a) (hj : l[j]? = some c) (hd : a.dev = c.dev) : i = j := by
  rcases Nat.lt_trichotomy i j with q | q | q
  · have := ris_monoX h i j a c q hi hj; omega
  · exact q
  · have := ris_monoX h j i c a q hj hi; omega
def addM (b : Bx) (m : List Ml) : Bx := { b with ml := b.ml ++ m }
def xlR (l : List Bx) (k : Nat) (b : Bx) (ml : List Ml) (i : Nat) : List Bx := l.set k (addM b (ml.take i))
structure RdF (d : Int) (l : List Bx) (k : Nat) (b : Bx) (ml : List Ml) : Prop where
  may : mayP l
  at_ : l[k]? = some b
  dev : b.dev = d
  out : b.out = false
  smx : SmX l
  sml : ∀ m ∈ ml, SmM m
  nb : b.ml.length ≤ 262144
  nm : ml.length ≤ 262144
theorem RdF.klt {d : Int} {l : List Bx} {k : Nat} {b : Bx} {ml : List Ml} (h : RdF d l k b ml) : k < l.length := (List.getElem?_eq_some_iff.1 h.at_).1
theorem RdF.get {d : Int} {l : List Bx} {k : Nat} {b : Bx} {ml : List Ml} (h : RdF d l k b ml) (i : Nat) : (xlR l k b ml i)[k]? = some (addM b (ml.take i)) := List.getElem?_set_self h.klt
theorem RdF.may' {d : Int} {l : List Bx} {k : Nat} {b : Bx} {ml : List Ml} (h : RdF d l k b ml) (i : Nat) : mayP (xlR l k b ml i) := mayP_set h.may h.at_ rfl (h.may k b h.at_).1.2.2
theorem RdF.sm {d : Int} {l : List Bx} {k : Nat} {b : Bx} {ml : List Ml} (h : RdF d l k b ml) (i : Nat) : SmX (xlR l k b ml i) := by
  refine ⟨by unfold xlR; rw [List.length_set]; exact h.smx.n, fun c hc => ?_⟩
  rcases List.mem_or_eq_of_mem_set hc with z | z
  · exact h.smx.b c z
  · rw [z]
    refine ⟨?_, fun m hm => ?_⟩
    · have h1 := h.nb
      have h2 := h.nm
      show (b.ml ++ ml.take i).length ≤ _
      rw [List.length_append, List.length_take]
      omega
    · rcases List.mem_append.1 hm with q | q
      · exact (h.smx.b b (List.mem_of_getElem? h.at_)).m m q
      · exact h.sml m (List.mem_of_mem_take q)
theorem RdF.zero {d : Int} {l : List Bx} {k : Nat} {b : Bx} {ml : List Ml} (h : RdF d l k b ml) : xlR l k b ml 0 = l := by
  have e : addM b (ml.take 0) = b := by unfold addM; simp
  unfold xlR
  rw [e]
  apply List.ext_getElem?
  intro j
  by_cases q : k = j
  · subst q; rw [List.getElem?_set_self h.klt, h.at_]
  · rw [List.getElem?_set_ne q]
theorem xlR_put {l : List Bx} {k : Nat} {b : Bx} {ml : List Ml} {i : Nat} {m : Ml} (hm : ml[i]? = some m) : (xlR l k b ml i).set k (putN m (addM b (ml.take i))) = xlR l k b ml (i + 1) := by
  unfold xlR
  rw [List.set_set]
  congr 1
  unfold putN addM
  simp [List.take_add_one, hm]
structure RdS (w2 wr : World) (l : List Bx) (k : Nat) (b : Bx) (ml : List Ml) (i r : Nat) (xv rv : Value) : Prop where
  bel : Below w2.heap.size w2 wr
  ri : r ≤ i
  st : ∃ rs xs, OwL kMl w2.heap.size wr rv (b.ml ++ ml.take r) rs ∧ CapX xs ∧ (RdL kBx w2 xv (xlR l k b ml i) xs ∨ ∃ B, OwL kBx B wr xv (xlR l k b ml i) xs ∧ ∀ z ∈ zK kMl rv rs, z ∉ zK kBx xv xs)
theorem RdS.rd {d : Int} {w2 wr : World} {l : List Bx} {k : Nat} {b : Bx} {ml : List Ml} {i r : Nat} {xv rv : Value} (h : RdS w2 wr l k b ml i r xv rv) (hf : RdF d l k b ml) : ∃ xs, CapX xs ∧ RdL kBx wr xv (xlR l k b ml i) xs := by
  obtain ⟨rs, xs, h1, h2, h3⟩ := h.st
  refine ⟨xs, h2, ?_⟩
  rcases h3 with h3 | ⟨B, h3, h4⟩
  · exact h3.bw h.bel
  · exact h3.bxs (hf.sm i).b
theorem rds_put {d : Int} {w2 wr : World} {l : List Bx} {k : Nat} {b : Bx} {ml : List Ml} {i r : Nat} {xv rv : Value} (h : RdS w2 wr l k b ml i r xv rv) (hf : RdF d l k b ml) {m : Ml} {y : Mx} (hm : ml[i]? = some m) (hr : MlR wr m y) :
    Calls Try.prog 12 #[xv, .int .i64 d, .agg (mlC m y).toArray] wr fun e w' => ∃ xv', e = .returned (.tuple #[xv', .int .i64 0]) ∧ RdS w2 w' l k b ml (i + 1) r xv' rv := by
  obtain ⟨xs, hc, hx⟩ := h.rd hf
  refine Calls.mono (poPut_any d hx (hf.sm i) hr (hf.sml m (List.mem_of_getElem? hm))) ?_
  rintro e w' ⟨v', er, rfl, b1, ht⟩
  rcases ht with q | q | ⟨k', b', _, q2, q3, q4, q5⟩
  · rw [mayX_iff.2 (hf.may' i)] at q; exact absurd q.2.1 (by simp)
  · exact absurd (show (addM b (ml.take i)).dev = d from hf.dev) (q.2.2.1 _ (List.mem_of_getElem? (hf.get i)))
  · obtain rfl : k' = k := idx_dev (hf.may' i) q2 (hf.get i) (by rw [q3]; exact hf.dev.symm)
    rw [hf.get i] at q2
    cases q2
    have he : er = 0 := by rw [q4]; unfold putE addM; simp [hf.out]
    subst he
    rcases q5 with q | ⟨_, xs', ho⟩
    · exact absurd rfl q.1
    · rw [xlR_put hm] at ho
      obtain ⟨rs, _, h1, _, _⟩ := h.st
      exact ⟨v', rfl, bw_tr h.bel b1, Nat.le_succ_of_le h.ri, rs, xs', h1.bw b1, ho.capX, Or.inr ⟨_, ho, fun z hz hq => by
        have := (h1.lt z hz).2
        have := (ho.lt z hq).1
        omega⟩⟩
theorem rds_since {d : Int} {w2 wr : World} {l : List Bx} {k : Nat} {b : Bx} {ml : List Ml} {i r : Nat} {xv rv : Value} (h : RdS w2 wr l k b ml i r xv rv) (hf : RdF d l k b ml) (hi : i ≤ ml.length) {n : Int} (hn : n = ((b.ml.length + r : Nat) : Int)) :
    Calls Try.prog 8 #[xv, .int .i64 d, .int .i64 n] wr fun e w' => ∃ mv ms, e = .returned (.tuple #[mv, .int .i64 0]) ∧ Below wr.heap.size wr w' ∧ OwL kMl wr.heap.size w' mv ((ml.take i).drop r) ms := by
  obtain ⟨xs, hc, hx⟩ := h.rd hf
  refine Calls.mono (poSince_any d n hx (hf.sm i) hc) ?_
  rintro e w' ⟨v', er, rfl, b1, ht⟩
  rcases ht with q | q | ⟨k', b', _, q2, q3, q5⟩
  · rw [mayX_iff.2 (hf.may' i)] at q; exact absurd q.2.1 (by simp)
  · exact absurd (show (addM b (ml.take i)).dev = d from hf.dev) (q.2.2.1 _ (List.mem_of_getElem? (hf.get i)))
  · obtain rfl : k' = k := idx_dev (hf.may' i) q2 (hf.get i) (by rw [q3]; exact hf.dev.symm)
    rw [hf.get i] at q2
    cases q2
    have hri := h.ri
    rcases q5 with ⟨_, q, _⟩ | ⟨rfl, n', q1, q2, ys, ho⟩
    · refine absurd ⟨by omega, ?_⟩ q
      show n ≤ ((b.ml ++ ml.take i).length : Int)
      rw [List.length_append, List.length_take]
      omega
    · obtain rfl : n' = b.ml.length + r := by omega
      have e : (addM b (ml.take i)).ml.drop (b.ml.length + r) = (ml.take i).drop r := by
        show (b.ml ++ ml.take i).drop _ = _
        rw [List.drop_append]
        simp
      rw [e] at ho
      exact ⟨v', ys, rfl, b1, ho⟩
theorem rds_join {w2 wr w' w'' : World} {l : List Bx} {k : Nat} {b : Bx} {ml : List Ml} {i r : Nat} {xv rv rv' mv : Value} {ms : List Mx} (h : RdS w2 wr l k b ml i r xv rv) (hb : Below wr.heap.size wr w') (hm : OwL kMl wr.heap.size w' mv ((ml.take i).drop r) ms) {rs : List Mx}
    (hrs : ∃ xs, OwL kMl w2.heap.size w' rv (b.ml ++ ml.take r) rs ∧ CapX xs ∧ (RdL kBx w2 xv (xlR l k b ml i) xs ∨ ∃ B, OwL kBx B w' xv (xlR l k b ml i) xs ∧ (∀ z ∈ zK kMl rv rs, z ∉ zK kBx xv xs) ∧ ∀ z ∈ zK kBx xv xs, z < wr.heap.size)) (hlt : ∀ z ∈ zK kMl rv rs, z < wr.heap.size)
    (hrow : w''.ownsRow w2.heap.size kMl.t kMl.c rv' ((b.ml ++ ml.take r).length + ((ml.take i).drop r).length) (cellK kMl (b.ml ++ ml.take r) rs ++ cellK kMl ((ml.take i).drop r) ms)) (hg : w'.grownBy w'' rv.ownBlock) (hv : rv'.ownBlock = rv.ownBlock ∨ rv'.ownBlock = some w'.heap.size) : RdS w2 w'' l k b ml i i xv rv' := by
  obtain ⟨xs, h1, h2, h3⟩ := hrs
  have hwr : w2.heap.size ≤ wr.heap.size := h.bel.size
  have hap : ∀ z ∈ zK kMl rv rs, z ∉ zK kMl mv ms := fun z hz hq => by
    have := hlt z hz
    have := (hm.lt z hq).1
    omega
  have hj := h1.join hm hwr hap hrow hg hv
  have e : (b.ml ++ ml.take r) ++ (ml.take i).drop r = b.ml ++ ml.take i := by
    rw [List.append_assoc]
    congr 1
    have := List.take_append_drop r (ml.take i)
    rw [List.take_take, Nat.min_eq_left h.ri] at this
    exact this
  rw [e] at hj
  have hf := Fr.ofGrown hg
  have hbel : Below w2.heap.size w2 w'' := Fr.toBase (bw_tr h.bel hb) hf (fun z hz => (World.ownsRow.lt h1.row z (by simpa using hz)).1)
  refine ⟨hbel, Nat.le_refl _, rs ++ ms, xs, hj, h2, ?_⟩
  rcases h3 with h3 | ⟨B, h3, h4, h5⟩
  · exact Or.inl h3
  · refine Or.inr ⟨B, h3.keep (fun z hz => hf.block z (h3.lt z hz).2 (fun q => h4 z (zK_row (by simpa using q)) hz)), fun z hz hq => ?_⟩
    rcases zK_cases hz with c | ⟨j, x, c1, c2⟩
    · rcases hv with q | q
      · exact h4 z (zK_row (by rw [← q]; exact c)) hq
      · rw [q] at c; cases c
        have := h5 _ hq
        have := hb.size
        omega
    · rcases get_app c1 with ⟨c3, c4⟩ | ⟨c3, c4⟩
      · exact h4 z (zK_el c4 c2) hq
      · have := h5 z hq
        have := (hm.lt z (zK_el c4 c2)).1
        omega
end Go.Proofs.Ytnimdnoemmodaaa

/- Beyond of three numbers. -/
namespace Go.Proofs.Ytnimdnoemmodaaa
open Go.RowKit Go.Maps
set_option maxHeartbeats 1600000 in
theorem beyond15c (b : Nat) (n m k : Nat) (c : Nat) (w : World) (hn : n ≤ 9007199254740992) (hm : m ≤ 9007199254740992) (hk : k ≤ 9007199254740992) (h0 : w.cell? ⟨b, 0, none⟩ = some (.int .i64 n)) (h1 : w.cell? ⟨b, 1, none⟩ = some (.int .i64 m)) (h2 : w.cell? ⟨b, 2, none⟩ = some (.int .i64 k)) :
    Calls Try.prog 5 #[.slice (some ⟨b, 0, none⟩) 3 c] w fun e w' => ∃ z, e = .returned (.bool z) ∧ w' = w ∧ (z = false → n + m + k ≤ 262144) := by
  by_cases hb : 262144 < n
  · go_enter Try.func5, Try.ntmps5
    go_wp2
    refine wp_loop_rounds 1 ?_
    rw [rounds_succ]
    go_wp2
    go_ret
    exact ⟨_, rfl, rfl, fun q => by first | omega | (simp at q; omega) | cases q⟩
  by_cases hb2 : 262144 < m
  · go_enter Try.func5, Try.ntmps5
    go_wp2
    refine wp_loop_rounds 2 ?_
    rw [rounds_succ]
    go_wp2
    rw [rounds_succ]
    go_wp2
    go_ret
    exact ⟨_, rfl, rfl, fun q => by first | omega | (simp at q; omega) | cases q⟩
  by_cases hb3 : (262144 : Int) < (n : Int) + (m : Int)
  · go_enter Try.func5, Try.ntmps5
    go_wp2
    refine wp_loop_rounds 2 ?_
    rw [rounds_succ]
    go_wp2
    rw [rounds_succ]
    go_wp2
    go_ret
    exact ⟨_, rfl, rfl, fun q => by first | omega | (simp at q; omega) | cases q⟩
  by_cases hb4 : 262144 < k
  · go_enter Try.func5, Try.ntmps5
    go_wp2
    refine wp_loop_rounds 3 ?_
    rw [rounds_succ]
    go_wp2
    rw [rounds_succ]
    go_wp2
    rw [rounds_succ]
    go_wp2
    go_ret
    exact ⟨_, rfl, rfl, fun q => by first | omega | (simp at q; omega) | cases q⟩
  by_cases hb5 : (262144 : Int) < (n : Int) + (m : Int) + (k : Int)
  · go_enter Try.func5, Try.ntmps5
    go_wp2
    refine wp_loop_rounds 3 ?_
    rw [rounds_succ]
    go_wp2
    rw [rounds_succ]
    go_wp2
    rw [rounds_succ]
    go_wp2
    go_ret
    exact ⟨_, rfl, rfl, fun q => by first | omega | (simp at q; omega) | cases q⟩
  · go_enter Try.func5, Try.ntmps5
    go_wp2
    refine wp_loop_rounds 4 ?_
    rw [rounds_succ]
    go_wp2
    rw [rounds_succ]
    go_wp2
    rw [rounds_succ]
    go_wp2
    rw [rounds_succ]
    go_wp2
    go_ret
    exact ⟨_, rfl, rfl, fun q => by first | omega | (simp at q; omega) | cases q⟩
theorem MlsO.bwX {W z : World} {v : Value} {l : List Ml} {xs : List Mx} (hB : MlsO W v l xs) (hz : Below W.heap.size W z) : MlsO z v l xs := ⟨hB.len, hB.cap, hB.xl, (by
    obtain ⟨ad, cp, e3, e4⟩ := hB.form
    exact ⟨ad, cp, e3, e4.imp (fun q => q) (fun ⟨g, o, q1, q2⟩ => ⟨g, o, q1, fun j u hu => by have := q2 j u hu; rw [hz.cell (lt_of_cell this)]; exact this⟩)⟩), fun i m y hm hy => ⟨(hB.el i m y hm hy).1.bw hz, (hB.el i m y hm hy).2⟩⟩
theorem MlsO.sm {W : World} {v : Value} {l : List Ml} {xs : List Mx} (h : MlsO W v l xs) (hn : l.length + msN l ≤ 262144) : ∀ m ∈ l, SmM m := fun m hm => by
  obtain ⟨i, hi⟩ := List.getElem?_of_mem hm
  have hil : i < xs.length := by rw [h.xl]; exact (List.getElem?_eq_some_iff.1 hi).1
  obtain ⟨q1, q2⟩ := h.el i m _ hi (List.getElem?_eq_getElem hil)
  have h2 : mlN m ≤ msN l := mem_sumP (f := mlN) hm
  exact smM_of q1 q2 (by omega)
theorem MlsO.rdl {W : World} {v : Value} {l : List Ml} {xs : List Mx} (h : MlsO W v l xs) (hs : ∀ m ∈ l, SmM m) : RdL kMl W v l xs :=
  ⟨h.xl, fun i m y hm hy => ⟨(h.el i m y hm hy).1, hs m (List.mem_of_getElem? hm)⟩, h.form⟩
theorem Bxs.twm {w : World} {v : Value} {l : List Bx} {xs : List (Value × List Mx)} (h : Bxs w v l xs) (hn : l.length + bsN l ≤ 262144) {b : Bx} (hb : b ∈ l) : b.ml.length ≤ 262144 ∧ ∀ m ∈ b.ml, TwMl m := by
  obtain ⟨i, hi⟩ := List.getElem?_of_mem hb
  have hil : i < xs.length := by rw [h.xl]; exact (List.getElem?_eq_some_iff.1 hi).1
  obtain ⟨_, e2, _, e4⟩ := h.el i b _ hi (List.getElem?_eq_getElem hil)
  have h1 : bxN b ≤ bsN l := mem_sumP (f := bxN) hb
  unfold bxN at h1
  refine ⟨by omega, fun m hm => ?_⟩
  obtain ⟨j, hj⟩ := List.getElem?_of_mem hm
  have hjl : j < (xs[i]).2.length := by rw [e2]; exact (List.getElem?_eq_some_iff.1 hj).1
  obtain ⟨q1, q2⟩ := e4 j m _ hj (List.getElem?_eq_getElem hjl)
  have h2 : mlN m ≤ msN b.ml := mem_sumP (f := mlN) hm
  exact twMl_of q1 q2 (by omega)
end Go.Proofs.Ytnimdnoemmodaaa

/- PostReads, the walk. -/
namespace Go.Proofs.Ytnimdnoemmodaaa
open Go.RowKit Go.Maps
set_option maxRecDepth 100000 in
set_option maxHeartbeats 2000000 in
theorem PostReads_walk (W : World) (v : Value) (l : List Bx) (xs : List (Value × List Mx)) (hB : Bxs W v l xs) (hcap : CapX xs) (d : Int) (v2 : Value) (ml : List Ml) (ys : List Mx) (hM : MlsO W v2 ml ys) (v3 : Value) (cu : List Int) (hC : Nums W v3 cu) (hcl : cu.length ≤ 140737488355328) :
    Calls Try.prog 3 #[v, .int .i64 d, v2, v3] W fun e w' => e = .returned (.bool true) ∧ Below W.heap.size W w' := by
  have KZ := hide (bxsize_any hB)
  have KM : Hid (∀ z, Below W.heap.size W z → Calls Try.prog 7 #[v2] z fun e w' => ∃ n : Nat, e = .returned (.int .i64 (n : Int)) ∧ n ≤ 4503599627370496 ∧ (n ≤ 262144 → n = ml.length + msN ml) ∧ Below z.heap.size z w') := fun z hz => mlssize_any hM.xl hM.len (hM.bwX hz).form (fun i m x h1 h2 => ((hM.bwX hz).el i m x h1 h2).1)
  have HX := hide (And.intro hB (And.intro hcap (And.intro hM hC)))
  have KA : Hid (∀ z, Calls Try.prog 10 #[] z fun e w' => e = .returned (.bool true) ∧ Below z.heap.size z w') := fun z => alive15_any z
  obtain ⟨a, cap, hv⟩ : ∃ a cap, v = .slice a l.length cap := by obtain ⟨a, cap, e, _⟩ := hB.form; exact ⟨a, cap, e⟩
  obtain ⟨a2, cap2, hv2⟩ : ∃ a cap, v2 = .slice a ml.length cap := by obtain ⟨a, cap, e, _⟩ := hM.form; exact ⟨a, cap, e⟩
  obtain ⟨a3, cap3, hv3⟩ := nums_slice hC
  obtain ⟨N, hN⟩ : ∃ N, N = l.length := ⟨_, rfl⟩
  obtain ⟨M, hMl⟩ : ∃ N, N = ml.length := ⟨_, rfl⟩
  obtain ⟨Q, hQ⟩ : ∃ N, N = cu.length := ⟨_, rfl⟩
  rw [← hN] at hv
  rw [← hMl] at hv2
  rw [← hQ] at hv3 hcl
  have HN := hide (And.intro hN (And.intro hMl hQ))
  have hMI : (M : Int) ≤ 140737488355328 := by have := hM.len; omega
  have hQI : (Q : Int) ≤ 140737488355328 := by omega
  subst hv hv2 hv3
  clear hB hcap hM hC hN hMl hQ hcl
  go_enter Try.func3, Try.ntmps3
  go_wp2_with fail
  refine (unhide KZ).mono ?_
  rintro e z1 ⟨n, rfl, hn, hnl, b1⟩
  have KM1 := hide (unhide KM z1 b1)
  have HB1 := hide (And.intro b1 hnl)
  clear KZ KM b1 hnl
  go_wp2_with fail
  refine (unhide KM1).mono ?_
  rintro e z2 ⟨m, rfl, hm, hml, b2⟩
  have HB2 := hide (And.intro (bw_tr (unhide HB1).1 b2) hml)
  clear KM1 b2 hml
  go_wp2_with fail
  refine (beyond15c z2.heap.size n m Q 3 _ (by omega) (by omega) (by omega) (blk_c (heap_alloc_new _ _) rfl) (blk_c (heap_alloc_new _ _) rfl) (blk_c (heap_alloc_new _ _) rfl)).mono ?_
  rintro e z3 ⟨zb, rfl, hz3, hzb⟩
  have b3 : Below W.heap.size W z3 := by rw [hz3]; exact bw_tr (unhide HB2).1 (bwA _ _)
  have HB3 := hide b3
  clear hz3 b3
  cases zb with
  | true =>
    clear hzb
    go_wp2_with fail
    go_ret
    exact ⟨rfl, unhide HB3⟩
  | false =>
    have hsum := hzb rfl
    have e1 := (unhide HB1).2 (by omega)
    have e2 := (unhide HB2).2 (by omega)
    obtain ⟨hB, hcap, hM, hC⟩ := unhide HX
    obtain ⟨eN, eM, eQ⟩ := unhide HN
    have hS : SmX l := smX_of hB (by omega)
    have hSm := hM.sm (by omega)
    have HM : Hid (RdL kMl W (.slice a2 M cap2) ml ys) := hM.rdl hSm
    have HRx : Hid (RdL kBx W (.slice a N cap) l xs) := hB.rdl hS
    have HTw : Hid (∀ b ∈ l, b.ml.length ≤ 262144 ∧ ∀ m ∈ b.ml, TwMl m) := fun b hb => hB.twm (by omega) hb
    have KS := hide (poSince_any (w := z3) d 0 ((unhide HRx).bw (unhide HB3)) hS hcap)
    have HC := hide (And.intro hS (And.intro hcap (And.intro hSm (And.intro hC (And.intro (show ml.length ≤ 262144 by omega) (And.intro eM eQ))))))
    have hM2 : (M : Int) ≤ 262144 := by omega
    have hQ2 : (Q : Int) ≤ 262144 := by omega
    clear hzb hsum e1 e2 hB hcap hM hC eN eM eQ hS hSm HX HN HB1 HB2 hn hm hMI hQI
    go_wp2_with fail
    refine (unhide KS).mono ?_
    rintro e z4 ⟨wv, er, rfl, b4, hs⟩
    have KH := hide (poHas_any (w := z4) d ((unhide HRx).bw (bw_tr (unhide HB3) b4)) (unhide HC).1)
    have HB4 := hide (And.intro (bw_tr (unhide HB3) b4) hs)
    clear KS b4 hs
    go_wp2_with fail
    refine (unhide KH).mono ?_
    rintro e z5 ⟨th, ou, rfl, b5, hh⟩
    have HB5 := hide (And.intro (bw_tr (unhide HB4).1 b5) hh)
    have KA5 := hide (unhide KA z5)
    by_cases hok : er = 0 ∧ th = true ∧ ou = false
    · obtain ⟨rfl, rfl, rfl⟩ := hok
      have HF : Hid (∃ k b us, RdF d l k b ml ∧ OwL kMl z3.heap.size z5 wv b.ml us) := by
        rcases (unhide HB4).2 with q | q | ⟨k, b, q1, q2, q3, q⟩
        · exact absurd q.1 (by decide)
        · exact absurd q.1 (by decide)
        · rcases q with q | ⟨_, n', q4, _, us, ho⟩
          · exact absurd q.1 (by decide)
          · obtain rfl : n' = 0 := by omega
            rw [List.drop_zero] at ho
            rcases (unhide HB5).2 with p | ⟨_, _, k', b', p2, p3, p4⟩
            · exact absurd p.1 (by simp)
            · obtain rfl : k' = k := idx_dev q1 p2 q2 (by rw [p3, q3])
              rw [q2] at p2
              cases p2
              refine ⟨k', b, us, ⟨q1, q2, q3, p4.symm, (unhide HC).1, (unhide HC).2.2.1, ((unhide HTw) b (List.mem_of_getElem? q2)).1, (unhide HC).2.2.2.2.1⟩, ho.bw b5⟩
      obtain ⟨k, b, us, hF0, hU0⟩ := unhide HF
      have hF := hide hF0
      have hU := hide hU0
      have hbT := (unhide HTw) b (List.mem_of_getElem? hF0.at_)
      obtain ⟨aw, cw, hwv⟩ := own_slice hU0.row
      obtain ⟨R, hR⟩ : ∃ R, R = b.ml.length := ⟨_, rfl⟩
      rw [← hR] at hwv
      subst hwv
      have hRI : (R : Int) ≤ 262144 := by have := hbT.1; omega
      have HR := hide hR
      have HBT := hide hbT
      have KT : Hid (∀ z, Below z5.heap.size z5 z → Calls Try.prog 11 #[.slice aw R cw] z fun e w' => ∃ us', e = .returned (.slice (some ⟨z.heap.size, 0, none⟩) R (R + 2)) ∧ OwL kMl z.heap.size w' (.slice (some ⟨z.heap.size, 0, none⟩) R (R + 2)) b.ml us' ∧ Below z.heap.size z w') := fun z hz => by
        refine Calls.mono (twmails_any ((unhide hU).bw hz |>.mls (fun m hm => ((unhide HBT).2 m hm).s)) (by have := (unhide HBT).1; omega) (unhide HBT).2) ?_
        rintro e w' ⟨us', rfl, h1, h2, h3⟩
        have hfr := h2.front h1 rfl rfl
        exact ⟨us', by rw [unhide HR], by rw [unhide HR]; exact hfr, h3⟩
      have KT5 := hide (unhide KT z5 (Below.refl _ _))
      clear hF0 hU0 hbT hR HF KH KA5 hh b5 HB3 HTw
      go_wp2_with fail
      refine (unhide KT5).mono ?_
      rintro e z6 ⟨us', rfl, ho6, b6⟩
      have S0 : Hid (RdS z5 z6 l k b ml 0 0 (.slice a N cap) (.slice (some ⟨z5.heap.size, 0, none⟩) R (R + 2))) := by
        refine ⟨b6, Nat.le_refl _, us', xs, by simpa using ho6, (unhide HC).2.1, Or.inl ?_⟩
        rw [(unhide hF).zero]
        exact (unhide HRx).bw (unhide HB5).1
      have HB6 := hide b6
      clear ho6 b6 KT5
      go_wp2_with fail
      have HCl : Hid (∀ (wr : World) (i : Nat), Below z5.heap.size z5 wr → i < M → ∃ (g o : Nat) (m : Ml) (y : Mx) (cs : List Value), a2 = some ⟨g, o, none⟩ ∧ ml[i]? = some m ∧ cs = mlC m y ∧ cs.length = 30 ∧ wr.rangeAt g (o + i * 30) cs ∧ MlR wr m y) := by
        intro wr i hb hi
        obtain ⟨m, hm⟩ : ∃ m, ml[i]? = some m := ⟨_, List.getElem?_eq_getElem (by rw [← (unhide HC).2.2.2.2.2.1]; exact hi)⟩
        have bw := bw_tr (unhide HB5).1 hb
        obtain ⟨g, o, y, e1, _, e3, e4⟩ := (unhide HM).get hm
        exact ⟨g, o, m, y, _, e1, hm, rfl, rfl, fun j u hj => by
          have : W.cell? ⟨g, o + i * 30 + j, none⟩ = some u := e4 j u hj
          rw [bw.cell (lt_of_cell this)]; exact this, e3.1.bw bw⟩
      have HCu : Hid (∀ (wr : World) (i : Nat), Below z5.heap.size z5 wr → i < Q → ∃ (g o : Nat) (z : Int), a3 = some ⟨g, o, none⟩ ∧ wr.cell? ⟨g, o + i, none⟩ = some (.int .i64 z)) := by
        intro wr i hb hi
        have bw := bw_tr (unhide HB5).1 hb
        have hl := (unhide HC).2.2.2.2.2.2
        rcases (unhide HC).2.2.2.1 with ⟨q, _⟩ | ⟨g, o, cp, q1, _, _, q2⟩
        · rw [q] at hl; simp at hl; omega
        · cases q1
          obtain ⟨z, hz⟩ : ∃ z, cu[i]? = some z := ⟨_, List.getElem?_eq_getElem (by rw [← hl]; exact hi)⟩
          have := q2 i z hz
          exact ⟨g, o, z, rfl, by rw [bw.cell (lt_of_cell this)]; exact this⟩
      go_loopw [10, 13, 14, 15, 16] (fun ev rv av xv iv wr => ∃ (i r c A : Nat) (ra : Option Addr) (xa : Option Addr) (xn xc rn : Nat), ev = .int .i64 0 ∧ rv = .slice ra rn c ∧ av = .int .i64 (A : Int) ∧ xv = .slice xa xn xc ∧ iv = .int .i64 (i : Int) ∧ i ≤ M ∧ r ≤ i ∧ Hid (RdS z5 wr l k b ml i r (.slice xa xn xc) (.slice ra rn c) ∧ A = R + r)) (fun _ _ _ _ iv _ => (M - (intOf iv)).toNat)
      case atStart => exact ⟨0, 0, _, R, _, _, _, _, _, rfl, rfl, rfl, rfl, rfl, by omega, by omega, unhide S0, rfl⟩
      case round =>
        clear S0
        obtain ⟨i, r, c, A, ra, xa, xn, xc, rn, rfl, rfl, rfl, rfl, rfl, hi, hri, HS⟩ := hrel
        have hAI : (A : Int) ≤ 524288 := by have := (unhide HS).2; omega
        have hA0 : (0 : Int) ≤ (A : Int) := by omega
        by_cases hlt : i < M
        · obtain ⟨g, o, m, y, cs, rfl, hm, hcs, hcl, hrg, hR⟩ := unhide HCl wr i (unhide HS).1.bel hlt
          have z1 : (Try.prog.info? 53).map (·.size) = some cs.length := by rw [hcl]; exact infoMlS
          have HZ := hide (And.intro hrg z1)
          have KP : Hid (Calls Try.prog 12 #[.slice xa xn xc, .int .i64 d, .agg cs.toArray] wr fun e w' => ∃ xv', e = .returned (.tuple #[xv', .int .i64 0]) ∧ RdS z5 w' l k b ml (i + 1) r xv' (.slice ra rn c)) := by rw [hcs]; exact rds_put (unhide HS).1 (unhide hF) hm hR
          have q1 : (i : Int) < (M : Int) := by omega
          have q0 : (0 : Int) ≤ (i : Int) := by omega
          clear hm hcs hcl hrg hR z1
          go_wp2_with (refine wpList_load_mid rfl 53 (.tmp 67) rfl g (o + i * 30) (by simp [Act.eval]) cs _ (unhide HZ).1 Try.underlying53 rfl (unhide HZ).2 ?_)
          refine (unhide KP).mono ?_
          rintro e w1 ⟨xv', rfl, hs1⟩
          obtain ⟨xa', xn', xc', rfl⟩ : ∃ xa xn xc, xv' = .slice xa xn xc := by
            obtain ⟨_, _, hq⟩ := hs1.rd (unhide hF)
            obtain ⟨p1, p2, p3⟩ := rdl_slice hq
            exact ⟨p1, _, p2, p3⟩
          have HS1 := hide hs1
          have HA := hide (unhide HS).2
          clear KP HZ hs1 HS
          by_cases hq : i < Q
          · obtain ⟨g3, o3, zc, rfl, hzc⟩ := unhide HCu w1 i (unhide HS1).bel hq
            have p1 : (i : Int) < (Q : Int) := by omega
            have p5 : decide ((i : Int) < (Q : Int)) = true := decide_eq_true p1
            by_cases hz : 0 < zc
            · have p2 : decide (0 < zc) = true := decide_eq_true hz
              go_wp2_with fail
              go_roundw
              case rel => exact ⟨i + 1, r, _, A, _, _, _, _, _, rfl, rfl, rfl, rfl, by go_num, by omega, by omega, unhide HS1, unhide HA⟩
              case measure => simp [intOf]; omega
            · have p2 : decide (0 < zc) = false := decide_eq_false hz
              have KS2 := hide (rds_since (unhide HS1) (unhide hF) (by rw [← (unhide HC).2.2.2.2.2.1]; omega) (n := (A : Int)) (by rw [unhide HA, unhide HR]))
              go_wp2_with fail
              refine (unhide KS2).mono ?_
              rintro e w2 ⟨mv, ms, rfl, b2, hmv⟩
              obtain ⟨ma, mc, hmv1⟩ := own_slice hmv.row
              obtain ⟨mn, hmn⟩ : ∃ mn, mn = ((ml.take (i + 1)).drop r).length := ⟨_, rfl⟩
              rw [← hmn] at hmv1
              subst hmv1
              have hmn2 : mn = i + 1 - r := by rw [hmn, List.length_drop, List.length_take, ← (unhide HC).2.2.2.2.2.1]; omega
              have hmI : (mn : Int) ≤ 262144 := by omega
              have hm0 : (0 : Int) ≤ (mn : Int) := by omega
              have HMN := hide hmn2
              have hstE : ∃ rs xs, OwL kMl z5.heap.size w2 (.slice ra rn c) (b.ml ++ ml.take r) rs ∧ (∀ z ∈ zK kMl (.slice ra rn c) rs, z < w1.heap.size) ∧ CapX xs ∧ (RdL kBx z5 (.slice xa' xn' xc') (xlR l k b ml (i + 1)) xs ∨ ∃ B, OwL kBx B w2 (.slice xa' xn' xc') (xlR l k b ml (i + 1)) xs ∧ (∀ z ∈ zK kMl (.slice ra rn c) rs, z ∉ zK kBx (.slice xa' xn' xc') xs) ∧ ∀ z ∈ zK kBx (.slice xa' xn' xc') xs, z < w1.heap.size) := by
                obtain ⟨rs, xs', h1, h2, h3⟩ := (unhide HS1).st
                refine ⟨rs, xs', h1.bw b2, fun z hz => (h1.lt z hz).2, h2, ?_⟩
                rcases h3 with h3 | ⟨B, h3, h4⟩
                · exact Or.inl h3
                · exact Or.inr ⟨B, h3.bw b2, h4, fun z hz => (h3.lt z hz).2⟩
              obtain ⟨rs, xs', h1, h2, h3, h4⟩ := hstE
              have HE := hide (And.intro h1 (And.intro h2 (And.intro h3 h4)))
              have HMV := hide hmv
              have HB2 := hide b2
              have hsm : ∀ m ∈ (ml.take (i + 1)).drop r, SmM m := fun m hm => (unhide hF).sml m (List.mem_of_mem_take (List.mem_of_mem_drop hm))
              have HLn : Hid ((b.ml ++ ml.take r).length + ((ml.take (i + 1)).drop r).length ≤ 1073741824) := by
                have := (unhide hF).nb
                have := (unhide hF).nm
                apply hide
                rw [List.length_append, List.length_take, List.length_drop, List.length_take]
                omega
              have HSM := hide hsm
              have HW2 : Hid (z5.heap.size ≤ w2.heap.size) := Nat.le_trans (unhide HS1).bel.size b2.size
              clear KS2 hmv hmn hmn2 h1 h2 h3 h4 b2 hsm
              go_wp2_with (refine wpList_joinM (by first | rfl | simp [Region.wanted, yielded]) (.tmp 94) (.tmp 95) rfl z5.heap.size (.slice ra rn c) (.slice ma mn mc) (b.ml ++ ml.take r) ((ml.take (i + 1)).drop r) rs ms rfl rfl (unhide HE).1 ((unhide HMV).mls (unhide HSM)) (unhide HLn) (unhide HW2) ?_)
              intro rv' w3 HJ0
              obtain ⟨hrow, hg, hvv⟩ := unhide HJ0
              have hs3 := rds_join (unhide HS1) (unhide HB2) (unhide HMV) ⟨xs', (unhide HE).1, (unhide HE).2.2.1, (unhide HE).2.2.2⟩ (unhide HE).2.1 hrow hg hvv
              obtain ⟨ra', rc', hrv⟩ := own_slice hrow
              obtain ⟨rn', hrn⟩ : ∃ n, n = (b.ml ++ ml.take r).length + ((ml.take (i + 1)).drop r).length := ⟨_, rfl⟩
              rw [← hrn] at hrv
              subst hrv
              have HS3 := hide hs3
              clear hs3 hrow hg hvv HJ0 hrn HE HMV HB2 HSM HLn HW2 HS1
              go_wp2_with fail
              go_roundw
              case rel =>
                have eA := unhide HA
                have eM := unhide HMN
                exact ⟨i + 1, i + 1, _, A + mn, _, _, _, _, _, rfl, rfl, by first | rfl | (simp; done) | go_num, rfl, by go_num, by omega, by omega, unhide HS3, by omega⟩
              case measure => simp [intOf]; omega
          · have p1 : ¬ ((i : Int) < (Q : Int)) := by omega
            have p5 : decide ((i : Int) < (Q : Int)) = false := decide_eq_false p1
            have KS2 := hide (rds_since (unhide HS1) (unhide hF) (by rw [← (unhide HC).2.2.2.2.2.1]; omega) (n := (A : Int)) (by rw [unhide HA, unhide HR]))
            go_wp2_with fail
            refine (unhide KS2).mono ?_
            rintro e w2 ⟨mv, ms, rfl, b2, hmv⟩
            obtain ⟨ma, mc, hmv1⟩ := own_slice hmv.row
            obtain ⟨mn, hmn⟩ : ∃ mn, mn = ((ml.take (i + 1)).drop r).length := ⟨_, rfl⟩
            rw [← hmn] at hmv1
            subst hmv1
            have hmn2 : mn = i + 1 - r := by rw [hmn, List.length_drop, List.length_take, ← (unhide HC).2.2.2.2.2.1]; omega
            have hmI : (mn : Int) ≤ 262144 := by omega
            have hm0 : (0 : Int) ≤ (mn : Int) := by omega
            have HMN := hide hmn2
            have hstE : ∃ rs xs, OwL kMl z5.heap.size w2 (.slice ra rn c) (b.ml ++ ml.take r) rs ∧ (∀ z ∈ zK kMl (.slice ra rn c) rs, z < w1.heap.size) ∧ CapX xs ∧ (RdL kBx z5 (.slice xa' xn' xc') (xlR l k b ml (i + 1)) xs ∨ ∃ B, OwL kBx B w2 (.slice xa' xn' xc') (xlR l k b ml (i + 1)) xs ∧ (∀ z ∈ zK kMl (.slice ra rn c) rs, z ∉ zK kBx (.slice xa' xn' xc') xs) ∧ ∀ z ∈ zK kBx (.slice xa' xn' xc') xs, z < w1.heap.size) := by
              obtain ⟨rs, xs', h1, h2, h3⟩ := (unhide HS1).st
              refine ⟨rs, xs', h1.bw b2, fun z hz => (h1.lt z hz).2, h2, ?_⟩
              rcases h3 with h3 | ⟨B, h3, h4⟩
              · exact Or.inl h3
              · exact Or.inr ⟨B, h3.bw b2, h4, fun z hz => (h3.lt z hz).2⟩
            obtain ⟨rs, xs', h1, h2, h3, h4⟩ := hstE
            have HE := hide (And.intro h1 (And.intro h2 (And.intro h3 h4)))
            have HMV := hide hmv
            have HB2 := hide b2
            have hsm : ∀ m ∈ (ml.take (i + 1)).drop r, SmM m := fun m hm => (unhide hF).sml m (List.mem_of_mem_take (List.mem_of_mem_drop hm))
            have HLn : Hid ((b.ml ++ ml.take r).length + ((ml.take (i + 1)).drop r).length ≤ 1073741824) := by
              have := (unhide hF).nb
              have := (unhide hF).nm
              apply hide
              rw [List.length_append, List.length_take, List.length_drop, List.length_take]
              omega
            have HSM := hide hsm
            have HW2 : Hid (z5.heap.size ≤ w2.heap.size) := Nat.le_trans (unhide HS1).bel.size b2.size
            clear KS2 hmv hmn hmn2 h1 h2 h3 h4 b2 hsm
            go_wp2_with (refine wpList_joinM (by first | rfl | simp [Region.wanted, yielded]) (.tmp 94) (.tmp 95) rfl z5.heap.size (.slice ra rn c) (.slice ma mn mc) (b.ml ++ ml.take r) ((ml.take (i + 1)).drop r) rs ms rfl rfl (unhide HE).1 ((unhide HMV).mls (unhide HSM)) (unhide HLn) (unhide HW2) ?_)
            intro rv' w3 HJ0
            obtain ⟨hrow, hg, hvv⟩ := unhide HJ0
            have hs3 := rds_join (unhide HS1) (unhide HB2) (unhide HMV) ⟨xs', (unhide HE).1, (unhide HE).2.2.1, (unhide HE).2.2.2⟩ (unhide HE).2.1 hrow hg hvv
            obtain ⟨ra', rc', hrv⟩ := own_slice hrow
            obtain ⟨rn', hrn⟩ : ∃ n, n = (b.ml ++ ml.take r).length + ((ml.take (i + 1)).drop r).length := ⟨_, rfl⟩
            rw [← hrn] at hrv
            subst hrv
            have HS3 := hide hs3
            clear hs3 hrow hg hvv HJ0 hrn HE HMV HB2 HSM HLn HW2 HS1
            go_wp2_with fail
            go_roundw
            case rel =>
              have eA := unhide HA
              have eM := unhide HMN
              exact ⟨i + 1, i + 1, _, A + mn, _, _, _, _, _, rfl, rfl, by first | rfl | (simp; done) | go_num, rfl, by go_num, by omega, by omega, unhide HS3, by omega⟩
            case measure => simp [intOf]; omega
        · obtain rfl : i = M := by omega
          have hlen := (unhide HC).2.2.2.2.2.1
          have KS2 := hide (rds_since (unhide HS).1 (unhide hF) (by rw [← hlen]; exact Nat.le_refl _) (n := (A : Int)) (by rw [(unhide HS).2, unhide HR]))
          have HLE := hide hlen
          clear hlen
          go_wp2_with fail
          refine (unhide KS2).mono ?_
          rintro e w2 ⟨mv, ms, rfl, b2, hmv⟩
          obtain ⟨ma, mc, hmv1⟩ := own_slice hmv.row
          obtain ⟨mn, hmn⟩ : ∃ mn, mn = ((ml.take i).drop r).length := ⟨_, rfl⟩
          rw [← hmn] at hmv1
          subst hmv1
          obtain ⟨rs, xs', h1, _, _⟩ := (unhide HS).1.st
          have h1b := h1.bw b2
          have hlt2 : ∀ z ∈ zK kMl (.slice ra rn c) rs, z < wr.heap.size := fun z hz => (h1.lt z hz).2
          have hsm : ∀ m ∈ (ml.take i).drop r, SmM m := fun m hm => (unhide hF).sml m (List.mem_of_mem_take (List.mem_of_mem_drop hm))
          have HLn : Hid ((b.ml ++ ml.take r).length + ((ml.take i).drop r).length ≤ 1073741824) := by
            have := (unhide hF).nb
            have := (unhide hF).nm
            apply hide
            rw [List.length_append, List.length_take, List.length_drop, List.length_take]
            omega
          have HE := hide (And.intro h1b (And.intro hlt2 (And.intro hmv (And.intro b2 hsm))))
          have HW2 : Hid (z5.heap.size ≤ w2.heap.size) := Nat.le_trans (unhide HS).1.bel.size b2.size
          have HSI := hide (And.intro (unhide HS).1.bel (And.intro (unhide HS).1.ri hri))
          clear KS2 hmv hmn h1 h1b hlt2 b2 hsm HS
          go_wp2_with (refine wpList_joinM (by first | rfl | simp [Region.wanted, yielded]) (.tmp 111) (.tmp 112) rfl z5.heap.size (.slice ra rn c) (.slice ma mn mc) (b.ml ++ ml.take r) ((ml.take i).drop r) rs ms rfl rfl (unhide HE).1 ((unhide HE).2.2.1.mls (unhide HE).2.2.2.2) (unhide HLn) (unhide HW2) ?_)
          intro rv' w3 HJ0
          obtain ⟨hrow, hg, hvv⟩ := unhide HJ0
          have hall : (b.ml ++ ml.take r) ++ (ml.take i).drop r = b.ml ++ ml := by
            have e := List.take_append_drop r (ml.take i)
            rw [List.take_take, Nat.min_eq_left (unhide HSI).2.1] at e
            rw [List.append_assoc, e, List.take_of_length_le (by rw [← unhide HLE]; exact Nat.le_refl _)]
          have hj : OwL kMl z5.heap.size w3 rv' (b.ml ++ ml) (rs ++ ms) := by
            rw [← hall]
            exact (unhide HE).1.join (unhide HE).2.2.1 (unhide HSI).1.size (fun z hz hq => by
              have := (unhide HE).2.1 z hz
              have := ((unhide HE).2.2.1.lt z hq).1
              omega) hrow hg hvv
          have b3 : Below z5.heap.size z5 w3 := Fr.toBase (bw_tr (unhide HSI).1 (unhide HE).2.2.2.1) (Fr.ofGrown hg) (fun z hz => (World.ownsRow.lt (unhide HE).1.row z (by simpa using hz)).1)
          have hsA : ∀ m ∈ b.ml ++ ml, SmM m := fun m hm => by
            rcases List.mem_append.1 hm with q | q
            · exact ((unhide HBT).2 m q).s
            · exact (unhide hF).sml m q
          have hrd := hj.mls hsA
          obtain ⟨ra', rc', hrv⟩ := own_slice hrow
          obtain ⟨rn', hrn⟩ : ∃ n, n = (b.ml ++ ml.take r).length + ((ml.take i).drop r).length := ⟨_, rfl⟩
          rw [← hrn] at hrv
          subst hrv
          have HJ := hide (And.intro hrd (And.intro b3 hsA))
          have KT3 := hide (unhide KT w3 b3)
          clear hrow hg hvv HJ0 hall hj b3 hsA hrd hrn HE HLn HW2 HSI
          go_wp2_with fail
          refine (unhide KT3).mono ?_
          rintro e w4 ⟨us2, rfl, ho4, b4⟩
          have bW3 : Below W.heap.size W w3 := bw_tr (unhide HB5).1 (unhide HJ).2.1
          have hm3 : RdL kMl w3 (.slice a2 i cap2) ml ys := (unhide HM).bw bW3
          have HL4 : Hid (b.ml.length + ml.length ≤ 1073741824) := by
            have := (unhide hF).nb
            have := (unhide hF).nm
            show b.ml.length + ml.length ≤ _
            omega
          have HO4 := hide (And.intro ho4 (And.intro (hm3.bw b4) (And.intro hm3 (And.intro b4 bW3))))
          clear ho4 b4 hm3 bW3 KT3
          go_wp2_with (refine wpList_joinM (by first | rfl | simp [Region.wanted, yielded]) (.tmp 115) (.tmp 116) rfl w3.heap.size (.slice (some ⟨w3.heap.size, 0, none⟩) R (R + 2)) (.slice a2 i cap2) b.ml ml us2 ys rfl rfl (unhide HO4).1 (unhide HO4).2.1 (unhide HL4) (unhide HO4).2.2.2.1.size ?_)
          intro tv w5 HJ0
          obtain ⟨hrow, hg, hvv⟩ := unhide HJ0
          have h5 := (unhide HO4).1.joinR (w4 := w5) (fun j m x hm hx ho => ⟨OM.rd ho ((unhide HBT).2 m (List.mem_of_getElem? hm)).s, ((unhide HBT).2 m (List.mem_of_getElem? hm)).s⟩) (unhide HO4).2.2.1 (unhide HO4).2.2.2.1 hrow hg
          have KSM := hide (sameMails_any ((unhide HJ).1.bw h5.2) h5.1 (by have := unhide HL4; rw [List.length_append]; omega))
          obtain ⟨ta, tc, htv⟩ := own_slice hrow
          obtain ⟨tn, htn⟩ : ∃ n, n = b.ml.length + ml.length := ⟨_, rfl⟩
          rw [← htn] at htv
          subst htv
          have HB5' : Hid (Below W.heap.size W w5) := bw_tr (unhide HO4).2.2.2.2 h5.2
          clear hrow hg hvv HJ0 h5 htn HO4 HL4 HJ
          go_wp2_with fail
          refine (unhide KSM).mono ?_
          rintro e w6 ⟨rfl, b6⟩
          have KA6 := hide (unhide KA w6)
          have HB6' := hide (bw_tr (unhide HB5') b6)
          clear KSM b6 HB5'
          go_wp2_with fail
          refine (unhide KA6).mono ?_
          rintro e w7 ⟨rfl, b7⟩
          have HB7 := hide (bw_tr (unhide HB6') b7)
          clear b7 HB6' KA6
          go_wp2_with fail
          go_ret
          exact ⟨rfl, unhide HB7⟩
    · have HB5'' := hide (unhide HB5).1
      clear KH hh b5 HB5 HB4 HTw HM HRx HC HB3
      have hcond : er ≠ 0 ∨ th = false ∨ ou = true := by
        rcases Decidable.em (er = 0) with q | q
        · cases th with
          | false => exact Or.inr (Or.inl rfl)
          | true => cases ou with
            | false => exact absurd ⟨q, rfl, rfl⟩ hok
            | true => exact Or.inr (Or.inr rfl)
        · exact Or.inl q
      clear hok
      rcases Decidable.em (er = 0) with q | q
      · subst q
        cases th with
        | false =>
          clear hcond
          go_wp2_with fail
          refine (unhide KA5).mono ?_
          rintro e z6 ⟨rfl, b6⟩
          have HB6 := hide (bw_tr (unhide HB5'') b6)
          clear b6
          go_wp2_with fail
          go_ret
          exact ⟨rfl, unhide HB6⟩
        | true => cases ou with
          | false => simp at hcond
          | true =>
            clear hcond
            go_wp2_with fail
            refine (unhide KA5).mono ?_
            rintro e z6 ⟨rfl, b6⟩
            have HB6 := hide (bw_tr (unhide HB5'') b6)
            clear b6
            go_wp2_with fail
            go_ret
            exact ⟨rfl, unhide HB6⟩
      · clear hcond
        have q5 : decide (er = 0) = false := decide_eq_false q
        go_wp2_with fail
        refine (unhide KA5).mono ?_
        rintro e z6 ⟨rfl, b6⟩
        have HB6 := hide (bw_tr (unhide HB5'') b6)
        clear b6
        go_wp2_with fail
        go_ret
        exact ⟨rfl, unhide HB6⟩
end Go.Proofs.Ytnimdnoemmodaaa

/- PostReads: for all boxes, every device's number, all mails and all cuts the law answers true: who reads its mail bit by bit, and goes on from where it was, has read all that was put, each once, in order. No condition (the law itself claims nothing of more than 262144 values). -/
namespace Go.Proofs.Ytnimdnoemmodaaa
open Go.ChangeShapes Go.WideShapes Go.ChangeAt Go.RowKit Go.Joins Go.Deep Go.Maps
set_option maxRecDepth 100000 in
theorem PostReads_lifted (os : Os) (started : os.Started) (H : Type) (enc : TypeId × Value → H) :
    ReturnsInHanded {} Try.checked os 3 .any (Rows.postReadsSpec.pre6 enc Try.prog Try.f3 Rows.postReadsRow.domain false) (Rows.postReadsSpec.post enc Try.prog Try.f3 false true false false) := by
  refine returnsInHanded_of_change_sized (C := Try.checked) own started (by kernel_rfl) Try.func3
    (ChangeSpec.witness6 (enc := enc) (C := Try.checked) false ⟨#[], #[.slice none 0 0, .int .i64 0, .slice none 0 0, .slice none 0 0], []⟩ 8 (by kernel_rfl) (by kernel_rfl) (by kernel_rfl) (by kernel_rfl)) ?_
  intro W base args ds gs before hval0 hW hcnd hsz0 _
  have hval : ∀ (j : Nat) t v, Try.f3.params[j]? = some t → args[j]? = some v → Value.okWide Try.prog W .any base t v := hval0
  have hsz : (DataW.weightsEach Try.prog (Try.f3.params.toList ++ Rows.postReadsSpec.plain.varTypes Try.prog) (ds ++ gs)).all (· ≤ reachBytes) = true := hsz0
  have hW' := hW
  obtain ⟨p, q, hA0, hV, rfl, hfz, hnd⟩ := hW
  have hA : DataW.TrodAll enc Try.prog W 0 (fun _ => true) true Try.f3.params.toList args.toList ds p := hA0
  rw [Try.params3] at hA hval hsz
  obtain ⟨v0, vs0, d0, ds0, p0, q0, hargs, rfl, rfl, h0, r0⟩ := trodAll_cons hA
  obtain ⟨v1, vs1, d1, ds1, p1, q1, rfl, rfl, rfl, h1, r1⟩ := trodAll_cons r0
  obtain ⟨v2, vs2, d2, ds2, p2, q2, rfl, rfl, rfl, h2, r2⟩ := trodAll_cons r1
  obtain ⟨v3, vs3, d3, ds3, p3, q3, rfl, rfl, rfl, h3, r3⟩ := trodAll_cons r2
  obtain ⟨rfl, rfl, rfl⟩ := trodAll_nil r3
  obtain rfl : args = #[v0, v1, v2, v3] := by cases args; simp_all
  obtain ⟨rfl, rfl⟩ := trodVars_none hV
  have k0 := h0
  have lt0 : ∀ x ∈ p0, x.block < W.heap.size := by obtain ⟨m, hm⟩ := k0; exact DataW.trod_lt m _ _ _ hm
  obtain ⟨ad0, len0, cap0, rfl⟩ := okWide_slice Try.underlying22 (hval 0 22 v0 rfl rfl)
  obtain ⟨fu0, hf0⟩ := h0
  have hg0 : DataW.trod enc Try.prog W 0 (fun _ => true) true fu0 22 [.slice ad0 len0 cap0] = some (d0, p0) := by simpa [Value.cells] using hf0
  obtain ⟨l0, y0, n0, m0⟩ := open_boxesT hg0 (fun n hn => by simpa using List.all_eq_true.1 hsz n (DataW.weights_mem_each (j := 0) (t := 22) rfl rfl n hn))
  obtain ⟨a1, rfl, rfl, rfl, w1⟩ := open_int Try.underlying3 (hval 1 3 v1 rfl rfl) h1
  have k2 := h2
  have lt2 : ∀ x ∈ p2, x.block < W.heap.size := by obtain ⟨m, hm⟩ := k2; exact DataW.trod_lt m _ _ _ hm
  obtain ⟨ad2, len2, cap2, rfl⟩ := okWide_slice Try.underlying23 (hval 2 23 v2 rfl rfl)
  obtain ⟨fu2, hf2⟩ := h2
  have hg2 : DataW.trod enc Try.prog W 0 (fun _ => true) true fu2 23 [.slice ad2 len2 cap2] = some (d2, p2) := by simpa [Value.cells] using hf2
  obtain ⟨l2, y2, n2⟩ := open_mailsT hg2 (fun n hn => by simpa using List.all_eq_true.1 hsz n (DataW.weights_mem_each (j := 2) (t := 23) rfl rfl n hn))
  have k3 := h3
  have lt3 : ∀ x ∈ p3, x.block < W.heap.size := by obtain ⟨m, hm⟩ := k3; exact DataW.trod_lt m _ _ _ hm
  obtain ⟨ad3, len3, cap3, rfl⟩ := okWide_slice Try.underlying24 (hval 3 24 v3 rfl rfl)
  obtain ⟨fu3, hf3⟩ := h3
  have hg3 : DataW.trod enc Try.prog W 0 (fun _ => true) true fu3 24 [.slice ad3 len3 cap3] = some (d3, p3) := by simpa [Value.cells] using hf3
  obtain ⟨l3, n3, nl3⟩ := open_numsT hg3 (fun n hn => by simpa using List.all_eq_true.1 hsz n (DataW.weights_mem_each (j := 3) (t := 24) rfl rfl n hn))
  clear hA0 hval0
  refine (PostReads_walk W _ l0 y0 n0 m0 a1 _ l2 y2 n2 _ l3 n3 nl3).mono fun e W' ⟨he, bel⟩ => ?_
  subst he
  exact ⟨_, rfl, _, _, _, [], _, [], hW', trodAll_mk1 (shut_bool Try.underlying4 _), (trodAll_cons_mk (Below.trod laidOut (by kernel_rfl) (of_decide_eq_true (by kernel_rfl)) k0 bel lt0) (trodAll_cons_mk (shut_int Try.underlying3 w1) (trodAll_cons_mk (Below.trod laidOut (by kernel_rfl) (of_decide_eq_true (by kernel_rfl)) k2 bel lt2) (trodAll_cons_mk (Below.trod laidOut (by kernel_rfl) (of_decide_eq_true (by kernel_rfl)) k3 bel lt3) trodAll_mk0)))), rfl, bel.frame _, fun h => by cases h⟩
theorem PostReads_over : Rows.postReadsRow.holds Try.pinned (OpenSpec.ofChange Rows.postReadsSpec) :=
  OpenClaim.holds_of_wide 3 Try.f3 rfl rfl rfl rfl rfl rfl rfl ⟨rfl, rfl, rfl, rfl, rfl⟩ rfl rfl rfl rfl rfl (by kernel_rfl) Try.func3 (by kernel_rfl)
    (of_decide_eq_true (by kernel_rfl)) (by unfold Func.isWrapper; first | (rw [if_pos (by decide +kernel)]; kernel_rfl) | (rw [if_neg (by decide +kernel)]; exact ⟨rfl, rfl⟩))
    (fun os started H enc _ => PostReads_lifted os started H enc)
theorem PostReads_holds : Rows.PostReadsSaid := PostReads_over
#print axioms PostReads_holds
end Go.Proofs.Ytnimdnoemmodaaa
