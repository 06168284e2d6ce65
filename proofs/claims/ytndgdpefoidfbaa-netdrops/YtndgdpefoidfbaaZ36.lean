/- Texts joined: NeT NeLawDrops NetDrops. -/
import Derived.Test.YtndgdpefoidfbaaZ35
import Derived.Test.YtndgdpefoidfbaaQuSm
import Derived.Deep.RegionLaw
import Derived.Test.YtndgdpefoidfbaaZ31
/- What is sent without one of it, put together anew; what All tells stands beside it. No walk is in this text. -/
namespace Go.Proofs.Ytndgdpefoidfbaa
open Go.RowKit Go.Maps
theorem step_appG {P : Program} {ops : Array Oper} {o : Oper} {a : Act} {w : World} {K : Act → World → Prop} {Q : Exit → Act → World → Prop} {E : Prop}
    (hw : Region.wanted o (yielded ops a.tmps) = true) (s x : Operand) (t : TypeId) (hop : o.op = Op.call { callee := Callee.builtin Builtin.append, args := #[s, x], argTypes := #[t, t] })
    (base : Nat) (e : TypeId) (i : TypeInfo) (z : Value) (size bytes : Nat) (ht : P.underlying t = some (.slice e)) (hi : P.info? e = some i) (hz : i.zero = some z)
    (hsize : i.size = size) (hby : i.bytes = bytes) (hzs : z.cells.size = size) (hsz : 0 < size)
    (v : Value) (n : Nat) (xs : List Value) (hs : a.eval s = v) (hown : w.ownsRow base e size v n xs)
    (ad : Addr) (m c : Nat) (news : List Value) (hx : a.eval x = .slice (some ad) m c) (hl : news.length = m * size) (hnews : ∀ j u, news[j]? = some u → w.cell? (ad.add j) = some u) (h1 : ∀ u ∈ news, u.oneCell' = true)
    (h63 : n + m ≤ maxLen) (hbytes : (n + m) * bytes ≤ 140737488355328) (hbase : base ≤ w.heap.size)
    (hK : ∀ v' w', w'.ownsRow base e size v' (n + m) (xs ++ news) → w.grownBy w' v.ownBlock → (v'.ownBlock = v.ownBlock ∨ v'.ownBlock = some w.heap.size) → K (a.put o.dst v') w') :
    if Region.wanted o (yielded ops a.tmps) = true then Oper.wp P o a w K Q else E := by
  rw [if_pos hw]
  obtain ⟨v', w', hr, h2, h3, _, h5⟩ := run_append_own_at (P := P) w base t o.type e i z size bytes ht hi hz hsize hby hzs hsz v n xs hown ad m c news hl hnews h1 h63 hbytes hbase
  unfold Oper.wp
  simp [execOp, hop, resolve, invoke, builtin, hs, hx, hr, Result.andThen]
  exact hK v' w' h2 h3 h5
theorem own_mt {B b : Nat} {w : World} {t : TypeId} (h : w.heap[b]? = some (.cells #[] t (0, 0))) (hB : B ≤ b) : w.ownsRow B t 57 (.slice (some ⟨b, 0, none⟩) 0 0) 0 [] :=
  ⟨rfl, Or.inr ⟨b, 0, #[], rfl, hB, h, Nat.le_refl _, by unfold maxLen; omega, by simp, by simp⟩⟩
structure Mk (B : Nat) (w6 W : World) (va v : Value) (A : List Pt) (n : Nat) (cs : List Value) : Prop where
  keep : ∀ k, k < w6.heap.size → W.heap[k]? = w6.heap[k]?
  size : w6.heap.size ≤ W.heap.size
  fr : Fr [] w6 W
  all : ∃ xs, OwL kPk w6.heap.size W va A xs ∧ ∀ k ∈ zK kPk va xs, v.ownBlock ≠ some k
  row : W.ownsRow w6.heap.size 44 57 v n cs
theorem Mk.startB {B : Nat} {w6 w2 : World} {va : Value} {A : List Pt} {xs : List Fx} (ho : OwL kPk w6.heap.size w2 va A xs) (hb : Below w6.heap.size w6 w2) : Mk B w6 (w2.alloc (.cells #[] 44)) va (.slice (some ⟨w2.heap.size, 0, none⟩) 0 0) A 0 [] := by
  have hb2 := bw_tr hb (bwA w2 (.cells #[] 44))
  refine ⟨fun k hk => hb2.block k hk, hb2.size, (Fr.refl [] w6).below hb2, ⟨xs, ho.bw (bwA _ _), fun k hk c => ?_⟩, own_mt (heap_alloc_new _ _) hb.size⟩
  simp only [Value.ownBlock, Option.some.injEq] at c
  have := (ho.lt k hk).2
  omega
theorem Mk.startA {B : Nat} {w6 w2 : World} {va : Value} {A : List Pt} {xs : List Fx} (ho : OwL kPk (w6.alloc (.cells #[] 44)).heap.size w2 va A xs) (hb0 : Below (w6.alloc (.cells #[] 44)).heap.size (w6.alloc (.cells #[] 44)) w2) : Mk B w6 w2 va (.slice (some ⟨w6.heap.size, 0, none⟩) 0 0) A 0 [] := by
  have hs : (w6.alloc (.cells #[] 44)).heap.size = w6.heap.size + 1 := by simp
  have k1 := heap_alloc_new w6 (.cells #[] 44)
  have k2 : w2.heap[w6.heap.size]? = some (.cells #[] 44 (0, 0)) := by rw [hb0.block _ (by omega)]; exact k1
  have hb2 := bw_tr (bwA w6 (.cells #[] 44)) hb0
  refine ⟨fun k hk => hb2.block k hk, hb2.size, (Fr.refl [] w6).below hb2, ⟨xs, ho.mono (by rw [hs]; omega), fun k hk c => ?_⟩, own_mt k2 (Nat.le_refl _)⟩
  simp only [Value.ownBlock, Option.some.injEq] at c
  have := (ho.lt k hk).1
  omega
theorem Mk.more {B : Nat} {w6 W W' : World} {va v v' : Value} {A : List Pt} {n n' : Nat} {cs cs' : List Value} (h : Mk B w6 W va v A n cs) (hown : W'.ownsRow w6.heap.size 44 57 v' n' cs') (hg : W.grownBy W' v.ownBlock) (hv : v'.ownBlock = v.ownBlock ∨ v'.ownBlock = some W.heap.size) : Mk B w6 W' va v' A n' cs' := by
  have hf := Fr.ofGrown hg
  have hk : ∀ k, k < w6.heap.size → W'.heap[k]? = W.heap[k]? := fun k hk => by
    refine hg.block k (Nat.lt_of_lt_of_le hk h.size) (fun c => ?_)
    have := (World.ownsRow.lt h.row k c.symm).1
    omega
  obtain ⟨xs, ho, ha⟩ := h.all
  refine ⟨fun k hk2 => (hk k hk2).trans (h.keep k hk2), Nat.le_trans h.size hg.size, ⟨hg.os.trans h.fr.os, hg.tape.trans h.fr.tape, hg.output.trans h.fr.output, Nat.le_trans h.size hg.size, fun k hk2 _ => (hk k hk2).trans (h.keep k hk2)⟩, ⟨xs, ho.keep (fun k hk2 => hg.block k (ho.lt k hk2).2 (fun c => ha k hk2 c.symm)), fun k hk2 c => ?_⟩, hown⟩
  rcases hv with e | e
  · rw [e] at c; exact ha k hk2 c
  · rw [e] at c
    simp only [Option.some.injEq] at c
    have := (ho.lt k hk2).2
    omega
theorem Mk.bel {B : Nat} {w6 W : World} {va v : Value} {A : List Pt} {n : Nat} {cs : List Value} (h : Mk B w6 W va v A n cs) : Below w6.heap.size w6 W := ⟨h.fr.os, h.fr.tape, h.fr.output, h.size, fun k hk => h.keep k hk⟩
theorem cellK_take {α ξ : Type} {K : EK α ξ} {l : List α} {xs : List ξ} (hx : xs.length = l.length) (k : Nat) (hk : k ≤ l.length) : (cellK K l xs).take (k * K.c) = cellK K (l.take k) (xs.take k) := by
  have e : cellK K l xs = cellK K (l.take k) (xs.take k) ++ cellK K (l.drop k) (xs.drop k) := by
    unfold cellK rowsK
    rw [← List.flatten_append, ← List.zipWith_append (by simp [hx]), List.take_append_drop, List.take_append_drop]
  rw [e, List.take_left' (by rw [cellK_len (K := K) (by simp [hx]), List.length_take]; rw [Nat.min_eq_left hk])]
theorem cellK_join {α ξ : Type} {K : EK α ξ} {l m : List α} {xs ys : List ξ} (hx : xs.length = l.length) : cellK K l xs ++ cellK K m ys = cellK K (l ++ m) (xs ++ ys) := by
  unfold cellK rowsK
  rw [List.zipWith_append hx.symm, List.flatten_append]
theorem Mk.fin {V w6 W : World} {nb k : Nat} {gv va v : Value} {P : List Py} {sv : Value} {L : List Pt} {ys : List Fx} {A : List Pt} {n : Nat} (hd : DrS V w6 nb gv P sv L ys) (h : Mk V.heap.size w6 W va v A n ((cellK kPk L ys).take (k * 57) ++ (cellK kPk L ys).drop ((k + 1) * 57))) (hk : k < L.length) (hn : n = L.length - 1) (hA : A = L.eraseIdx k) (hs : ∀ p ∈ L, SmF p.fd) :
    ∃ xs zs, RdL kPk W va (L.eraseIdx k) xs ∧ RdL kPk W v (L.eraseIdx k) zs := by
  obtain ⟨xs, ho, _⟩ := h.all
  have e1 : (cellK kPk L ys).take (k * 57) ++ (cellK kPk L ys).drop ((k + 1) * 57) = cellK kPk (L.eraseIdx k) (ys.eraseIdx k) := by
    have a1 := cellK_take (K := kPk) hd.xl k (by omega)
    have a2 : (cellK kPk L ys).drop ((k + 1) * 57) = cellK kPk (L.drop (k + 1)) (ys.drop (k + 1)) := cellK_drop (K := kPk) hd.xl (by omega)
    change (cellK kPk L ys).take (k * 57) = _ at a1
    rw [a1, a2, cellK_join (by simp [hd.xl]), List.eraseIdx_eq_take_drop_succ, List.eraseIdx_eq_take_drop_succ]
  have hrow := h.row
  rw [e1] at hrow
  have hel : (L.eraseIdx k).length = n := by rw [List.length_eraseIdx_of_lt hk, hn]
  refine ⟨xs, ys.eraseIdx k, ?_, ?_⟩
  · rw [← hA]
    refine OwL.rd ho (fun i a x ha _ hoo => ?_)
    have : a ∈ L := List.mem_of_mem_eraseIdx (by rw [← hA]; exact List.mem_of_getElem? ha)
    exact ⟨OF.rd hoo (hs a this), hs a this⟩
  · have hxl : (ys.eraseIdx k).length = (L.eraseIdx k).length := by rw [List.length_eraseIdx_of_lt (by rw [hd.xl]; exact hk), List.length_eraseIdx_of_lt hk, hd.xl]
    refine ⟨hxl, fun i a x ha hx => ?_, ?_⟩
    · have hr : ∀ (i : Nat) a x, L[i]? = some a → ys[i]? = some x → FdR V a.fd x ∧ SmF a.fd := hd.rd
      have : ∃ j : Nat, L[j]? = some a ∧ ys[j]? = some x := by
        rw [List.getElem?_eraseIdx] at ha hx
        split at ha
        · rename_i c; rw [if_pos c] at hx; exact ⟨i, ha, hx⟩
        · rename_i c; rw [if_neg c] at hx; exact ⟨i + 1, ha, hx⟩
      obtain ⟨j, j1, j2⟩ := this
      exact ⟨(hr j a x j1 j2).1.bw (hd.k.bel.trans (bw_mono h.bel hd.k.bel.size)), (hr j a x j1 j2).2⟩
    · obtain ⟨ad, cap, hv⟩ := own_slice hrow
      refine ⟨ad, cap, by rw [hel]; exact hv, ?_⟩
      rcases Nat.eq_zero_or_pos n with h0 | h0
      · exact Or.inl (List.eq_nil_of_length_eq_zero (by rw [hel]; exact h0))
      · obtain ⟨g, cap', hv', hg, hc, _⟩ := own_open hrow h0
        rw [hv] at hv'
        cases hv'
        refine Or.inr ⟨g, 0, rfl, fun j u hj => ?_⟩
        rw [Nat.zero_add]
        exact own_cell hrow (by rw [hv]; rfl) hj
end Go.Proofs.Ytndgdpefoidfbaa

/- NetDrops: the walk. -/
namespace Go.Proofs.Ytndgdpefoidfbaa
open Go.RowKit Go.Maps
set_option maxRecDepth 100000 in
set_option maxHeartbeats 1000000 in
theorem drops_any {w : World} {v : Value} {l : List Pt} {xs : List Fx} (h : RdL kPw w v l xs) (hl : l.length ≤ 140737488355328) (at_ : Int) :
    Calls Try.prog 6 #[v, .int .i64 at_] w fun e w' => e = .returned (.bool true) ∧ Below w.heap.size w w' := by
  have KZ := hide (psize_any h hl)
  have KAL : Hid (∀ V2, Calls Try.prog 10 #[] V2 fun e w' => e = .returned (.bool true) ∧ Below V2.heap.size V2 w') := fun V2 => alive18_any V2
  obtain ⟨j0, hj, hy0, hy1, hyb⟩ := info_parts infoPkZ
  have HJ := hide (And.intro hj (And.intro hy0 (And.intro hy1 hyb)))
  obtain ⟨a, cap, rfl⟩ := rdl_slice h
  have HEL : Hid (∀ (W : World) (i : Nat), Below w.heap.size w W → i < l.length → ∃ (p : Pt) (y : Fx) (g o : Nat), a = some ⟨g, o, none⟩ ∧ l[i]? = some p ∧ FdR W p.fd y ∧ fdB p.fd ∧ W.rangeAt g (o + i * 57) (ptC p y)) := fun W i hW hi => by
    obtain ⟨p, y, g, o, e1, e2, _, e3, e4⟩ := rdl_at (h.bw hW) hi
    exact ⟨p, y, g, o, e1, e2, e3.1, e3.2, e4⟩
  have HSMA : Hid (ptsN l ≤ 262144 → ∀ (i : Nat) p, l[i]? = some p → SmF p.fd) := fun q i p hp => by
    obtain ⟨x, hx⟩ : ∃ x, xs[i]? = some x := ⟨_, List.getElem?_eq_getElem (by rw [h.xl]; exact (List.getElem?_eq_some_iff.1 hp).1)⟩
    exact smF_of (h.el i p x hp hx) (Nat.le_trans (ptsN_mem (List.mem_of_getElem? hp)) (by omega))
  obtain ⟨N, hN⟩ : ∃ N, N = l.length := ⟨_, rfl⟩
  rw [← hN] at HEL hl KZ ⊢
  have hNI : (N : Int) ≤ 140737488355328 := by omega
  have HN := hide hN
  clear h hN hj hy0 hy1 hyb hl
  go_enter Try.func6, Try.ntmps6
  go_wp2_with fail
  refine (unhide KZ).mono ?_
  rintro e w1 ⟨n, rfl, hn, hm, b1⟩
  have HB1 := hide b1
  have HM := hide hm
  clear KZ hm b1
  go_wp2_with fail
  refine (beyond17a w1.heap.size n 1 _ (by omega) (blk_c (heap_alloc_new _ _) rfl)).mono ?_
  rintro e w2 ⟨rfl, rfl⟩
  generalize hV : World.alloc w1 _ = V
  have HV : Hid (Below w.heap.size w V) := by rw [← hV]; exact bw_tr (unhide HB1) (bwA _ _)
  clear hV HB1
  by_cases hz : 262144 < n
  · rw [decide_eq_true hz]
    clear HEL HSMA KAL
    go_wp2_with fail
    go_ret
    exact ⟨rfl, unhide HV⟩
  rw [decide_eq_false hz]
  by_cases h5 : 500 < N
  · have h5I : (500 : Int) < (N : Int) := by omega
    clear HEL HSMA KAL
    go_wp2_with fail
    go_ret
    exact ⟨rfl, unhide HV⟩
  have h5I : (N : Int) ≤ 500 := by omega
  have HSM : Hid (∀ (i : Nat) p, l[i]? = some p → SmF p.fd) := unhide HSMA (by have := unhide HM (by omega); have := unhide HN; omega)
  clear hz hn HM HSMA
  go_wp2_with fail
  refine (neNew_any V).mono ?_
  rintro e w5 ⟨rfl, b5, hs5⟩
  have HS0 : Hid (∃ gv P L ys, DrS V w5 V.heap.size gv P (.slice none 0 0) L ys ∧ L.length = 0 ∧ P.map (·.p) = L ∧ P.length ≤ 0 ∧ ∀ q ∈ P, SmF q.p.fd) :=
    ⟨_, [], [], [], DrS.start (NetK.start (hs5 _ (Nat.le_refl _)) b5), rfl, rfl, Nat.le_refl _, fun q hq => by cases hq⟩
  clear hs5 b5
  go_wp2_with fail
  go_loopw [6, 7] (fun sv iv wr => ∃ (i m : Nat) (sa : Option Addr) (sc : Nat), i ≤ N ∧ m ≤ i ∧ iv = .int .i64 (i : Int) ∧ sv = .slice sa m sc ∧ Hid (∃ gv P L ys, DrS V wr V.heap.size gv P (.slice sa m sc) L ys ∧ L.length = m ∧ P.map (·.p) = L ∧ P.length ≤ i ∧ ∀ q ∈ P, SmF q.p.fd)) (fun _ iv _ => (N - intOf iv).toNat)
  case atStart => exact ⟨0, 0, none, 0, Nat.zero_le _, Nat.le_refl _, rfl, rfl, HS0⟩
  case round =>
    clear HS0
    obtain ⟨i, m, sa, sc, hi, hmi, rfl, rfl, HS⟩ := hrel
    obtain ⟨gv, P, L, ys, h, hL, hP, hPl, hPs⟩ := unhide HS
    have H := hide h
    have HLL := hide (And.intro hL (And.intro hP (And.intro hPl hPs)))
    have hbw := bw_tr (unhide HV) h.k.bel
    by_cases hlt : i < N
    · have hiI : (i : Int) < (N : Int) := by omega
      have hi0 : (0 : Int) ≤ (i : Int) := by omega
      obtain ⟨p, y, g, o, rfl, hp, hR, hB, hrg⟩ := unhide HEL wr i hbw hlt
      have hsm := unhide HSM i p hp
      have KS := hide (dsend_any h hR hsm (by omega))
      obtain ⟨CL, hCL⟩ : ∃ z, z = ptC p y := ⟨_, rfl⟩
      rw [← hCL] at KS hrg
      have HRG := hide hrg
      have HI : Hid ((Try.prog.info? 44).map (·.size) = some CL.length) := by rw [hCL]; exact infoPkS
      have HPP := hide (And.intro hp (And.intro hsm (And.intro hCL hlt)))
      clear HS h hL hP hPl hPs hbw hp hR hB hsm hCL hrg
      go_wp2_with (refine wpList_load_mid rfl 44 (.tmp 30) rfl g (o + i * 57) (by simp [Act.eval]) CL _ (unhide HRG) Try.underlying44 rfl (unhide HI) ?_)
      refine (unhide KS).mono ?_
      rintro e w6 ⟨er, rfl, hcase⟩
      clear KS HRG
      rcases hcase with ⟨rfl, HC⟩ | ⟨rfl, HC⟩
      · have HX : Hid (∃ gv P L ys, DrS V w6 V.heap.size gv P (.slice sa m sc) L ys ∧ L.length = m ∧ P.map (·.p) = L ∧ P.length ≤ i + 1 ∧ ∀ q ∈ P, SmF q.p.fd) := by
          obtain ⟨_, gv', h'⟩ := unhide HC
          obtain ⟨q1, q2, q3, q4⟩ := unhide HLL
          exact ⟨gv', P, L, ys, h', q1, q2, by omega, q4⟩
        clear HC HLL H HPP HI
        go_wp2_with fail
        go_roundw
        case rel => exact ⟨i + 1, m, sa, sc, by omega, by omega, by go_num, rfl, HX⟩
        case measure => simp only [intOf]; omega
      · obtain ⟨_, gv', q', hqp, h'⟩ := unhide HC
        have hbw6 := bw_tr (unhide HV) h'.k.bel
        obtain ⟨p2, y2, g2, o2, hg2, hp2, hR2, hB2, hrg2⟩ := unhide HEL w6 i hbw6 (unhide HPP).2.2.2
        obtain rfl : p2 = p := by have := (unhide HPP).1; rw [hp2] at this; simpa using this
        simp only [Option.some.injEq, Addr.mk.injEq, and_true] at hg2
        obtain ⟨rfl, rfl⟩ := hg2
        obtain ⟨C2, hC2⟩ : ∃ z, z = ptC p2 y2 := ⟨_, rfl⟩
        rw [← hC2] at hrg2
        have HRG2 := hide hrg2
        have hcl : C2.length = 57 := by rw [hC2]; rfl
        have HI2 : Hid ((Try.prog.info? 44).map (·.size) = some C2.length) := by rw [hcl]; exact infoPkS
        have HONE : Hid (∀ u ∈ C2, u.oneCell' = true) := by rw [hC2]; exact pt_one hR2
        have hrow : w6.ownsRow V.heap.size 44 57 (.slice sa m sc) m (cellK kPk L ys) := by have := h'.row; rw [(unhide HLL).1] at this; exact this
        have hBw : V.heap.size ≤ w6.heap.size := h'.k.bel.size
        -- the packet reads in the world ahead of the net
        obtain ⟨p3, y3, g3, o3, hg3, hp3, hR3, _, hrg3⟩ := unhide HEL V i (unhide HV) (unhide HPP).2.2.2
        obtain rfl : p3 = p2 := by rw [hp2] at hp3; simpa using hp3.symm
        simp only [Option.some.injEq, Addr.mk.injEq, and_true] at hg3
        obtain ⟨rfl, rfl⟩ := hg3
        have hyy : ptC p3 y3 = C2 := by
          apply List.ext_getElem?
          intro j
          by_cases hj : j < 57
          · obtain ⟨u, hu⟩ : ∃ u, (ptC p3 y3)[j]? = some u := ⟨_, List.getElem?_eq_getElem (by rw [ptC_len]; exact hj)⟩
            obtain ⟨u2, hu2⟩ : ∃ u, C2[j]? = some u := ⟨_, List.getElem?_eq_getElem (by rw [hcl]; exact hj)⟩
            have c1 := hrg3 j u hu
            have c2 := hrg2 j u2 hu2
            rw [h'.k.bel.cell (lt_of_cell c1), c1] at c2
            rw [hu, hu2]; exact c2
          · rw [List.getElem?_eq_none (by rw [ptC_len]; omega), List.getElem?_eq_none (by rw [hcl]; omega)]
        have HD := hide (And.intro h' (And.intro hqp (And.intro hR3 hyy)))
        have HROW := hide (And.intro hrow hBw)
        have h57 : C2.length = 1 * 57 := by omega
        clear HC hqp h' hbw6 hp2 hR2 hB2 hC2 hrg2 hrow hBw hp3 hR3 hyy hrg3 H HI
        go_wp2_with (first
          | refine wpList_load_mid rfl 44 (.tmp 37) rfl _ _ (by simp [Act.eval]) C2 _ (unhide HRG2) Try.underlying44 rfl (unhide HI2) ?_
          | refine wpList_buildW rfl 62 44 (.tmp 38) rfl C2 rfl j0 (.agg pt0) Try.underlying62 (unhide HJ).1 (unhide HJ).2.1 (by rw [hcl]; exact (unhide HJ).2.2.1) (by rw [hcl]; decide) (by rw [hcl]; decide) (some 39) rfl ?_
          | (at_builtin; refine wpList_append_own_at _ rfl (.tmp 34) (.tmp 39) 62 rfl V.heap.size 44 j0 (.agg pt0) 57 632 Try.underlying62 (unhide HJ).1 (unhide HJ).2.1 (unhide HJ).2.2.1 (unhide HJ).2.2.2 rfl (by decide) _ m _ rfl (World.ownsRow.alloc (unhide HROW).1 _) ⟨w6.heap.size, 0, none⟩ 1 1 C2 rfl h57 (cells_newM w6 C2 44) (unhide HONE) (by unfold maxLen; omega) (by omega) (by have := (unhide HROW).2; simp; omega) ?_; intro v' W hown hgrow _ hpl))
        have HX : Hid (∃ gv P L ys, DrS V W V.heap.size gv P v' L ys ∧ L.length = m + 1 ∧ P.map (·.p) = L ∧ P.length ≤ i + 1 ∧ ∀ q ∈ P, SmF q.p.fd) := by
          obtain ⟨h', hqp, hR3, hyy⟩ := unhide HD
          obtain ⟨q1, q2, q3, q4⟩ := unhide HLL
          rw [← hyy, ← q1] at hown
          have hm := h'.more ⟨hR3, (unhide HPP).2.1⟩ hown hgrow (hpl.imp id (fun q => q.trans (by simp)))
          refine ⟨gv', P ++ [q'], L ++ [p3], _, hm, by rw [List.length_append, q1]; rfl, by rw [List.map_append, q2]; simp [hqp], by rw [List.length_append]; simp; exact q3, fun q hq => ?_⟩
          rcases List.mem_append.1 hq with c | c
          · exact q4 q c
          · simp at c; rw [c, hqp]; exact (unhide HPP).2.1
        obtain ⟨av, nv, cv, hv, hnv⟩ : ∃ av nv cv, v' = .slice av nv cv ∧ nv = m + 1 := by
          obtain ⟨x1, x2, x3⟩ := own_slice hown
          exact ⟨x1, m + 1, x2, x3, rfl⟩
        subst hv hnv
        clear hown hgrow hpl HROW HD HLL HPP HRG2 HI2 HONE
        go_wp2_with fail
        go_roundw
        case rel => exact ⟨i + 1, m + 1, _, _, by omega, by omega, by go_num, rfl, HX⟩
        case measure => simp only [intOf]; omega
    · obtain rfl : i = N := by omega
      have hPN : P.length = m := by have := congrArg List.length hP; rw [List.length_map] at this; omega
      have hm5 : m ≤ 500 := by omega
      have KD := hide (ddrop_any h at_ (by omega))
      clear HS h hL hP hPl hPs hbw
      go_wp2_with fail
      refine (unhide KD).mono ?_
      rintro e w6 ⟨er, rfl, hno, hyes⟩
      rw [hPN] at hno hyes
      clear KD
      by_cases hA : at_ < 0 ∨ (m : Int) ≤ at_
      · obtain ⟨rfl, HD⟩ := hno hA
        clear hno hyes
        obtain ⟨gv', h'⟩ := unhide HD
        have KAA := hide (dall_any h' (by omega) (unhide HLL).2.2.2)
        have HPI := hide hPN
        clear HD h' hPN
        by_cases h0 : at_ < 0
        · go_wp2_with fail
          refine (unhide KAA).mono ?_
          rintro e w7 ⟨a7, n7, c7, rfl, HA7⟩
          have KSP : Hid (Calls Try.prog 20 #[.slice a7 n7 c7, .slice sa m sc] w7 fun e w' => e = .returned (.bool true) ∧ Below w7.heap.size w7 w') := by
            obtain ⟨⟨zs, r1⟩, r2, _⟩ := unhide HA7
            rw [(unhide HLL).2.1] at r1
            exact samePts_any r1 r2.rdl (by rw [(unhide HLL).1]; omega)
          have HB7 : Hid (Below w.heap.size w w7) := bw_tr (unhide HV) (unhide HA7).2.1.k.bel
          clear KAA HA7
          go_wp2_with fail
          refine (unhide KSP).mono ?_
          rintro e w8 ⟨rfl, b8⟩
          have HB8 := hide (bw_tr (unhide HB7) b8)
          clear KSP HB7 b8
          go_wp2_with fail
          refine (unhide KAL _).mono ?_
          rintro e w9 ⟨rfl, b9⟩
          clear KAL
          go_wp2_with fail
          go_ret
          exact ⟨rfl, bw_tr (unhide HB8) b9⟩
        · have h1 : (m : Int) ≤ at_ := by omega
          go_wp2_with fail
          refine (unhide KAA).mono ?_
          rintro e w7 ⟨a7, n7, c7, rfl, HA7⟩
          have KSP : Hid (Calls Try.prog 20 #[.slice a7 n7 c7, .slice sa m sc] w7 fun e w' => e = .returned (.bool true) ∧ Below w7.heap.size w7 w') := by
            obtain ⟨⟨zs, r1⟩, r2, _⟩ := unhide HA7
            rw [(unhide HLL).2.1] at r1
            exact samePts_any r1 r2.rdl (by rw [(unhide HLL).1]; omega)
          have HB7 : Hid (Below w.heap.size w w7) := bw_tr (unhide HV) (unhide HA7).2.1.k.bel
          clear KAA HA7
          go_wp2_with fail
          refine (unhide KSP).mono ?_
          rintro e w8 ⟨rfl, b8⟩
          have HB8 := hide (bw_tr (unhide HB7) b8)
          clear KSP HB7 b8
          go_wp2_with fail
          refine (unhide KAL _).mono ?_
          rintro e w9 ⟨rfl, b9⟩
          clear KAL
          go_wp2_with fail
          go_ret
          exact ⟨rfl, bw_tr (unhide HB8) b9⟩
      · obtain ⟨k, rfl⟩ : ∃ k : Nat, at_ = (k : Int) := ⟨at_.toNat, by omega⟩
        obtain ⟨rfl, HD⟩ := hyes (by omega) (by omega)
        clear hno hyes
        have hkm : k < m := by omega
        have hkI : (k : Int) < (m : Int) := by omega
        have hk0 : (0 : Int) ≤ (k : Int) := by omega
        obtain ⟨gv', h'⟩ := unhide HD
        rw [Int.toNat_natCast] at h'
        have hLm : L.length = m := (unhide HLL).1
        obtain ⟨gs, sc', hv, _, _, _⟩ := own_open h'.row (by omega)
        simp only [Value.slice.injEq] at hv
        obtain ⟨rfl, -, rfl⟩ := hv
        have hcap : m ≤ sc := by
          obtain ⟨g_, c_, hv_, _, hc_, _⟩ := own_open h'.row (by omega)
          simp only [Value.slice.injEq, Option.some.injEq, Addr.mk.injEq, and_true] at hv_
          obtain ⟨rfl, _, rfl⟩ := hv_
          omega
        have HDR := hide h'
        obtain ⟨AA, hAA⟩ : ∃ z, z = (P.eraseIdx k).map (·.p) := ⟨_, rfl⟩
        have HAA : Hid (AA = L.eraseIdx k) := by
          rw [hAA, ← (unhide HLL).2.1]
          show _ = _
          rw [List.eraseIdx_eq_take_drop_succ, List.eraseIdx_eq_take_drop_succ, List.map_append, List.map_take, List.map_drop]
        have KA : Hid (∀ W, Below w6.heap.size w6 W → Calls Try.prog 18 #[.pointer (some ⟨V.heap.size, 0, none⟩)] W fun e w' => ∃ a n c, e = .returned (.slice a n c) ∧ Hid (∃ xs, OwL kPk W.heap.size w' (.slice a n c) AA xs ∧ Below W.heap.size W w')) := fun W hW => by
          refine (neAll_any (h'.k.ns.bw hW) (by rw [List.length_eraseIdx_of_lt (by omega)]; omega)).mono ?_
          rintro e w' ⟨v', xs', rfl, h1, h2⟩
          rw [← hAA] at h1
          obtain ⟨a, c, rfl⟩ := own_slice h1.row
          exact ⟨_, _, _, rfl, xs', h1, h2⟩
        obtain ⟨CT, hCT⟩ : ∃ z, z = (cellK kPk L ys).take (k * 57) := ⟨_, rfl⟩
        obtain ⟨CD, hCD⟩ : ∃ z, z = (cellK kPk L ys).drop ((k + 1) * 57) := ⟨_, rfl⟩
        have hcl : (cellK kPk L ys).length = m * 57 := by rw [cellK_len (K := kPk) h'.xl, hLm]; rfl
        have hlT : CT.length = k * 57 := by rw [hCT, List.length_take, hcl, Nat.min_eq_left (Nat.mul_le_mul_right _ (by omega))]
        have hlD : CD.length = (m - (k + 1)) * 57 := by rw [hCD, List.length_drop, hcl, ← Nat.sub_mul]
        have hone : ∀ u ∈ cellK kPk L ys, u.oneCell' = true := cellK_one (K := kPk) h'.rdl.xl h'.rdl.el
        have HONT : Hid (∀ u ∈ CT, u.oneCell' = true) := fun u hu => hone u (by rw [hCT] at hu; exact List.mem_of_mem_take hu)
        have HOND : Hid (∀ u ∈ CD, u.oneCell' = true) := fun u hu => hone u (by rw [hCD] at hu; exact List.mem_of_mem_drop hu)
        have hgl : gs < w6.heap.size := (World.ownsRow.lt h'.row gs rfl).2
        have hcell : ∀ (W : World), (∀ z, z < w6.heap.size → W.heap[z]? = w6.heap[z]?) → ∀ j u, (cellK kPk L ys)[j]? = some u → W.cell? ⟨gs, j, none⟩ = some u := fun W hW j u hj => by
          rw [World.cell?_of_block (w := w6) (hW gs hgl)]
          exact own_cell h'.row rfl hj
        have HSRCT : Hid (∀ (W : World), (∀ z, z < w6.heap.size → W.heap[z]? = w6.heap[z]?) → ∀ j u, CT[j]? = some u → W.cell? ((⟨gs, 0, none⟩ : Addr).add j) = some u) := fun W hW j u hj => by
          have e : (⟨gs, 0, none⟩ : Addr).add j = ⟨gs, j, none⟩ := by unfold Addr.add; by_cases hz : j = 0 <;> simp [hz]
          rw [e]
          rw [hCT, List.getElem?_take] at hj
          split at hj
          · exact hcell W hW j u hj
          · cases hj
        obtain ⟨A, hA, HSRCD⟩ : ∃ A : Addr, (if sc = k + 1 then (some ⟨gs, 0, none⟩ : Option Addr) else some ⟨gs, (k + 1) * 57, none⟩) = some A ∧ Hid (∀ (W : World), (∀ z, z < w6.heap.size → W.heap[z]? = w6.heap[z]?) → ∀ j u, CD[j]? = some u → W.cell? (A.add j) = some u) := by
          by_cases hc : sc = k + 1
          · refine ⟨⟨gs, 0, none⟩, by simp [hc], fun W hW j u hj => ?_⟩
            have : CD.length = 0 := by rw [hlD, show m - (k + 1) = 0 by omega, Nat.zero_mul]
            rw [List.length_eq_zero_iff.1 this] at hj; cases hj
          · refine ⟨⟨gs, (k + 1) * 57, none⟩, by simp [hc], fun W hW j u hj => ?_⟩
            rw [hCD, List.getElem?_drop] at hj
            rw [Addr.add_lit]
            exact hcell W hW _ u hj
        have KSP : Hid (∀ W va v9, Hid (Mk V.heap.size w6 W va v9 AA (k + (m - (k + 1))) (CT ++ CD)) → Calls Try.prog 20 #[va, v9] W fun e w' => e = .returned (.bool true) ∧ Below W.heap.size W w') := fun W va v9 hM => by
          rw [hCT, hCD] at hM
          obtain ⟨xs1, zs1, r1, r2⟩ := Mk.fin (unhide HDR) (unhide hM) (by omega) (by omega) (unhide HAA) (fun p hp => by
            rw [← (unhide HLL).2.1] at hp
            obtain ⟨q, hq, rfl⟩ := List.mem_map.1 hp
            exact (unhide HLL).2.2.2 q hq)
          exact samePts_any r1 r2 (by rw [List.length_eraseIdx_of_lt (by omega)]; omega)
        have hwr : IntKind.i64.wrap ((k : Int) + 1) = ((k + 1 : Nat) : Int) := by rw [IntKind.wrap_i64]; omega
        have bW : Below w6.heap.size w6 w6.drew := (Below.refl _ _).drew
        have bWa : Below w6.heap.size w6 (w6.drew.alloc (.cells #[] 44)) := (bwA w6 _).drew
        have HB6 : Hid (Below w.heap.size w w6) := bw_tr (unhide HV) h'.k.bel
        have hcI : (m : Int) ≤ (sc : Int) := by omega
        have hks : ¬ sc < k := by omega
        have hk1 : ¬ ((m : Int) < (k : Int) + 1) := by omega
        have hk2 : (0 : Int) ≤ (k : Int) + 1 := by omega
        clear HD h' hPN hAA hCT hCD hcl hone hcell hLm H
        go_upto_region 15 with fail
        refine wp_region_any (by kernel_rfl) ?_
        change wpAny _ _ _ _ _ _ _ (World.drew _)
        refine wpAny_take (i := 0) (oi := { dst := some 63, op := Op.move (Operand.tmp 8), type := 51, pos := "more.go:69", after := #[], guard := none }) (v := .int .i64 0) rfl (by kernel_rfl) (by kernel_rfl) (by kernel_rfl) (fun _ _ _ h => h) (Or.inl ⟨by rfl, fun w => by go_simp⟩) ?_
        try simp only [Act.put, List.setIfInBounds_toArray, List.set_cons_zero, List.set_cons_succ]
        refine wpAny_take (i := 1) (oi := { dst := some 64, op := Op.binOp BinOp.eql 51 (Operand.tmp 63) (Operand.const (Value.int IntKind.i64 0)) 51, type := 4, pos := "more.go:69", after := #[{ on := 0, ground := Ground.data }], guard := none }) (v := .bool true) rfl (by kernel_rfl) (by kernel_rfl) (by kernel_rfl) (fun _ _ _ h => h) (Or.inl ⟨by rfl, fun w => by go_simp⟩) ?_
        try simp only [Act.put, List.setIfInBounds_toArray, List.set_cons_zero, List.set_cons_succ]
        refine wpAny_take (i := 2) (oi := { dst := some 65, op := Op.move (Operand.tmp 64), type := 4, pos := "more.go:69", after := #[{ on := 1, ground := Ground.data }], guard := none }) (v := .bool true) rfl (by kernel_rfl) (by kernel_rfl) (by kernel_rfl) (fun _ _ _ h => h) (Or.inl ⟨by rfl, fun w => by go_simp⟩) ?_
        try simp only [Act.put, List.setIfInBounds_toArray, List.set_cons_zero, List.set_cons_succ]
        refine wpAny_take (i := 3) (oi := { dst := some 66, op := Op.move (Operand.tmp 5), type := 49, pos := "more.go:69", after := #[{ on := 2, ground := Ground.guard }], guard := some (2, true) }) (v := .pointer (some ⟨V.heap.size, 0, none⟩)) rfl (by kernel_rfl) (by kernel_rfl) (by kernel_rfl) (fun _ _ _ h => h) (Or.inl ⟨by rfl, fun w => by go_simp⟩) ?_
        try simp only [Act.put, List.setIfInBounds_toArray, List.set_cons_zero, List.set_cons_succ]
        refine wpAny_take (i := 6) (oi := { dst := some 69, op := Op.move (Operand.tmp 6), type := 62, pos := "more.go:69", after := #[{ on := 2, ground := Ground.guard }], guard := some (2, true) }) (v := .slice (some ⟨gs, 0, none⟩) m sc) rfl (by kernel_rfl) (by kernel_rfl) (by kernel_rfl) (fun _ _ _ h => h) (Or.inl ⟨by rfl, fun w => by go_simp⟩) ?_
        try simp only [Act.put, List.setIfInBounds_toArray, List.set_cons_zero, List.set_cons_succ]
        refine wpAny_take (i := 7) (oi := { dst := some 70, op := Op.move (Operand.tmp 1), type := 3, pos := "more.go:69", after := #[{ on := 2, ground := Ground.guard }], guard := some (2, true) }) (v := .int .i64 (k : Int)) rfl (by kernel_rfl) (by kernel_rfl) (by kernel_rfl) (fun _ _ _ h => h) (Or.inl ⟨by rfl, fun w => by go_simp⟩) ?_
        try simp only [Act.put, List.setIfInBounds_toArray, List.set_cons_zero, List.set_cons_succ]
        refine wpAny_take (i := 10) (oi := { dst := some 73, op := Op.move (Operand.tmp 6), type := 62, pos := "more.go:69", after := #[{ on := 2, ground := Ground.guard }], guard := some (2, true) }) (v := .slice (some ⟨gs, 0, none⟩) m sc) rfl (by kernel_rfl) (by kernel_rfl) (by kernel_rfl) (fun _ _ _ h => h) (Or.inl ⟨by rfl, fun w => by go_simp⟩) ?_
        try simp only [Act.put, List.setIfInBounds_toArray, List.set_cons_zero, List.set_cons_succ]
        refine wpAny_take (i := 11) (oi := { dst := some 74, op := Op.move (Operand.tmp 1), type := 3, pos := "more.go:69", after := #[{ on := 2, ground := Ground.guard }], guard := some (2, true) }) (v := .int .i64 (k : Int)) rfl (by kernel_rfl) (by kernel_rfl) (by kernel_rfl) (fun _ _ _ h => h) (Or.inl ⟨by rfl, fun w => by go_simp⟩) ?_
        try simp only [Act.put, List.setIfInBounds_toArray, List.set_cons_zero, List.set_cons_succ]
        refine wpAny_take (i := 8) (oi := { dst := some 71, op := Op.slice 62 (Operand.tmp 69) none (some (Operand.tmp 70)) none, type := 62, pos := "more.go:69", after := #[{ on := 6, ground := Ground.data }, { on := 7, ground := Ground.data }, { on := 2, ground := Ground.guard }], guard := some (2, true) }) (v := .slice (some ⟨gs, 0, none⟩) k sc) rfl (by kernel_rfl) (by kernel_rfl) (by kernel_rfl) (fun _ _ _ h => h) (Or.inl ⟨by rfl, fun w => by go_simp⟩) ?_
        try simp only [Act.put, List.setIfInBounds_toArray, List.set_cons_zero, List.set_cons_succ]
        refine wpAny_take (i := 12) (oi := { dst := some 75, op := Op.binOp BinOp.add 3 (Operand.tmp 74) (Operand.const (Value.int IntKind.i64 1)) 3, type := 3, pos := "more.go:69", after := #[{ on := 11, ground := Ground.data }, { on := 2, ground := Ground.guard }], guard := some (2, true) }) (v := .int .i64 ((k + 1 : Nat) : Int)) rfl (by kernel_rfl) (by kernel_rfl) (by kernel_rfl) (fun _ _ _ h => h) (Or.inl ⟨by rfl, fun w => by go_simp⟩) ?_
        try simp only [Act.put, List.setIfInBounds_toArray, List.set_cons_zero, List.set_cons_succ]
        refine wpAny_take (i := 13) (oi := { dst := some 76, op := Op.slice 62 (Operand.tmp 73) (some (Operand.tmp 75)) none none, type := 62, pos := "more.go:69", after := #[{ on := 10, ground := Ground.data }, { on := 12, ground := Ground.data }, { on := 2, ground := Ground.guard }], guard := some (2, true) }) (v := .slice (some A) (m - (k + 1)) (sc - (k + 1))) rfl (by kernel_rfl) (by kernel_rfl) (by kernel_rfl) (fun _ _ _ h => h) (Or.inl ⟨by rfl, fun w => by go_simp⟩) ?_
        try simp only [Act.put, List.setIfInBounds_toArray, List.set_cons_zero, List.set_cons_succ]
        refine wpAny_ready (rs := [4, 5]) (by kernel_rfl) (by simp) (AllReady.cons (o := { dst := some 67, op := Op.call { callee := Callee.value (Operand.func 18), args := #[Operand.tmp 66], argTypes := #[49] }, type := 62, pos := "more.go:69", after := #[{ on := 3, ground := Ground.data }, { on := 2, ground := Ground.chain }, { on := 2, ground := Ground.guard }], guard := some (2, true) }) rfl (fun K hK => ?_) (AllReady.cons (o := { dst := some 68, op := Op.buildSlice 62 0 #[], type := 62, pos := "more.go:69", after := #[{ on := 2, ground := Ground.guard }], guard := some (2, true) }) rfl (fun K hK => ?_) AllReady.nil))
        · go_simp
          go_at_call 18
          refine (unhide KA _ bW).mono ?_
          rintro e_ w7 ⟨a7, n7, c7, rfl, HA7⟩
          have HM : Hid (Mk V.heap.size w6 (w7.alloc (.cells #[] 44)) (.slice a7 n7 c7) (.slice (some ⟨w7.heap.size, 0, none⟩) 0 0) AA 0 []) := (by obtain ⟨xs_, o1, o2⟩ := unhide HA7; exact Mk.startB o1 ⟨o2.os, o2.tape, o2.output, o2.size, o2.block⟩)
          clear HA7
          go_wp2_with fail
          first | (refine hK _ _ ?_; clear hK K) | skip
          try simp only [Act.put, List.setIfInBounds_toArray, List.set_cons_zero, List.set_cons_succ]
          refine wpAny_ready (rs := [5]) (by kernel_rfl) (by simp) (AllReady.cons (o := { dst := some 68, op := Op.buildSlice 62 0 #[], type := 62, pos := "more.go:69", after := #[{ on := 2, ground := Ground.guard }], guard := some (2, true) }) rfl (fun K hK => ?_) AllReady.nil)
          go_simp
          refine hK _ _ ?_
          clear hK K
          try simp only [Act.put, List.setIfInBounds_toArray, List.set_cons_zero, List.set_cons_succ]
          refine wpAny_ready (rs := [9]) (by kernel_rfl) (by simp) (AllReady.cons (o := { dst := some 72, op := Op.call { callee := Callee.builtin Builtin.append, args := #[Operand.tmp 68, Operand.tmp 71], argTypes := #[62, 62] }, type := 62, pos := "more.go:69", after := #[{ on := 5, ground := Ground.data }, { on := 8, ground := Ground.data }, { on := 4, ground := Ground.chain }, { on := 2, ground := Ground.guard }], guard := some (2, true) }) rfl (fun K hK => ?_) AllReady.nil)
          refine step_appG (by first | rfl | simp [Region.wanted, yielded]) (.tmp 68) (.tmp 71) 62 rfl w6.heap.size 44 j0 (.agg pt0) 57 632 Try.underlying62 (unhide HJ).1 (unhide HJ).2.1 (unhide HJ).2.2.1 (unhide HJ).2.2.2 rfl (by decide) _ 0 [] (by first | rfl | simp [Act.eval, Act.put]) (unhide HM).row ⟨gs, 0, none⟩ k sc CT (by first | rfl | simp [Act.eval, Act.put]) hlT (unhide HSRCT _ (unhide HM).keep) (unhide HONT) (by unfold maxLen; omega) (by omega) (unhide HM).size ?_
          intro v8 w8 hown8 hg8 hv8
          have HM8 : Hid (Mk V.heap.size w6 w8 (.slice a7 n7 c7) v8 AA k CT) := (unhide HM).more (by simpa using hown8) hg8 hv8
          clear hown8 hg8 hv8 HM
          refine hK _ _ ?_
          clear hK K
          try simp only [Act.put, List.setIfInBounds_toArray, List.set_cons_zero, List.set_cons_succ]
          refine wpAny_ready (rs := [14]) (by kernel_rfl) (by simp) (AllReady.cons (o := { dst := some 77, op := Op.call { callee := Callee.builtin Builtin.append, args := #[Operand.tmp 72, Operand.tmp 76], argTypes := #[62, 62] }, type := 62, pos := "more.go:69", after := #[{ on := 9, ground := Ground.data }, { on := 13, ground := Ground.data }, { on := 9, ground := Ground.chain }, { on := 2, ground := Ground.guard }], guard := some (2, true) }) rfl (fun K hK => ?_) AllReady.nil)
          refine step_appG (by first | rfl | simp [Region.wanted, yielded]) (.tmp 72) (.tmp 76) 62 rfl w6.heap.size 44 j0 (.agg pt0) 57 632 Try.underlying62 (unhide HJ).1 (unhide HJ).2.1 (unhide HJ).2.2.1 (unhide HJ).2.2.2 rfl (by decide) v8 k CT (by first | rfl | simp [Act.eval, Act.put]) (unhide HM8).row A (m - (k + 1)) (sc - (k + 1)) CD (by first | rfl | simp [Act.eval, Act.put]) hlD (unhide HSRCD _ (unhide HM8).keep) (unhide HOND) (by unfold maxLen; omega) (by omega) (unhide HM8).size ?_
          intro v9 w9 hown9 hg9 hv9
          have KSP9 := hide (unhide KSP w9 (.slice a7 n7 c7) v9 ((unhide HM8).more hown9 hg9 hv9))
          have HB9 : Hid (Below w6.heap.size w6 w9) := ((unhide HM8).more (n' := k + (m - (k + 1))) hown9 hg9 hv9).bel
          clear hown9 hg9 hv9 HM8
          refine hK _ _ ?_
          clear hK K
          try simp only [Act.put, List.setIfInBounds_toArray, List.set_cons_zero, List.set_cons_succ]
          refine wpAny_ready (rs := [15]) (by kernel_rfl) (by simp) (AllReady.cons (o := { dst := some 78, op := Op.call { callee := Callee.value (Operand.func 20), args := #[Operand.tmp 67, Operand.tmp 77], argTypes := #[62, 62] }, type := 4, pos := "more.go:69", after := #[{ on := 4, ground := Ground.data }, { on := 14, ground := Ground.data }, { on := 14, ground := Ground.chain }, { on := 2, ground := Ground.guard }], guard := some (2, true) }) rfl (fun K hK => ?_) AllReady.nil)
          go_simp
          go_at_call 20
          refine (unhide KSP9).mono ?_
          rintro e_ w10 ⟨rfl, b10⟩
          have HB10 := hide (bw_tr (unhide HB9) b10)
          clear KSP9 b10
          go_wp2_with fail
          first | (refine hK _ _ ?_; clear hK K) | skip
          try simp only [Act.put, List.setIfInBounds_toArray, List.set_cons_zero, List.set_cons_succ]
          refine wpAny_take (i := 16) (oi := { dst := some 79, op := Op.pick (Operand.tmp 65) (Operand.tmp 78) (Operand.const (Value.bool false)), type := 4, pos := "more.go:69", after := #[{ on := 2, ground := Ground.data }, { on := 15, ground := Ground.data }], guard := none }) (v := .bool true) rfl (by kernel_rfl) (by kernel_rfl) (by kernel_rfl) (fun _ _ _ h => h) (Or.inl ⟨by rfl, fun w => by go_simp⟩) ?_
          try simp only [Act.put, List.setIfInBounds_toArray, List.set_cons_zero, List.set_cons_succ]
          refine wpAny_take (i := 17) (oi := { dst := some 80, op := Op.move (Operand.tmp 79), type := 4, pos := "more.go:69", after := #[{ on := 16, ground := Ground.data }, { on := 15, ground := Ground.chain }], guard := none }) (v := .bool true) rfl (by kernel_rfl) (by kernel_rfl) (by kernel_rfl) (fun _ _ _ h => h) (Or.inl ⟨by rfl, fun w => by go_simp⟩) ?_
          try simp only [Act.put, List.setIfInBounds_toArray, List.set_cons_zero, List.set_cons_succ]
          refine wpAny_ready (rs := [18]) (by kernel_rfl) (by simp) (AllReady.cons (o := { dst := some 81, op := Op.call { callee := Callee.value (Operand.func 10), args := #[], argTypes := #[] }, type := 4, pos := "more.go:69", after := #[{ on := 17, ground := Ground.chain }, { on := 17, ground := Ground.guard }], guard := some (17, true) }) rfl (fun K hK => ?_) AllReady.nil)
          go_simp
          go_at_call 10
          refine (unhide KAL _).mono ?_
          rintro e_ w11 ⟨rfl, b11⟩
          have HB11 := hide (bw_tr (unhide HB6) (bw_tr (unhide HB10) b11))
          clear b11
          go_wp2_with fail
          first | (refine hK _ _ ?_; clear hK K) | skip
          try simp only [Act.put, List.setIfInBounds_toArray, List.set_cons_zero, List.set_cons_succ]
          refine wpAny_take (i := 19) (oi := { dst := some 82, op := Op.pick (Operand.tmp 80) (Operand.tmp 81) (Operand.const (Value.bool false)), type := 4, pos := "more.go:69", after := #[{ on := 17, ground := Ground.data }, { on := 18, ground := Ground.data }], guard := none }) (v := .bool true) rfl (by kernel_rfl) (by kernel_rfl) (by kernel_rfl) (fun _ _ _ h => h) (Or.inl ⟨by rfl, fun w => by go_simp⟩) ?_
          try simp only [Act.put, List.setIfInBounds_toArray, List.set_cons_zero, List.set_cons_succ]
          refine wpAny_take (i := 20) (oi := { dst := some 4, op := Op.assign (Operand.tmp 82), type := 4, pos := "more.go:69", after := #[{ on := 19, ground := Ground.data }, { on := 18, ground := Ground.chain }, { on := 0, ground := Ground.phase }, { on := 1, ground := Ground.phase }, { on := 2, ground := Ground.phase }, { on := 3, ground := Ground.phase }, { on := 4, ground := Ground.phase }, { on := 5, ground := Ground.phase }, { on := 6, ground := Ground.phase }, { on := 7, ground := Ground.phase }, { on := 8, ground := Ground.phase }, { on := 9, ground := Ground.phase }, { on := 10, ground := Ground.phase }, { on := 11, ground := Ground.phase }, { on := 12, ground := Ground.phase }, { on := 13, ground := Ground.phase }, { on := 14, ground := Ground.phase }, { on := 15, ground := Ground.phase }, { on := 16, ground := Ground.phase }, { on := 17, ground := Ground.phase }, { on := 18, ground := Ground.phase }, { on := 19, ground := Ground.phase }], guard := none }) (v := .bool true) rfl (by kernel_rfl) (by kernel_rfl) (by kernel_rfl) (fun _ _ _ h => h) (Or.inl ⟨by rfl, fun w => by go_simp⟩) ?_
          try simp only [Act.put, List.setIfInBounds_toArray, List.set_cons_zero, List.set_cons_succ]
          refine wpAny_done (by kernel_rfl) ?_ _
          go_wp2_with fail
          go_ret
          exact ⟨rfl, unhide HB11⟩
        · go_simp
          refine hK _ _ ?_
          clear hK K
          try simp only [Act.put, List.setIfInBounds_toArray, List.set_cons_zero, List.set_cons_succ]
          refine wpAny_ready (rs := [4]) (by kernel_rfl) (by simp) (AllReady.cons (o := { dst := some 67, op := Op.call { callee := Callee.value (Operand.func 18), args := #[Operand.tmp 66], argTypes := #[49] }, type := 62, pos := "more.go:69", after := #[{ on := 3, ground := Ground.data }, { on := 2, ground := Ground.chain }, { on := 2, ground := Ground.guard }], guard := some (2, true) }) rfl (fun K hK => ?_) AllReady.nil)
          go_simp
          go_at_call 18
          refine (unhide KA _ bWa).mono ?_
          rintro e_ w7 ⟨a7, n7, c7, rfl, HA7⟩
          have HM : Hid (Mk V.heap.size w6 w7 (.slice a7 n7 c7) (.slice (some ⟨w6.heap.size, 0, none⟩) 0 0) AA 0 []) := (by obtain ⟨xs_, o1, o2⟩ := unhide HA7; exact Mk.startA o1 ⟨o2.os, o2.tape, o2.output, o2.size, o2.block⟩)
          clear HA7
          go_wp2_with fail
          first | (refine hK _ _ ?_; clear hK K) | skip
          try simp only [Act.put, List.setIfInBounds_toArray, List.set_cons_zero, List.set_cons_succ]
          refine wpAny_ready (rs := [9]) (by kernel_rfl) (by simp) (AllReady.cons (o := { dst := some 72, op := Op.call { callee := Callee.builtin Builtin.append, args := #[Operand.tmp 68, Operand.tmp 71], argTypes := #[62, 62] }, type := 62, pos := "more.go:69", after := #[{ on := 5, ground := Ground.data }, { on := 8, ground := Ground.data }, { on := 4, ground := Ground.chain }, { on := 2, ground := Ground.guard }], guard := some (2, true) }) rfl (fun K hK => ?_) AllReady.nil)
          refine step_appG (by first | rfl | simp [Region.wanted, yielded]) (.tmp 68) (.tmp 71) 62 rfl w6.heap.size 44 j0 (.agg pt0) 57 632 Try.underlying62 (unhide HJ).1 (unhide HJ).2.1 (unhide HJ).2.2.1 (unhide HJ).2.2.2 rfl (by decide) _ 0 [] (by first | rfl | simp [Act.eval, Act.put]) (unhide HM).row ⟨gs, 0, none⟩ k sc CT (by first | rfl | simp [Act.eval, Act.put]) hlT (unhide HSRCT _ (unhide HM).keep) (unhide HONT) (by unfold maxLen; omega) (by omega) (unhide HM).size ?_
          intro v8 w8 hown8 hg8 hv8
          have HM8 : Hid (Mk V.heap.size w6 w8 (.slice a7 n7 c7) v8 AA k CT) := (unhide HM).more (by simpa using hown8) hg8 hv8
          clear hown8 hg8 hv8 HM
          refine hK _ _ ?_
          clear hK K
          try simp only [Act.put, List.setIfInBounds_toArray, List.set_cons_zero, List.set_cons_succ]
          refine wpAny_ready (rs := [14]) (by kernel_rfl) (by simp) (AllReady.cons (o := { dst := some 77, op := Op.call { callee := Callee.builtin Builtin.append, args := #[Operand.tmp 72, Operand.tmp 76], argTypes := #[62, 62] }, type := 62, pos := "more.go:69", after := #[{ on := 9, ground := Ground.data }, { on := 13, ground := Ground.data }, { on := 9, ground := Ground.chain }, { on := 2, ground := Ground.guard }], guard := some (2, true) }) rfl (fun K hK => ?_) AllReady.nil)
          refine step_appG (by first | rfl | simp [Region.wanted, yielded]) (.tmp 72) (.tmp 76) 62 rfl w6.heap.size 44 j0 (.agg pt0) 57 632 Try.underlying62 (unhide HJ).1 (unhide HJ).2.1 (unhide HJ).2.2.1 (unhide HJ).2.2.2 rfl (by decide) v8 k CT (by first | rfl | simp [Act.eval, Act.put]) (unhide HM8).row A (m - (k + 1)) (sc - (k + 1)) CD (by first | rfl | simp [Act.eval, Act.put]) hlD (unhide HSRCD _ (unhide HM8).keep) (unhide HOND) (by unfold maxLen; omega) (by omega) (unhide HM8).size ?_
          intro v9 w9 hown9 hg9 hv9
          have KSP9 := hide (unhide KSP w9 (.slice a7 n7 c7) v9 ((unhide HM8).more hown9 hg9 hv9))
          have HB9 : Hid (Below w6.heap.size w6 w9) := ((unhide HM8).more (n' := k + (m - (k + 1))) hown9 hg9 hv9).bel
          clear hown9 hg9 hv9 HM8
          refine hK _ _ ?_
          clear hK K
          try simp only [Act.put, List.setIfInBounds_toArray, List.set_cons_zero, List.set_cons_succ]
          refine wpAny_ready (rs := [15]) (by kernel_rfl) (by simp) (AllReady.cons (o := { dst := some 78, op := Op.call { callee := Callee.value (Operand.func 20), args := #[Operand.tmp 67, Operand.tmp 77], argTypes := #[62, 62] }, type := 4, pos := "more.go:69", after := #[{ on := 4, ground := Ground.data }, { on := 14, ground := Ground.data }, { on := 14, ground := Ground.chain }, { on := 2, ground := Ground.guard }], guard := some (2, true) }) rfl (fun K hK => ?_) AllReady.nil)
          go_simp
          go_at_call 20
          refine (unhide KSP9).mono ?_
          rintro e_ w10 ⟨rfl, b10⟩
          have HB10 := hide (bw_tr (unhide HB9) b10)
          clear KSP9 b10
          go_wp2_with fail
          first | (refine hK _ _ ?_; clear hK K) | skip
          try simp only [Act.put, List.setIfInBounds_toArray, List.set_cons_zero, List.set_cons_succ]
          refine wpAny_take (i := 16) (oi := { dst := some 79, op := Op.pick (Operand.tmp 65) (Operand.tmp 78) (Operand.const (Value.bool false)), type := 4, pos := "more.go:69", after := #[{ on := 2, ground := Ground.data }, { on := 15, ground := Ground.data }], guard := none }) (v := .bool true) rfl (by kernel_rfl) (by kernel_rfl) (by kernel_rfl) (fun _ _ _ h => h) (Or.inl ⟨by rfl, fun w => by go_simp⟩) ?_
          try simp only [Act.put, List.setIfInBounds_toArray, List.set_cons_zero, List.set_cons_succ]
          refine wpAny_take (i := 17) (oi := { dst := some 80, op := Op.move (Operand.tmp 79), type := 4, pos := "more.go:69", after := #[{ on := 16, ground := Ground.data }, { on := 15, ground := Ground.chain }], guard := none }) (v := .bool true) rfl (by kernel_rfl) (by kernel_rfl) (by kernel_rfl) (fun _ _ _ h => h) (Or.inl ⟨by rfl, fun w => by go_simp⟩) ?_
          try simp only [Act.put, List.setIfInBounds_toArray, List.set_cons_zero, List.set_cons_succ]
          refine wpAny_ready (rs := [18]) (by kernel_rfl) (by simp) (AllReady.cons (o := { dst := some 81, op := Op.call { callee := Callee.value (Operand.func 10), args := #[], argTypes := #[] }, type := 4, pos := "more.go:69", after := #[{ on := 17, ground := Ground.chain }, { on := 17, ground := Ground.guard }], guard := some (17, true) }) rfl (fun K hK => ?_) AllReady.nil)
          go_simp
          go_at_call 10
          refine (unhide KAL _).mono ?_
          rintro e_ w11 ⟨rfl, b11⟩
          have HB11 := hide (bw_tr (unhide HB6) (bw_tr (unhide HB10) b11))
          clear b11
          go_wp2_with fail
          first | (refine hK _ _ ?_; clear hK K) | skip
          try simp only [Act.put, List.setIfInBounds_toArray, List.set_cons_zero, List.set_cons_succ]
          refine wpAny_take (i := 19) (oi := { dst := some 82, op := Op.pick (Operand.tmp 80) (Operand.tmp 81) (Operand.const (Value.bool false)), type := 4, pos := "more.go:69", after := #[{ on := 17, ground := Ground.data }, { on := 18, ground := Ground.data }], guard := none }) (v := .bool true) rfl (by kernel_rfl) (by kernel_rfl) (by kernel_rfl) (fun _ _ _ h => h) (Or.inl ⟨by rfl, fun w => by go_simp⟩) ?_
          try simp only [Act.put, List.setIfInBounds_toArray, List.set_cons_zero, List.set_cons_succ]
          refine wpAny_take (i := 20) (oi := { dst := some 4, op := Op.assign (Operand.tmp 82), type := 4, pos := "more.go:69", after := #[{ on := 19, ground := Ground.data }, { on := 18, ground := Ground.chain }, { on := 0, ground := Ground.phase }, { on := 1, ground := Ground.phase }, { on := 2, ground := Ground.phase }, { on := 3, ground := Ground.phase }, { on := 4, ground := Ground.phase }, { on := 5, ground := Ground.phase }, { on := 6, ground := Ground.phase }, { on := 7, ground := Ground.phase }, { on := 8, ground := Ground.phase }, { on := 9, ground := Ground.phase }, { on := 10, ground := Ground.phase }, { on := 11, ground := Ground.phase }, { on := 12, ground := Ground.phase }, { on := 13, ground := Ground.phase }, { on := 14, ground := Ground.phase }, { on := 15, ground := Ground.phase }, { on := 16, ground := Ground.phase }, { on := 17, ground := Ground.phase }, { on := 18, ground := Ground.phase }, { on := 19, ground := Ground.phase }], guard := none }) (v := .bool true) rfl (by kernel_rfl) (by kernel_rfl) (by kernel_rfl) (fun _ _ _ h => h) (Or.inl ⟨by rfl, fun w => by go_simp⟩) ?_
          try simp only [Act.put, List.setIfInBounds_toArray, List.set_cons_zero, List.set_cons_succ]
          refine wpAny_done (by kernel_rfl) ?_ _
          go_wp2_with fail
          go_ret
          exact ⟨rfl, unhide HB11⟩
end Go.Proofs.Ytndgdpefoidfbaa

/- NetDrops: for all rows of packets and every number the law answers true: a packet that is dropped is gone, the others stay as they were, in order. No condition (the law itself claims nothing of more than 500 packets or of more than 262144 values). -/
namespace Go.Proofs.Ytndgdpefoidfbaa
open Go.ChangeShapes Go.WideShapes Go.ChangeAt Go.RowKit Go.Joins Go.Deep Go.Maps
set_option maxRecDepth 100000 in
theorem NetDrops_lifted (os : Os) (started : os.Started) (H : Type) (enc : TypeId × Value → H) :
    ReturnsInHanded {} Try.checked os 6 .any (Rows.netDropsSpec.pre6 enc Try.prog Try.f6 Rows.netDropsRow.domain false) (Rows.netDropsSpec.post enc Try.prog Try.f6 false true false false) := by
  refine returnsInHanded_of_change_sized (C := Try.checked) own started (by kernel_rfl) Try.func6
    (ChangeSpec.witness6 (enc := enc) (C := Try.checked) false ⟨#[], #[.slice none 0 0, .int .i64 0], []⟩ 8 (by kernel_rfl) (by kernel_rfl) (by kernel_rfl) (by kernel_rfl)) ?_
  intro W base args ds gs before hval0 hW hcnd hsz0 _
  have hval : ∀ (j : Nat) t v, Try.f6.params[j]? = some t → args[j]? = some v → Value.okWide Try.prog W .any base t v := hval0
  have hsz : (DataW.weightsEach Try.prog (Try.f6.params.toList ++ Rows.netDropsSpec.plain.varTypes Try.prog) (ds ++ gs)).all (· ≤ reachBytes) = true := hsz0
  have hW' := hW
  obtain ⟨p, q, hA0, hV, rfl, hfz, hnd⟩ := hW
  have hA : DataW.TrodAll enc Try.prog W 0 (fun _ => true) true Try.f6.params.toList args.toList ds p := hA0
  rw [Try.params6] at hA hval hsz
  obtain ⟨v0, vs0, d0, ds0, p0, q0, hargs, rfl, rfl, h0, r0⟩ := trodAll_cons hA
  obtain ⟨v1, vs1, d1, ds1, p1, q1, rfl, rfl, rfl, h1, r1⟩ := trodAll_cons r0
  obtain ⟨rfl, rfl, rfl⟩ := trodAll_nil r1
  obtain rfl : args = #[v0, v1] := by cases args; simp_all
  obtain ⟨rfl, rfl⟩ := trodVars_none hV
  have k0 := h0
  have lt0 : ∀ x ∈ p0, x.block < W.heap.size := by obtain ⟨m, hm⟩ := k0; exact DataW.trod_lt m _ _ _ hm
  obtain ⟨ad0, len0, cap0, rfl⟩ := okWide_slice Try.underlying62 (hval 0 62 v0 rfl rfl)
  obtain ⟨fu0, hf0⟩ := h0
  have hg0 : DataW.trod enc Try.prog W 0 (fun _ => true) true fu0 62 [.slice ad0 len0 cap0] = some (d0, p0) := by simpa [Value.cells] using hf0
  obtain ⟨l0, y0, n0, m0⟩ := open_ptsT hg0 (fun n hn => by simpa using List.all_eq_true.1 hsz n (DataW.weights_mem_each (j := 0) (t := 62) rfl rfl n hn))
  obtain ⟨a1, rfl, rfl, rfl, w1⟩ := open_int Try.underlying3 (hval 1 3 v1 rfl rfl) h1
  clear hA0 hval0
  refine (drops_any n0 m0 a1).mono fun e W' ⟨he, bel⟩ => ?_
  subst he
  exact ⟨_, rfl, _, _, _, [], _, [], hW', trodAll_mk1 (shut_bool Try.underlying4 _), (trodAll_cons_mk (Below.trod laidOut (by kernel_rfl) (of_decide_eq_true (by kernel_rfl)) k0 bel lt0) (trodAll_cons_mk (shut_int Try.underlying3 w1) trodAll_mk0)), rfl, bel.frame _, fun h => by cases h⟩
theorem NetDrops_over : Rows.netDropsRow.holds Try.pinned (OpenSpec.ofChange Rows.netDropsSpec) :=
  OpenClaim.holds_of_wide 6 Try.f6 rfl rfl rfl rfl rfl rfl rfl ⟨rfl, rfl, rfl, rfl, rfl⟩ rfl rfl rfl rfl rfl (by kernel_rfl) Try.func6 (by kernel_rfl)
    (of_decide_eq_true (by kernel_rfl)) (by unfold Func.isWrapper; first | (rw [if_pos (by decide +kernel)]; kernel_rfl) | (rw [if_neg (by decide +kernel)]; exact ⟨rfl, rfl⟩))
    (fun os started H enc _ => NetDrops_lifted os started H enc)
theorem NetDrops_holds : Rows.NetDropsSaid := NetDrops_over
#print axioms NetDrops_holds
end Go.Proofs.Ytndgdpefoidfbaa
