/- Texts joined: RoS RoLawKeeps. -/
import Derived.Test.YtgmlkofogeoocaaGreatDoorRoM
import Derived.Test.YtgmlkofogeoocaaGreatDoorRoFrame
import Derived.Test.YtgmlkofogeoocaaGreatDoorZ18
import Derived.Test.YtgmlkofogeoocaaGreatDoorZ16
/- What RosterKeeps asks: sizes, Beyond of three numbers; what Settle leaves, plainly. mkRoS.py writes it. -/
namespace Go.Proofs.YtgmlkofogeoocaaGreatDoor
open Go.RowKit Go.Maps
set_option maxRecDepth 100000 in
set_option maxHeartbeats 4000000 in
theorem bxsize16_any {w : World} {v : Value} {l : List Bx} {xs : List (Value × List Mx)} (h : Bxs w v l xs) :
    Calls Tryz.prog 13 #[v] w fun e w' => ∃ n : Nat, e = .returned (.int .i64 (n : Int)) ∧ n ≤ 9007199254740992 ∧ (n ≤ 262144 → n = l.length + bsN l) ∧ Below w.heap.size w w' := by
  obtain ⟨hl, hx, he, a, cap, rfl, hc⟩ := h
  have HC : Hid (∀ (wr : World) (i : Nat), Below w.heap.size w wr → i < l.length → ∃ (b : Bx) (g o N2 c2 : Nat) (a2 : Option Addr), a = some ⟨g, o, none⟩ ∧ l[i]? = some b ∧ wr.cell? ⟨g, o + i * 4 + 2, none⟩ = some (.slice a2 N2 c2) ∧ Calls Tryz.prog 26 #[.slice a2 N2 c2] wr fun e w' => ∃ n : Nat, e = .returned (.int .i64 (n : Int)) ∧ n ≤ 4503599627370496 ∧ (n ≤ 262144 → n = bxN b) ∧ Below wr.heap.size wr w') := fun wr i hb hi => by
    have h1 : l[i]? = some l[i] := List.getElem?_eq_getElem hi
    have h2 : xs[i]? = some (xs[i]'(by rw [hx]; exact hi)) := List.getElem?_eq_getElem _
    obtain ⟨e1, e2, ⟨a2, c2, e3, e4⟩, e5⟩ := he i _ _ h1 h2
    rcases hc with c | ⟨g, o, rfl, hc⟩
    · rw [c] at hi; simp at hi
    · have hcell : w.cell? ⟨g, o + i * 4 + 2, none⟩ = some (xs[i]'(by rw [hx]; exact hi)).1 := by rw [Nat.add_assoc]; exact hc _ _ (cellK_get (K := kBx) (j := 2) h1 h2 rfl)
      rw [e3] at hcell
      refine ⟨l[i], g, o, l[i].ml.length, c2, a2, rfl, h1, ?_, mlssize_any (xs := (xs[i]'(by rw [hx]; exact hi)).2) e2 e1 ⟨a2, c2, rfl, e4.imp (fun q => q) ?_⟩ (fun j m y hm hy => (e5 j m y hm hy).1.bw hb)⟩
      · rw [hb.cell (lt_of_cell hcell)]; exact hcell
      · rintro ⟨g', o', q1, q2⟩
        exact ⟨g', o', q1, fun j u hj => by rw [hb.cell (lt_of_cell (q2 j u hj))]; exact q2 j u hj⟩
  obtain ⟨N, hN⟩ : ∃ N, N = l.length := ⟨_, rfl⟩
  rw [← hN] at hl HC ⊢
  have hNI : (N : Int) ≤ 140737488355328 := by omega
  obtain ⟨G, hG⟩ : ∃ G, G = N + bsN l := ⟨_, rfl⟩
  rw [← hG]
  have HG := hide hG
  have HL := hide hN
  clear hx hc he hN hl hG
  go_enter Tryz.func13, Tryz.ntmps13
  go_wp2_with fail
  go_loopw [3, 4] (fun nv iv wr => ∃ (i n : Nat), i ≤ N ∧ iv = .int .i64 (i : Int) ∧ nv = .int .i64 (n : Int) ∧ n ≤ 1048576 + 140737488355328 + 4503599627370496 ∧ Hid (Below w.heap.size w wr ∧ (n ≤ 262144 → n = N + bsN (l.take i)))) (fun _ iv _ => (N - intOf iv).toNat)
  case atStart => exact ⟨0, N, Nat.zero_le _, rfl, rfl, by omega, Below.refl _ _, fun _ => by simp [bsN]⟩
  case round =>
    obtain ⟨i, n, hi, rfl, rfl, hn, HR⟩ := hrel
    have hnI : (n : Int) ≤ 9007199254740992 := by omega
    by_cases hlt : i < N
    · have hiI : (i : Int) < (N : Int) := by omega
      by_cases hnb : n < 1048576
      · have hnbI : (n : Int) < 1048576 := by omega
        obtain ⟨b, g, o, N2, c2, a2, rfl, hm, hcell, K⟩ := unhide HC wr i (unhide HR).1 hlt
        have HN2 : Hid (bsN (l.take (i + 1)) = bsN (l.take i) + bxN b) := bsN_take hm
        obtain ⟨CN, hCN⟩ : ∃ CN, CN = bxN b := ⟨_, rfl⟩
        rw [← hCN] at K HN2
        have KH := hide K
        clear hm K hCN
        go_wp2_with fail
        refine (unhide KH).mono ?_
        rintro e2 w2 ⟨q, rfl, m1, m2, b2⟩
        have hmI : (q : Int) ≤ 4503599627370496 := by omega
        have HR2 : Hid (Below w.heap.size w w2 ∧ (n + q ≤ 262144 → n + q = N + bsN (l.take (i + 1)))) := ⟨bw_tr (unhide HR).1 b2, fun c => by
          have := (unhide HR).2 (by omega)
          have := m2 (by omega)
          rw [unhide HN2]; omega⟩
        clear KH HN2 m2 b2 HR hcell
        go_wp2_with fail
        go_roundw
        case rel => exact ⟨i + 1, n + q, by omega, by go_num, by go_num, by omega, HR2⟩
        case measure => simp only [intOf]; omega
      · have hnbI : (1048576 : Int) ≤ (n : Int) := by omega
        have hnd : decide ((n : Int) < 1048576) = false := decide_eq_false (by omega)
        have B := hide (unhide HR).1
        clear HG HR
        go_wp2
        go_ret
        exact ⟨n, rfl, by omega, fun c => absurd c (by omega), unhide B⟩
    · obtain rfl : i = N := by omega
      have HE : Hid (Below w.heap.size w wr ∧ (n ≤ 262144 → n = G)) := ⟨(unhide HR).1, fun c => by
        have h1 := (unhide HR).2 c
        rw [unhide HL, List.take_length, ← unhide HL] at h1
        rw [unhide HG]; exact h1⟩
      clear HR HG
      go_wp2
      go_ret
      exact ⟨n, rfl, by omega, (unhide HE).2, (unhide HE).1⟩
theorem mem_sumP {α : Type} {f : α → Nat} : ∀ {l : List α} {a : α}, a ∈ l → f a ≤ (l.map f).foldr (· + ·) 0
  | [], _, h => by cases h
  | b :: r, a, h => by
    rcases List.mem_cons.1 h with rfl | h
    · simp
    · have := mem_sumP (f := f) h; simp only [List.map_cons, List.foldr_cons]; omega
theorem smC_of {w : World} {c : Cm} {x : Cv} (h : CmR w c x) (hb : cmN c ≤ 1048576) : SmC c := by
  unfold cmN at hb
  exact ⟨by omega, by omega, by omega, by omega, by omega, fun n hn => by have := usum_mem hn; omega, h.adds.fit, h.seals.fit, h.joins.fit⟩
theorem smM_of {w : World} {m : Ml} {x : Mx} (h : MlR w m x) (hb : mlB m) (hn : mlN m ≤ 1048576) : SmM m := by
  unfold mlN at hn
  exact ⟨smC_of h.c (by omega), by omega, fun n hq => by have := usum_mem hq; omega, hb⟩
theorem smX_of {w : World} {v : Value} {l : List Bx} {xs : List (Value × List Mx)} (h : Bxs w v l xs) (hn : l.length + bsN l ≤ 262144) : SmX l := by
  refine ⟨by omega, fun b hb => ?_⟩
  obtain ⟨i, hi⟩ := List.getElem?_of_mem hb
  have hil : i < xs.length := by rw [h.xl]; exact (List.getElem?_eq_some_iff.1 hi).1
  obtain ⟨_, e2, _, e4⟩ := h.el i b _ hi (List.getElem?_eq_getElem hil)
  have h1 : bxN b ≤ bsN l := mem_sumP (f := bxN) hb
  unfold bxN at h1
  refine ⟨by omega, fun m hm => ?_⟩
  obtain ⟨j, hj⟩ := List.getElem?_of_mem hm
  have hjl : j < (xs[i]).2.length := by rw [e2]; exact (List.getElem?_eq_some_iff.1 hj).1
  obtain ⟨q1, q2⟩ := e4 j m _ hj (List.getElem?_eq_getElem hjl)
  have h2 : mlN m ≤ msN b.ml := mem_sumP (f := mlN) hm
  exact smM_of q1 q2 (by omega)
theorem Bxs.rdl {w : World} {v : Value} {l : List Bx} {xs : List (Value × List Mx)} (h : Bxs w v l xs) (hs : SmX l) : RdL kBx w v l xs := by
  refine ⟨h.xl, fun i b x hb hx => ?_, h.form⟩
  obtain ⟨_, e2, e3, e4⟩ := h.el i b x hb hx
  have hsb := hs.b b (List.mem_of_getElem? hb)
  exact ⟨⟨e2, fun j m y hm hy => ⟨(e4 j m y hm hy).1, hsb.m m (List.mem_of_getElem? hm)⟩, e3⟩, hsb⟩
set_option maxHeartbeats 1600000 in
theorem beyond16c (b : Nat) (n m k : Nat) (c : Nat) (w : World) (hn : n ≤ 9007199254740992) (hm : m ≤ 9007199254740992) (hk : k ≤ 9007199254740992) (h0 : w.cell? ⟨b, 0, none⟩ = some (.int .i64 n)) (h1 : w.cell? ⟨b, 1, none⟩ = some (.int .i64 m)) (h2 : w.cell? ⟨b, 2, none⟩ = some (.int .i64 k)) :
    Calls Tryz.prog 12 #[.slice (some ⟨b, 0, none⟩) 3 c] w fun e w' => ∃ z, e = .returned (.bool z) ∧ w' = w ∧ (z = false → n + m + k ≤ 262144) := by
  by_cases hb : 262144 < n
  · go_enter Tryz.func12, Tryz.ntmps12
    go_wp2
    refine wp_loop_rounds 1 ?_
    rw [rounds_succ]
    go_wp2
    go_ret
    exact ⟨_, rfl, rfl, fun q => by first | omega | (simp at q; omega) | cases q⟩
  by_cases hb2 : 262144 < m
  · go_enter Tryz.func12, Tryz.ntmps12
    go_wp2
    refine wp_loop_rounds 2 ?_
    rw [rounds_succ]
    go_wp2
    rw [rounds_succ]
    go_wp2
    go_ret
    exact ⟨_, rfl, rfl, fun q => by first | omega | (simp at q; omega) | cases q⟩
  by_cases hb3 : (262144 : Int) < (n : Int) + (m : Int)
  · go_enter Tryz.func12, Tryz.ntmps12
    go_wp2
    refine wp_loop_rounds 2 ?_
    rw [rounds_succ]
    go_wp2
    rw [rounds_succ]
    go_wp2
    go_ret
    exact ⟨_, rfl, rfl, fun q => by first | omega | (simp at q; omega) | cases q⟩
  by_cases hb4 : 262144 < k
  · go_enter Tryz.func12, Tryz.ntmps12
    go_wp2
    refine wp_loop_rounds 3 ?_
    rw [rounds_succ]
    go_wp2
    rw [rounds_succ]
    go_wp2
    rw [rounds_succ]
    go_wp2
    go_ret
    exact ⟨_, rfl, rfl, fun q => by first | omega | (simp at q; omega) | cases q⟩
  by_cases hb5 : (262144 : Int) < (n : Int) + (m : Int) + (k : Int)
  · go_enter Tryz.func12, Tryz.ntmps12
    go_wp2
    refine wp_loop_rounds 3 ?_
    rw [rounds_succ]
    go_wp2
    rw [rounds_succ]
    go_wp2
    rw [rounds_succ]
    go_wp2
    go_ret
    exact ⟨_, rfl, rfl, fun q => by first | omega | (simp at q; omega) | cases q⟩
  · go_enter Tryz.func12, Tryz.ntmps12
    go_wp2
    refine wp_loop_rounds 4 ?_
    rw [rounds_succ]
    go_wp2
    rw [rounds_succ]
    go_wp2
    rw [rounds_succ]
    go_wp2
    rw [rounds_succ]
    go_wp2
    go_ret
    exact ⟨_, rfl, rfl, fun q => by first | omega | (simp at q; omega) | cases q⟩

theorem Bxs.bwX {W z : World} {v : Value} {l : List Bx} {xs : List (Value × List Mx)} (hB : Bxs W v l xs) (hz : Below W.heap.size W z) : Bxs z v l xs := ⟨hB.len, hB.xl, fun i b y hb hy => (by
    obtain ⟨e1, e2, ⟨ad, cp, e3, e4⟩, e5⟩ := hB.el i b y hb hy
    exact ⟨e1, e2, ⟨ad, cp, e3, e4.imp (fun q => q) (fun ⟨g, o, q1, q2⟩ => ⟨g, o, q1, fun j u hu => by have := q2 j u hu; rw [hz.cell (lt_of_cell this)]; exact this⟩)⟩, fun j mm yy h1 h2 => ⟨(e5 j mm yy h1 h2).1.bw hz, (e5 j mm yy h1 h2).2⟩⟩), (by
    obtain ⟨ad, cp, e3, e4⟩ := hB.form
    exact ⟨ad, cp, e3, e4.imp (fun q => q) (fun ⟨g, o, q1, q2⟩ => ⟨g, o, q1, fun j u hu => by have := q2 j u hu; rw [hz.cell (lt_of_cell this)]; exact this⟩)⟩)⟩
theorem szx_of {w : World} {v : Value} {l : List Bx} {xs : List (Value × List Mx)} (h : Bxs w v l xs) (hn : l.length + bsN l ≤ 262144) : SzX 262144 l := by
  have hs := smX_of h hn
  refine ⟨by omega, fun b hb => ⟨?_, (hs.b b hb).m⟩⟩
  have h1 : bxN b ≤ bsN l := mem_sumP (f := bxN) hb
  unfold bxN at h1
  omega
theorem fnd_mem {T : List Nd} {m : Int} : 0 ≤ fnd T m ↔ m ∈ mems T := by
  have hl : (lvs T).length = nlv T := lvs_len T
  unfold fnd
  by_cases c : (lvs T).findIdx (hit m) < nlv T
  · rw [if_pos c]
    refine ⟨fun _ => ?_, fun _ => by omega⟩
    obtain ⟨n, hn, hh⟩ := List.findIdx_lt_length.1 (by rw [hl]; exact c)
    unfold hit at hh
    simp only [Bool.and_eq_true, beq_iff_eq] at hh
    exact List.mem_map.2 ⟨n, List.mem_filter.2 ⟨hn, hh.1⟩, hh.2⟩
  · rw [if_neg c]
    refine ⟨fun q => by omega, fun q => ?_⟩
    obtain ⟨n, hn, hh⟩ := List.mem_map.1 q
    obtain ⟨h1, h2⟩ := List.mem_filter.1 hn
    exfalso
    apply c
    rw [← hl]
    exact List.findIdx_lt_length.2 ⟨n, h1, by unfold hit; simp [h2, hh]⟩
theorem hsB_stls {m : Ml} {T2 : List Nd} {e : Int} : ∀ (ds : List Int) (l : List Bx), ds.Pairwise (· < ·) → hsB (stls l m T2 ds) e = if e ∈ ds then some (!(decide (0 ≤ fnd T2 e)) || (hsB l e).getD false) else hsB l e
  | [], l, _ => by simp [stls]
  | d :: ds, l, hp => by
    have h1 := List.pairwise_cons.1 hp
    have ih := hsB_stls (m := m) (T2 := T2) (e := e) ds (stl l d m (decide (0 ≤ fnd T2 d))) h1.2
    have e0 : stls l m T2 (d :: ds) = stls (stl l d m (decide (0 ≤ fnd T2 d))) m T2 ds := rfl
    rw [e0, ih, hsB_stl]
    by_cases c : e = d
    · subst c
      have hn : e ∉ ds := fun q => by have := h1.1 e q; omega
      rw [if_neg hn, if_pos rfl, if_pos (by simp)]
    · rw [if_neg c]
      by_cases q : e ∈ ds
      · rw [if_pos q, if_pos (by simp [q])]
      · rw [if_neg q, if_neg (by simp [c, q])]
theorem has_hsB {l : List Bx} {d : Int} {th ou : Bool} (hm : mayP l) (h : HasX l d th ou) : th = (hsB l d).isSome ∧ ou = (hsB l d).getD false := by
  rcases h with ⟨rfl, rfl, q⟩ | ⟨rfl, _, k, b, q2, q3, rfl⟩
  · rcases q with q | q
    · rw [mayX_iff.2 hm] at q; cases q
    · unfold hsB
      rw [find_none (hasD_not q)]
      exact ⟨rfl, rfl⟩
  · unfold hsB
    cases hf : l.find? fun b => decide (b.dev = d) with
    | none => rw [List.find?_eq_none] at hf; exact absurd (by simpa using q3) (hf b (List.mem_of_getElem? q2))
    | some a =>
      have ha := List.find?_some hf
      have hm' := List.mem_of_find?_eq_some hf
      obtain ⟨j, hj⟩ := List.getElem?_of_mem hm'
      have : j = k := idx_devR hm hj q2 (by rw [q3]; simpa using ha)
      subst this
      rw [q2] at hj; cases hj
      exact ⟨rfl, rfl⟩
theorem keeps_plain {l : List Bx} {m : Ml} {T1 T2 : List Nd} {e : Int} {is gone th ou : Bool} (hm : mayP l) (hma : mayP (stls l m T2 (uni (mems T1) (mems T2)))) (h1 : HasX l e th ou) (h2 : HasX (stls l m T2 (uni (mems T1) (mems T2))) e is gone) :
    (decide (0 ≤ fnd T2 e) = true → is = true ∧ gone = ou) ∧ (decide (0 ≤ fnd T2 e) = false → 0 ≤ fnd T1 e → is = true ∧ gone = true) ∧ (decide (0 ≤ fnd T2 e) = false → fnd T1 e < 0 → is = th ∧ gone = ou) := by
  obtain ⟨p1, p2⟩ := has_hsB hm h1
  obtain ⟨p3, p4⟩ := has_hsB hma h2
  rw [hsB_stls _ _ (uni_up _ _)] at p3 p4
  have hmem : e ∈ uni (mems T1) (mems T2) ↔ 0 ≤ fnd T1 e ∨ 0 ≤ fnd T2 e := by rw [uni_mem, fnd_mem, fnd_mem]
  refine ⟨fun q => ?_, fun q r => ?_, fun q r => ?_⟩
  · rw [if_pos (hmem.2 (Or.inr (of_decide_eq_true q))), q] at p3 p4
    exact ⟨by rw [p3]; rfl, by rw [p4, p2]; rfl⟩
  · rw [if_pos (hmem.2 (Or.inl r)), q] at p3 p4
    exact ⟨by rw [p3]; rfl, by rw [p4]; rfl⟩
  · rw [if_neg (fun z => by rcases hmem.1 z with z | z; (omega); (rw [decide_eq_true z] at q; cases q))] at p3 p4
    exact ⟨by rw [p3, p1], by rw [p4, p2]⟩
end Go.Proofs.YtgmlkofogeoocaaGreatDoor

/- RosterKeeps, the walk. -/
namespace Go.Proofs.YtgmlkofogeoocaaGreatDoor
open Go.RowKit Go.Maps
set_option maxRecDepth 100000 in
set_option maxHeartbeats 1000000 in
theorem RosterKeeps_walk (W : World) (v : Value) (l : List Bx) (xs : List (Value × List Mx)) (hB : Bxs W v l xs) (_hcap : CapX xs) (v1 : Value) (T1 : List Nd) (h1 : Trd W v1 T1) (v2 : Value) (T2 : List Nd) (h2 : Trd W v2 T2) (hT : Tab W) :
    Calls Tryz.prog 4 #[v, .agg #[v1], .agg #[v2]] W fun e w' => e = .returned (.bool true) ∧ Below W.heap.size W w' := by
  obtain ⟨a1, c1, hv1⟩ := h1.slice
  obtain ⟨a2, c2, hv2⟩ := h2.slice
  obtain ⟨av, cv, hvv⟩ : ∃ a cap, v = .slice a l.length cap := by obtain ⟨a, cap, e, _⟩ := hB.form; exact ⟨a, cap, e⟩
  generalize l.length = N at hvv
  generalize T1.length = N1 at hv1
  generalize T2.length = N2 at hv2
  subst hv1 hv2 hvv
  obtain ⟨A, hA⟩ : ∃ A, A = W.heap.size := ⟨_, rfl⟩
  obtain ⟨W0, hW0⟩ : ∃ w0, w0 = (W.alloc (.cells #[.slice a1 N1 c1] 30)).alloc (.cells #[.slice a2 N2 c2] 30) := ⟨_, rfl⟩
  have e0 : Env W W0 [rsC (A + 1) #[.slice a2 N2 c2] 30, rsC A #[.slice a1 N1 c1] 30] := by
    have := ((Env.nil W).newC #[.slice a1 N1 c1] 30).newC #[.slice a2 N2 c2] 30
    simp only [World.size_alloc] at this
    rw [hW0, hA]
    exact this
  have HS : Hid (∀ z, Below W0.heap.size W0 z → z.cell? ⟨A, 0, none⟩ = some (.slice a1 N1 c1) ∧ z.cell? ⟨A + 1, 0, none⟩ = some (.slice a2 N2 c2)) := fun z hz => by
    have E := e0.new hz
    exact ⟨blk_c (i := 0) (show z.heap[A]? = some (.cells #[.slice a1 N1 c1] 30 (0, 0)) from E.nthR 1 rfl) rfl, blk_c (i := 0) (show z.heap[A + 1]? = some (.cells #[.slice a2 N2 c2] 30 (0, 0)) from E.nthR 0 rfl) rfl⟩
  have HBW : Hid (∀ z, Below W0.heap.size W0 z → Below W.heap.size W z) := fun z hz => (e0.new hz).bel
  have KZ := hide (bxsize16_any (hB.bwX ((e0.new (bw_drewR W0)).bel)))
  have KT1 : Hid (∀ z, Below W0.heap.size W0 z → Calls Tryz.prog 14 #[.agg #[.slice a1 N1 c1]] z fun e w' => ∃ n : Nat, e = .returned (.int .i64 (n : Int)) ∧ n ≤ 1125899906842624 ∧ Below z.heap.size z w') := fun z hz => treeSize_any (h1.bw (e0.new hz).bel)
  have KT2 : Hid (∀ z, Below W0.heap.size W0 z → Calls Tryz.prog 14 #[.agg #[.slice a2 N2 c2]] z fun e w' => ∃ n : Nat, e = .returned (.int .i64 (n : Int)) ∧ n ≤ 1125899906842624 ∧ Below z.heap.size z w') := fun z hz => treeSize_any (h2.bw (e0.new hz).bel)
  have KA : Hid (∀ z, Below W0.heap.size W0 z → Calls Tryz.prog 11 #[] z fun e w' => e = .returned (.bool true) ∧ Below z.heap.size z w') := fun z hz => alive16_any (hT.bw (e0.new hz).bel)
  have KSt : Hid (l.length + bsN l ≤ 262144 → ∀ z, Below W0.heap.size W0 z → Calls Tryz.prog 15 #[.slice av N cv, .agg #[.slice a1 N1 c1], .agg #[.slice a2 N2 c2], .agg #[.int .u8 0, .int .i64 0, .int .i64 0, .int .i64 0, .int .i64 0, .int .i64 0, .bool false, .slice none 0 0, .slice none 0 0, .slice none 0 0, .slice none 0 0, .int .i64 0, .int .i64 0, .slice none 0 0, .int .i64 0, .int .i64 0, .int .i64 0, .int .i64 0, .int .i64 0, .int .i64 0, .int .i64 0, .int .i64 0, .int .i64 0, .slice none 0 0, .int .i64 0, .int .i64 0, .int .i64 0, .int .i64 0, .int .i64 0, .int .i64 0]] z fun e W' => ∃ v' er, e = .returned (.tuple #[v', .int .i64 er]) ∧ Below z.heap.size z W' ∧ Hid (StlX z.heap.size W' v' er l T1 T2 (lvMl 0 0))) := fun hn z hz => by
    have bz := (e0.new hz).bel
    have K := settle_any (w := z) (m := lvMl 0 0) (x := lvMx) ((hB.rdl (smX_of hB hn)).bw bz) (szx_of hB hn) (by omega) (h1.bw bz) (h2.bw bz) (hT.bw bz) (lvMl_r z 0 0) (lvMl_sm 0 0)
    rw [lvMl_c] at K
    exact K
  have KH : Hid (l.length + bsN l ≤ 262144 → ∀ z (d : Int), Below W0.heap.size W0 z → Calls Tryz.prog 17 #[.slice av N cv, .int .i64 d] z fun e w' => ∃ th ou, e = .returned (.tuple #[.bool th, .bool ou]) ∧ Below z.heap.size z w' ∧ HasX l d th ou) := fun hn z d hz => poHas_any d ((hB.rdl (smX_of hB hn)).bw (e0.new hz).bel) (smX_of hB hn)
  have KF1 : Hid (mayB T1 = true → ∀ z (d : Int), Below W0.heap.size W0 z → Calls Tryz.prog 18 #[.agg #[.slice a1 N1 c1], .int .i64 d] z fun e w' => e = .returned (.int .i64 (fnd T1 d)) ∧ Below z.heap.size z w') := fun hm z d hz => by
    have := rfind_any (h1.bw (e0.new hz).bel) d
    rw [if_pos hm] at this
    exact this
  have KF2 : Hid (mayB T2 = true → ∀ z (d : Int), Below W0.heap.size W0 z → Calls Tryz.prog 18 #[.agg #[.slice a2 N2 c2], .int .i64 d] z fun e w' => e = .returned (.int .i64 (fnd T2 d)) ∧ Below z.heap.size z w') := fun hm z d hz => by
    have := rfind_any (h2.bw (e0.new hz).bel) d
    rw [if_pos hm] at this
    exact this
  have HSZ : Hid (l.length + bsN l ≤ 262144 → SzX 262144 l) := fun hn => szx_of hB hn
  have S0 := unhide HS W0 (Below.refl _ _)
  have S1 := unhide HS W0.drew (bw_drewR _)
  have HW := hide (And.intro hW0 hA)
  have HB0 := hide e0.bel
  clear hB h1 h2 hT hA hW0 e0
  go_enter Tryz.func4, Tryz.ntmps4
  go_upto_region 1 with fail
  rw [← (unhide HW).2]
  rw [← (unhide HW).1]
  clear HW
  go_region_held3 (fun w' : World => w'.cell? ⟨A, 0, none⟩ = some (.slice a1 N1 c1) ∧ w'.cell? ⟨A + 1, 0, none⟩ = some (.slice a2 N2 c2)) (first | with_reducible exact S0 | with_reducible exact S1 | with_reducible exact S2 | with_reducible exact S3 | with_reducible exact S4 | with_reducible exact S5 | with_reducible exact S6 | go_keep) (first
    | (go_at_call 12; refine (beyond16c z3.heap.size n m q 3 _ hn (by omega) (by omega) (blk_c (heap_alloc_new _ _) rfl) (blk_c (heap_alloc_new _ _) rfl) (blk_c (heap_alloc_new _ _) rfl)).mono ?_; rintro e_ z5 ⟨zb, rfl, hz5, hzb⟩; subst hz5; have S6 := S5)
    | (go_at_call 13; refine (unhide KZ).mono ?_; rintro e_ z1 ⟨n, rfl, hn, hnl, b1⟩; have d1 := bw_tr (bw_drewR W0) b1; have S2 := unhide HS z1 d1)
    | (go_at_call 14; first | (refine (unhide KT2 z2 d2).mono ?_; rintro e_ z3 ⟨q, rfl, hq, b3⟩; have d3 := bw_tr d2 b3; have S4 := unhide HS z3 d3; have S5 := unhide HS (z3.alloc (.cells #[.int .i64 (n : Int), .int .i64 (m : Int), .int .i64 (q : Int)] 3)) (bw_tr d3 (bwA _ _))) | (refine (unhide KT1 z1 d1).mono ?_; rintro e_ z2 ⟨m, rfl, hm, b2⟩; have d2 := bw_tr d1 b2; have S3 := unhide HS z2 d2))
    | fail)
  all_goals
    have dZ : Below W0.heap.size W0 (z3.alloc (.cells #[.int .i64 (n : Int), .int .i64 (m : Int), .int .i64 (q : Int)] 3)) := bw_tr d3 (bwA _ _)
    generalize z3.alloc (.cells #[.int .i64 (n : Int), .int .i64 (m : Int), .int .i64 (q : Int)] 3) = Z at *
    have HDZ := hide dZ
    clear d1 d2 d3 b1 b2 b3 S0 S1 S2 S3 S4 S6 dZ KZ KT1 KT2
    cases zb with
    | true =>
      have HBZ := hide (unhide HBW Z (unhide HDZ))
      clear hzb hnl S5
      go_wp2_with fail
      go_ret
      exact ⟨rfl, unhide HBZ⟩
    | false =>
      have hsum := hzb rfl
      have hn2 := hnl (by omega)
      have hlen : l.length + bsN l ≤ 262144 := by omega
      have KS1 := hide (unhide KSt hlen Z (unhide HDZ))
      have KH1 := hide (unhide KH hlen)
      have HSZ1 := hide (unhide HSZ hlen)
      obtain ⟨cA, cB⟩ := S5
      clear hzb hnl hsum hn2 hlen KSt KH HSZ
      go_wp2_with fail
      refine (unhide KS1).mono ?_
      rintro e z6 ⟨v', er, rfl, b6, hst⟩
      have HD6 := hide (bw_tr (unhide HDZ) b6)
      rcases unhide hst with ⟨rfl, _, rfl⟩ | ⟨rfl, hmy, hdv, xs', ho, _⟩
      · have KA6 := hide (unhide KA z6 (unhide HD6))
        clear KS1 hst b6 cA cB KA KH1 KF1 KF2 HSZ1
        go_wp2_with fail
        refine (unhide KA6).mono ?_
        rintro e z7 ⟨rfl, b7⟩
        have HB7 := hide (bw_tr (unhide HBW z6 (unhide HD6)) b7)
        clear b7 KA6
        go_wp2_with fail
        go_ret
        exact ⟨rfl, unhide HB7⟩
      · have hdv' := hdv
        unfold dvB at hdv'
        simp only [Bool.and_eq_true] at hdv'
        obtain ⟨m1, m2, hall⟩ := hdv'
        obtain ⟨L, hL⟩ : ∃ L, L = stls l (lvMl 0 0) T2 (uni (mems T1) (mems T2)) := ⟨_, rfl⟩
        rw [← hL] at ho
        have hml : mayP L := by rw [hL]; exact stls_may _ l hmy (fun q hq => List.all_eq_true.1 hall q hq)
        have hszL : SzX 262160 L := by
          rw [hL]
          refine (stls_sz (T2 := T2) (lvMl_sm 0 0) _ l 262144 (unhide HSZ1)).mono ?_
          have q0 := uni_len (mems T1) (mems T2)
          have q1 := mems_lenR m1
          have q2 := mems_lenR m2
          omega
        have hsmL := hszL.sm (by omega)
        have hrd := ho.bxs hsmL.b
        obtain ⟨xa, xc, hxv⟩ := own_slice ho.row
        generalize L.length = LN at hxv
        subst hxv
        have KC : Hid (Calls Tryz.prog 16 #[.slice xa LN xc] z6 fun e w' => e = .returned (.int .i64 0) ∧ Below z6.heap.size z6 w') := by
          have := poCheck_any hrd hsmL.n
          rw [mayX_iff.2 hml] at this
          exact this
        have KH2 : Hid (∀ z (d : Int), Below z6.heap.size z6 z → Calls Tryz.prog 17 #[.slice xa LN xc, .int .i64 d] z fun e w' => ∃ th ou, e = .returned (.tuple #[.bool th, .bool ou]) ∧ Below z.heap.size z w' ∧ HasX L d th ou) := fun z d hz => poHas_any d (hrd.bw hz) hsmL
        have KG1 := hide (unhide KF1 m1)
        have KG2 := hide (unhide KF2 m2)
        have HP : Hid (∀ (d : Int) (is gone th ou : Bool), HasX l d th ou → HasX L d is gone → (decide (0 ≤ fnd T2 d) = true → is = true ∧ gone = ou) ∧ (decide (0 ≤ fnd T2 d) = false → 0 ≤ fnd T1 d → is = true ∧ gone = true) ∧ (decide (0 ≤ fnd T2 d) = false → fnd T1 d < 0 → is = th ∧ gone = ou)) := fun d is gone th ou q1 q2 => by
          rw [hL] at q2
          rw [hL] at hml
          exact keeps_plain hmy hml q1 q2
        clear KS1 hst b6 cA cB KF1 KF2 HSZ1 hmy hdv hall m1 m2 hL hml hszL hsmL hrd ho
        go_wp2_with fail
        refine (unhide KC).mono ?_
        rintro e z7 ⟨rfl, b7⟩
        have HD7 : Hid (Below W0.heap.size W0 z7 ∧ Below z6.heap.size z6 z7) := ⟨bw_tr (unhide HD6) b7, b7⟩
        clear KC b7
        go_wp2_with fail
        go_loopw [9] (fun dv wr => ∃ d : Nat, dv = .int .i64 (d : Int) ∧ d ≤ 512 ∧ Hid (Below W0.heap.size W0 wr ∧ Below z6.heap.size z6 wr)) (fun dv _ => (512 - intOf dv).toNat)
        case atStart => exact ⟨0, rfl, by omega, HD7⟩
        case round =>
          clear HD7
          obtain ⟨d, rfl, hd, HR⟩ := hrel
          by_cases hlt : d < 512
          · have hdI : (d : Int) < 512 := by omega
            have h0 : (0 : Int) ≤ (d : Int) := by omega
            have K1 := hide (unhide KH1 wr (d : Int) (unhide HR).1)
            go_wp2_with fail
            refine (unhide K1).mono ?_
            rintro e y1 ⟨th, ou, rfl, f1, q1⟩
            have HR1 : Hid ((Below W0.heap.size W0 y1 ∧ Below z6.heap.size z6 y1) ∧ HasX l (d : Int) th ou) := ⟨⟨bw_tr (unhide HR).1 f1, bw_tr (unhide HR).2 f1⟩, q1⟩
            have K2 := hide (unhide KH2 y1 (d : Int) (unhide HR1).1.2)
            clear K1 f1 q1 HR
            go_wp2_with fail
            refine (unhide K2).mono ?_
            rintro e y2 ⟨is, gone, rfl, f2, q2⟩
            have HR2 : Hid (Below W0.heap.size W0 y2 ∧ Below z6.heap.size z6 y2) := ⟨bw_tr (unhide HR1).1.1 f2, bw_tr (unhide HR1).1.2 f2⟩
            have hpl := unhide HP (d : Int) is gone th ou (unhide HR1).2 q2
            obtain ⟨cA, cB⟩ := unhide HS y2 (unhide HR2).1
            have K3 := hide (unhide KG2 y2 (d : Int) (unhide HR2).1)
            obtain ⟨FD2, hFD2⟩ : ∃ f, f = fnd T2 (d : Int) := ⟨_, rfl⟩
            obtain ⟨FD1, hFD1⟩ : ∃ f, f = fnd T1 (d : Int) := ⟨_, rfl⟩
            rw [← hFD2] at K3 hpl
            rw [← hFD1] at hpl
            have HPl := hide hpl
            have HF1 := hide hFD1
            clear K2 f2 q2 HR1 hpl hFD2 hFD1
            by_cases hmb : 0 ≤ FD2
            · have e1 : decide (0 ≤ FD2) = true := decide_eq_true hmb
              obtain ⟨rfl, rfl⟩ := (unhide HPl).1 e1
              go_wp2_with fail
              refine (unhide K3).mono ?_
              rintro e y3 ⟨rfl, f3⟩
              have HRZ : Hid (Below W0.heap.size W0 y3 ∧ Below z6.heap.size z6 y3) := ⟨bw_tr (unhide HR2).1 f3, bw_tr (unhide HR2).2 f3⟩
              clear K3 f3 HR2 HPl HF1 cA cB
              go_wp2_with fail
              go_roundw
              case rel => exact ⟨d + 1, by go_num, by omega, HRZ⟩
              case measure => simp only [intOf]; omega
            · have e1 : decide (0 ≤ FD2) = false := decide_eq_false hmb
              go_wp2_with fail
              refine (unhide K3).mono ?_
              rintro e y3 ⟨rfl, f3⟩
              have HR3 : Hid (Below W0.heap.size W0 y3 ∧ Below z6.heap.size z6 y3) := ⟨bw_tr (unhide HR2).1 f3, bw_tr (unhide HR2).2 f3⟩
              obtain ⟨cA, cB⟩ := unhide HS y3 (unhide HR3).1
              have K4 := hide (unhide KG1 y3 (d : Int) (unhide HR3).1)
              rw [← unhide HF1] at K4
              clear K3 f3 HR2
              by_cases hm1 : FD1 < 0
              · obtain ⟨rfl, rfl⟩ := (unhide HPl).2.2 e1 hm1
                have e2 : decide (FD1 < 0) = true := decide_eq_true hm1
                clear HPl HF1
                go_wp2_with fail
                refine (unhide K4).mono ?_
                rintro e y4 ⟨rfl, f4⟩
                have HRZ : Hid (Below W0.heap.size W0 y4 ∧ Below z6.heap.size z6 y4) := ⟨bw_tr (unhide HR3).1 f4, bw_tr (unhide HR3).2 f4⟩
                clear K4 f4 HR3 cA cB
                go_wp2_with fail
                go_roundw
                case rel => exact ⟨d + 1, by go_num, by omega, HRZ⟩
                case measure => simp only [intOf]; omega
              · obtain ⟨rfl, rfl⟩ := (unhide HPl).2.1 e1 (by omega)
                have e2 : decide (FD1 < 0) = false := decide_eq_false hm1
                clear HPl HF1
                go_wp2_with fail
                refine (unhide K4).mono ?_
                rintro e y4 ⟨rfl, f4⟩
                have HRZ : Hid (Below W0.heap.size W0 y4 ∧ Below z6.heap.size z6 y4) := ⟨bw_tr (unhide HR3).1 f4, bw_tr (unhide HR3).2 f4⟩
                clear K4 f4 HR3 cA cB
                go_wp2_with fail
                go_roundw
                case rel => exact ⟨d + 1, by go_num, by omega, HRZ⟩
                case measure => simp only [intOf]; omega
          · obtain rfl : d = 512 := by omega
            have KA8 := hide (unhide KA wr (unhide HR).1)
            have HB8 := hide (unhide HBW wr (unhide HR).1)
            clear hlt hd
            go_wp2_with fail
            refine (unhide KA8).mono ?_
            rintro e y9 ⟨rfl, f9⟩
            have HB9 := hide (bw_tr (unhide HB8) f9)
            clear KA8 f9 HB8
            go_wp2_with fail
            go_ret
            exact ⟨rfl, unhide HB9⟩
end Go.Proofs.YtgmlkofogeoocaaGreatDoor
