/- Texts joined: RoCc RoCd. -/
import Derived.Test.YtgmlkofogeoocaaGreatDoorRoCb
import Derived.Test.YtgmlkofogeoocaaGreatDoorZ20
/- Where the card of a user stands (find). mkRoC.py writes it, out of PoF. -/
namespace Go.Proofs.YtgmlkofogeoocaaGreatDoor.Cd
open Go.RowKit Go.Maps
set_option maxRecDepth 100000 in
set_option maxHeartbeats 4000000 in
theorem find1x_any {w : World} {bl bg gb o N cap i : Nat} {g pg : Int} (hi : i < N) (hN : N ≤ 1073741824) (c1 : w.cell? ⟨bl, 0, none⟩ = some (.slice (some ⟨gb, o, none⟩) N cap)) (c2 : w.cell? ⟨bg, 0, none⟩ = some (.int .i64 g)) (c3 : w.cell? ⟨gb, o + i * 3, none⟩ = some (.int .i64 pg)) :
    Calls Tryz.prog 62 #[.int .i64 (i : Int), .pointer (some ⟨bl, 0, none⟩), .pointer (some ⟨bg, 0, none⟩)] w fun e w' => e = .returned (.bool (decide (g ≤ pg))) ∧ ∃ q, w' = w.drewN q := by
  have hiI : (i : Int) < (N : Int) := by omega
  have h0 : (0 : Int) ≤ (i : Int) := by omega
  have hNI : (N : Int) ≤ 1073741824 := by omega
  clear hi hN
  go_enter Tryz.func62, Tryz.ntmps62
  go_wp2_with fail
  go_quiet (fail)
  go_wp2_with fail
  go_ret
  exact ⟨rfl, _, rfl⟩
set_option maxRecDepth 100000 in
set_option maxHeartbeats 4000000 in
theorem searchx_any {w : World} {n bl bg : Nat} {p : Nat → Bool} (hn : n ≤ 1073741824)
    (hf : ∀ (m i : Nat), i < n → Calls Tryz.prog 62 #[.int .i64 (i : Int), .pointer (some ⟨bl, 0, none⟩), .pointer (some ⟨bg, 0, none⟩)] (w.drewN m) fun e w' => e = .returned (.bool (p i)) ∧ ∃ q, w' = (w.drewN m).drewN q)
    (hm : ∀ a b, a ≤ b → b < n → p a = true → p b = true) :
    Calls Tryz.prog 61 #[.int .i64 (n : Int), .func (.func 62) #[] #[.pointer (some ⟨bl, 0, none⟩), .pointer (some ⟨bg, 0, none⟩)]] w fun e w' => ∃ k : Nat, e = .returned (.int .i64 (k : Int)) ∧ k ≤ n ∧ (∀ j, j < k → p j = false) ∧ (∀ j, k ≤ j → j < n → p j = true) ∧ ∃ q, w' = w.drewN q := by
  have HF := hide hf
  have HM := hide hm
  have hnI : (n : Int) ≤ 1073741824 := by omega
  clear hf hm
  go_enter Tryz.func61, Tryz.ntmps61
  go_wp2_with fail
  go_loopw [5, 6] (fun s5 s6 wr => ∃ (lo hi q : Nat), s5 = .int .i64 (lo : Int) ∧ s6 = .int .i64 (hi : Int) ∧ lo ≤ hi ∧ hi ≤ n ∧ wr = w.drewN q ∧ Hid ((∀ t, t < lo → p t = false) ∧ (∀ t, hi ≤ t → t < n → p t = true))) (fun s5 s6 _ => (intOf s6 - intOf s5).toNat)
  case atStart => exact ⟨0, n, 0, rfl, rfl, Nat.zero_le _, Nat.le_refl _, rfl, fun t ht => absurd ht (by omega), fun t h1 h2 => by omega⟩
  case round =>
    obtain ⟨lo, hi, q, rfl, rfl, hlh, hin, hw, HI⟩ := hrel
    subst hw
    have hiI : (hi : Int) ≤ 1073741824 := by omega
    have hlI : (lo : Int) ≤ (hi : Int) := by omega
    by_cases hlt : lo < hi
    · have hltI : (lo : Int) < (hi : Int) := by omega
      have hc := unhide HF q ((lo + hi) / 2) (by omega)
      rw [show (((lo + hi) / 2 : Nat) : Int) = ((lo : Int) + (hi : Int)) / 2 by omega] at hc
      obtain ⟨pb, hpb⟩ : ∃ b, b = p ((lo + hi) / 2) := ⟨_, rfl⟩
      rw [← hpb] at hc
      have HP := hide hpb
      have KC := hide hc
      clear hpb hc
      cases pb with
      | false =>
        have I2 : Hid ((∀ t, t < (lo + hi) / 2 + 1 → p t = false) ∧ (∀ t, hi ≤ t → t < n → p t = true)) := ⟨fun t ht => (by
          cases h : p t with
          | false => rfl
          | true => have := unhide HM t ((lo + hi) / 2) (by omega) (by omega) h; rw [← unhide HP] at this; cases this), (unhide HI).2⟩
        clear HP HI
        go_wp2_with fail
        refine (unhide KC).mono ?_
        rintro e w' ⟨rfl, q2, rfl⟩
        go_wp2_with fail
        go_roundw
        case rel => exact ⟨(lo + hi) / 2 + 1, hi, q + q2, by rw [show ((lo : Int) + (hi : Int)) / 2 + 1 = (((lo + hi) / 2 + 1 : Nat) : Int) by omega], rfl, by omega, hin, rfl, I2⟩
        case measure => simp only [intOf]; omega
      | true =>
        have I2 : Hid ((∀ t, t < lo → p t = false) ∧ (∀ t, (lo + hi) / 2 ≤ t → t < n → p t = true)) := ⟨(unhide HI).1, fun t ht htn => unhide HM ((lo + hi) / 2) t ht htn (unhide HP).symm⟩
        clear HP HI
        go_wp2_with fail
        refine (unhide KC).mono ?_
        rintro e w' ⟨rfl, q2, rfl⟩
        go_wp2_with fail
        go_roundw
        case rel => exact ⟨lo, (lo + hi) / 2, q + q2, rfl, by rw [show ((lo : Int) + (hi : Int)) / 2 = (((lo + hi) / 2 : Nat) : Int) by omega], by omega, by omega, rfl, I2⟩
        case measure => simp only [intOf]; omega
    · obtain rfl : hi = lo := by omega
      go_wp2_with fail
      go_ret
      exact ⟨hi, rfl, hin, (unhide HI).1, (unhide HI).2, q, rfl⟩
structure AtX (l : List Cd) (d : Int) (k : Nat) : Prop where
  le : k ≤ l.length
  lo : ∀ (j : Nat) (p : Cd), j < k → l[j]? = some p → p.us < d
  hi : ∀ (j : Nat) (p : Cd), k ≤ j → l[j]? = some p → d ≤ p.us
theorem ris_monoX {l : List Cd} (h : mayP l) : ∀ (a b : Nat) (p q : Cd), a < b → l[a]? = some p → l[b]? = some q → p.us < q.us := by
  intro a b p q hab hp hq
  induction b generalizing q with
  | zero => omega
  | succ b ih =>
    have hb : b < l.length := by have := (List.getElem?_eq_some_iff.1 hq).1; omega
    have hbq := (h (b + 1) q hq).2 l[b] b rfl (List.getElem?_eq_getElem hb)
    rcases Nat.lt_or_ge a b with c | c
    · have := ih l[b] c (List.getElem?_eq_getElem hb); omega
    · obtain rfl : a = b := by omega
      rw [List.getElem?_eq_getElem hb] at hp; cases hp; exact hbq
theorem AtX.noneX {l : List Cd} {d : Int} {k : Nat} (h : AtX l d k) (hr : mayP l) (hn : ∀ p, l[k]? = some p → p.us ≠ d) : ∀ p ∈ l, p.us ≠ d := by
  intro x hx e
  obtain ⟨j, hj⟩ := List.getElem?_of_mem hx
  rcases Nat.lt_trichotomy j k with c | c | c
  · have := h.lo j x c hj; omega
  · subst c; exact hn x hj e
  · have hk : k < l.length := by have := (List.getElem?_eq_some_iff.1 hj).1; omega
    have h1 := h.hi k l[k] (Nat.le_refl _) (List.getElem?_eq_getElem hk)
    have h2 := ris_monoX hr k j l[k] x c (List.getElem?_eq_getElem hk) hj
    omega
def FnX (l : List Cd) (d : Int) (k : Nat) (th : Bool) : Prop :=
  AtX l d k ∧ ((th = false ∧ (∀ p ∈ l, p.us ≠ d)) ∨ (th = true ∧ ∃ p, l[k]? = some p ∧ p.us = d))
set_option maxRecDepth 100000 in
set_option maxHeartbeats 4000000 in
theorem findBx_any {u w : World} {v : Value} {l : List Cd} {xs : List Unit} (h : RdL kCd u v l xs) (hu : Below u.heap.size u w) (hr : mayP l) (hl : l.length ≤ 1073741824) (g : Int) :
    Calls Tryz.prog 38 #[v, .int .i64 g] w fun e w' => ∃ (k : Nat) (th : Bool), e = .returned (.tuple #[.int .i64 (k : Int), .bool th]) ∧ FnX l g k th ∧ Below w.heap.size w w' := by
  obtain ⟨a, cap, rfl⟩ := rdl_slice h
  obtain ⟨N, hN⟩ : ∃ N, N = l.length := ⟨_, rfl⟩
  rw [← hN] at h hl ⊢
  have hNI : (N : Int) ≤ 1073741824 := by omega
  obtain ⟨W0, hW0⟩ : ∃ W, W = (w.alloc (.cells #[.slice a N cap] 60)).alloc (.cells #[.int .i64 g] 3) := ⟨_, rfl⟩
  have bw0 : Below w.heap.size w W0 := by rw [hW0]; exact bw_tr (bwA _ _) (bwA _ _)
  have b0 : Below u.heap.size u W0 := bw_tr hu bw0
  have k1 : W0.heap[w.heap.size]? = some (.cells #[.slice a N cap] 60 (0, 0)) := by
    have h1 := heap_alloc_new w (.cells #[.slice a N cap] 60)
    rw [hW0, Below.heap_alloc _ _ _ (by simp)]; exact h1
  have k2 : W0.heap[w.heap.size + 1]? = some (.cells #[.int .i64 g] 3 (0, 0)) := by
    have h2 := heap_alloc_new (w.alloc (.cells #[.slice a N cap] 60)) (.cells #[.int .i64 g] 3)
    have e : (w.alloc (.cells #[.slice a N cap] 60)).heap.size = w.heap.size + 1 := by simp
    rw [e] at h2
    rw [hW0]; exact h2
  have c1 : W0.cell? ⟨w.heap.size, 0, none⟩ = some (.slice a N cap) := blk_c k1 rfl
  have c2 : W0.cell? ⟨w.heap.size + 1, 0, none⟩ = some (.int .i64 g) := blk_c k2 rfl
  have KS : Calls Tryz.prog 61 #[.int .i64 (N : Int), .func (.func 62) #[] #[.pointer (some ⟨w.heap.size, 0, none⟩), .pointer (some ⟨w.heap.size + 1, 0, none⟩)]] W0 fun e w' => ∃ k : Nat, e = .returned (.int .i64 (k : Int)) ∧ Hid (k ≤ N ∧ AtX l g k) ∧ ∃ q, w' = W0.drewN q := by
    refine (searchx_any (w := W0) (n := N) (bl := w.heap.size) (bg := w.heap.size + 1) (p := fun i => decide (g ≤ ((l.map (·.us)).getD i 0))) hl ?_ ?_).mono ?_
    · intro m i hi
      obtain ⟨p, hp⟩ : ∃ p, l[i]? = some p := ⟨_, List.getElem?_eq_getElem (by omega)⟩
      obtain ⟨gb, o, x0, rfl, _, _, hc0⟩ := h.get hp
      have d0 : u.cell? ⟨gb, o + i * 3, none⟩ = some (.int .i64 p.us) := hc0 0 _ rfl
      have e : (l.map (·.us)).getD i 0 = p.us := by rw [List.getD_eq_getElem?_getD, List.getElem?_map, hp]; rfl
      rw [e]
      have hb := below_drewN (Below.refl W0.heap.size W0) m
      exact find1x_any hi hl (by rw [hb.cell (lt_of_cell c1)]; exact c1) (by rw [hb.cell (lt_of_cell c2)]; exact c2) (by rw [(bw_tr b0 hb).cell (lt_of_cell d0)]; exact d0)
    · intro x y hxy hy hpx
      simp only [decide_eq_true_eq] at hpx ⊢
      have hxl : x < l.length := by omega
      have hyl : y < l.length := by omega
      have ex : (l.map (·.us)).getD x 0 = l[x].us := by rw [List.getD_eq_getElem?_getD, List.getElem?_map, List.getElem?_eq_getElem hxl]; rfl
      have ey : (l.map (·.us)).getD y 0 = l[y].us := by rw [List.getD_eq_getElem?_getD, List.getElem?_map, List.getElem?_eq_getElem hyl]; rfl
      rw [ex] at hpx
      rw [ey]
      rcases Nat.lt_or_ge x y with c | c
      · have := ris_monoX hr x y l[x] l[y] c (List.getElem?_eq_getElem hxl) (List.getElem?_eq_getElem hyl); omega
      · obtain rfl : x = y := by omega
        exact hpx
    · rintro e w' ⟨k, rfl, hk, h1, h2, hq⟩
      refine ⟨k, rfl, ⟨hk, by omega, fun j p hj hp => ?_, fun j p hj hp => ?_⟩, hq⟩
      · have := h1 j hj
        have e : (l.map (·.us)).getD j 0 = p.us := by rw [List.getD_eq_getElem?_getD, List.getElem?_map, hp]; rfl
        simp only [e, decide_eq_false_iff_not] at this
        omega
      · have := h2 j hj (by have := (List.getElem?_eq_some_iff.1 hp).1; omega)
        have e : (l.map (·.us)).getD j 0 = p.us := by rw [List.getD_eq_getElem?_getD, List.getElem?_map, hp]; rfl
        simp only [e, decide_eq_true_eq] at this
        omega
  have HW := hide hW0
  have HH := hide (And.intro h (And.intro hN (And.intro hr (And.intro b0 bw0))))
  have KH := hide KS
  clear h hr hl hN hW0 b0 bw0 hu k1 k2 KS
  go_enter Tryz.func38, Tryz.ntmps38
  go_upto_region 1 with fail
  rw [← unhide HW]
  clear HW
  go_wp2_with fail
  refine (unhide KH).mono ?_
  rintro e w1 ⟨k, rfl, hk, q, rfl⟩
  obtain ⟨hkN, hat⟩ := unhide hk
  obtain ⟨h, hN, hr, b0, bw0⟩ := unhide HH
  rcases Nat.lt_or_ge k N with hlt | hge
  · have hkI : (k : Int) < (N : Int) := by omega
    have h0 : (0 : Int) ≤ (k : Int) := by omega
    obtain ⟨p, hp⟩ : ∃ p, l[k]? = some p := ⟨_, List.getElem?_eq_getElem (by omega)⟩
    obtain ⟨gb, o, x0, rfl, _, _, hc0⟩ := h.get hp
    have d0 : u.cell? ⟨gb, o + k * 3, none⟩ = some (.int .i64 p.us) := hc0 0 _ rfl
    obtain ⟨pg, hpg⟩ : ∃ z, z = p.us := ⟨_, rfl⟩
    rw [← hpg] at d0
    have f0 : W0.cell? ⟨gb, o + k * 3, none⟩ = some (.int .i64 pg) := by rw [b0.cell (lt_of_cell d0)]; exact d0
    have hd : decide ((k : Int) < (N : Int)) = true := decide_eq_true hkI
    have hd2 : decide (k < N) = true := decide_eq_true hlt
    by_cases hq : pg = g
    · have HR : Hid (FnX l g k true ∧ Below w.heap.size w W0) := ⟨⟨hat, Or.inr ⟨rfl, p, hp, by rw [← hpg]; exact hq⟩⟩, bw0⟩
      have hq2 : (pg == g) = true := by simp [hq]
      clear hat h hN hr b0 bw0 hp d0 hc0 hpg hk KH HH hkN
      subst hq
      go_wp2_with fail
      go_quiet (fail)
      go_wp2_with fail
      go_ret2
      exact ⟨k, _, rfl, (by simpa using (unhide HR).1), below_drewN (below_drewN (unhide HR).2 _) _⟩
    · have hq2 : (pg == g) = false := by simp [hq]
      have hq3 : decide (pg = g) = false := decide_eq_false hq
      have HR : Hid (FnX l g k false ∧ Below w.heap.size w W0) := by
        have hn : ∀ p', l[k]? = some p' → p'.us ≠ g := fun p' hp' => by rw [hp] at hp'; cases hp'; rw [← hpg]; exact hq
        exact ⟨⟨hat, Or.inl ⟨rfl, hat.noneX hr hn⟩⟩, bw0⟩
      clear hat h hN hr b0 bw0 hp d0 hc0 hpg hk KH HH hkN
      go_wp2_with fail
      go_quiet (fail)
      go_wp2_with fail
      go_ret2
      exact ⟨k, _, rfl, (by simpa [hq3] using (unhide HR).1), below_drewN (below_drewN (unhide HR).2 _) _⟩
  · obtain rfl : k = N := by omega
    have HR : Hid (FnX l g k false ∧ Below w.heap.size w W0) := by
      have hn : ∀ p', l[k]? = some p' → p'.us ≠ g := fun p' hp' => by rw [List.getElem?_eq_none (by omega)] at hp'; cases hp'
      exact ⟨⟨hat, Or.inl ⟨rfl, hat.noneX hr hn⟩⟩, bw0⟩
    clear hat h hN hr b0 bw0 hk KH HH hge hkN
    go_wp2_with fail
    go_quiet (fail)
    go_wp2_with fail
    go_ret2
    exact ⟨k, _, rfl, (unhide HR).1, below_drewN (below_drewN (unhide HR).2 _) _⟩
end Go.Proofs.YtgmlkofogeoocaaGreatDoor.Cd

/- The library's slices.Insert at cards: one card comes into a row of one's own. mkRoC.py writes it, out of PoO. -/
namespace Go.Proofs.YtgmlkofogeoocaaGreatDoor.Cd
open Go.RowKit Go.Maps
theorem owl_ins {B : Nat} {w W w' : World} {v v' : Value} {l : List Cd} {xs : List Unit} {k : Nat} {G E Pb : Int} (ho : OwL kCd B w v l xs) (hb : Below w.heap.size w W) (hf : Fr v.ownBlock.toList W w') (hk : k ≤ l.length)
    (hrow : w'.ownsRow B 44 3 v' (l.length + 1) ((cellK kCd l xs).take (k * 3) ++ ([.int .i64 G, .int .i64 E, .int .i64 Pb] ++ (cellK kCd l xs).drop (k * 3)))) (hv : v'.ownBlock = v.ownBlock ∨ ∀ b, v'.ownBlock = some b → w.heap.size ≤ b) :
    OwL kCd B w' v' (insAt l k ⟨G, E, Pb⟩) (insAt xs k ()) := by
  have hkx : k ≤ xs.length := by rw [ho.xl]; exact hk
  have kp : ∀ (i : Nat) (a : Cd) (x : Unit), l[i]? = some a → xs[i]? = some x → kCd.O B w' a x := fun i a x ha hx => kCd.keep _ _ _ _ _ (ho.el i a x ha hx) (fun z hz => by
    have h1 := (ho.lt z (zK_el hx hz)).2
    rw [hf.block z (Nat.lt_of_lt_of_le h1 hb.size) (fun c => ho.self z i x (by simpa using c) hx hz), hb.block z h1])
  have hZ : ∀ (j : Nat) (x : Unit) (z : Nat), (insAt xs k ())[j]? = some x → z ∈ kCd.Z x → ∃ i, xs[i]? = some x ∧ j ≠ k ∧ (j < k ∧ i = j ∨ k < j ∧ i = j - 1) := fun j x z hx hz => by
    rcases Nat.lt_trichotomy j k with c | c | c
    · rw [insAt_lt _ hkx c] at hx; exact ⟨j, hx, by omega, Or.inl ⟨c, rfl⟩⟩
    · subst c; rw [insAt_eq _ hkx] at hx; cases hx; cases hz
    · rw [insAt_gt _ hkx c] at hx; exact ⟨j - 1, hx, by omega, Or.inr ⟨c, rfl⟩⟩
  refine ⟨by rw [insAt_len, insAt_len, ho.xl], ?_, fun i a x ha hx => ?_, fun i j x y z hx hy hzx hzy => ?_, fun z i x hz hx hzx => ?_⟩
  · rw [insAt_len, cellK_ins ho.xl k]; exact hrow
  · rcases Nat.lt_trichotomy i k with c | c | c
    · rw [insAt_lt _ hk c] at ha; rw [insAt_lt _ hkx c] at hx; exact kp i a x ha hx
    · subst c; rw [insAt_eq _ hk] at ha; rw [insAt_eq _ hkx] at hx; cases ha; cases hx; exact trivial
    · rw [insAt_gt _ hk c] at ha; rw [insAt_gt _ hkx c] at hx; exact kp _ a x ha hx
  · obtain ⟨i', hi', _, hc⟩ := hZ i x z hx hzx
    obtain ⟨j', hj', _, hd⟩ := hZ j y z hy hzy
    have := ho.ap i' j' x y z hi' hj' hzx hzy
    omega
  · obtain ⟨i', hi', _, _⟩ := hZ i x z hx hzx
    rcases hv with c | c
    · exact ho.self z i' x (by rw [← c]; exact hz) hi' hzx
    · have h1 := c z hz
      have h2 := (ho.lt z (zK_el hi' hzx)).2
      omega
set_option maxRecDepth 100000 in
set_option maxHeartbeats 8000000 in
theorem insEnd_any {B : Nat} {w : World} {v : Value} {l : List Cd} {xs : List Unit} {G E Pb : Int} (ho : OwL kCd B w v l xs) (hB : B ≤ w.heap.size) (hl : l.length ≤ 1073741824) :
    Calls Tryz.prog 39 #[v, .int .i64 (l.length : Int), .slice (some ⟨w.heap.size, 0, none⟩) 1 1] (w.alloc (.cells #[.int .i64 G, .int .i64 E, .int .i64 Pb] 44)) fun e w' => ∃ v', e = .returned v' ∧ OwL kCd B w' v' (insAt l l.length ⟨G, E, Pb⟩) (insAt xs l.length ()) ∧ Fr v.ownBlock.toList w w' := by
  obtain ⟨j0, hj, hy0, hy1, hyb⟩ := info_parts infoKCard
  obtain ⟨W, hW⟩ : ∃ W, W = w.alloc (.cells #[.int .i64 G, .int .i64 E, .int .i64 Pb] 44) := ⟨_, rfl⟩
  have bW : Below w.heap.size w W := by rw [hW]; exact bwA _ _
  have hrow : W.ownsRow B 44 3 v l.length (cellK kCd l xs) := own_keep ho.row (fun k hk => bW.block k (World.ownsRow.lt ho.row k hk).2)
  have hnew := cells_newM w [.int .i64 G, .int .i64 E, .int .i64 Pb] 44
  rw [← hW] at hnew ⊢
  have hclen : (cellK kCd l xs).length = l.length * 3 := cellK_len ho.xl
  have HO := hide (And.intro ho (And.intro bW hclen))
  obtain ⟨a, c, hv⟩ := own_slice ho.row
  obtain ⟨N, hN⟩ : ∃ N, N = l.length := ⟨_, rfl⟩
  rw [← hN] at hv hrow hl ⊢
  have hNI : (N : Int) ≤ 1073741824 := by omega
  have h0 : (0 : Int) ≤ (N : Int) := by omega
  have hBW : B ≤ W.heap.size := Nat.le_trans hB bW.size
  have HH := hide (And.intro hrow (And.intro hnew (And.intro hl hBW)))
  have HN := hide hN
  have hAs : Hid (a = none ∨ ∃ b, a = some ⟨b, 0, none⟩) := by
    rcases hrow.2 with ⟨q, _⟩ | ⟨g, cp, cur, q, _⟩
    · rw [hv] at q; cases q; exact Or.inl rfl
    · rw [hv] at q; cases q; exact Or.inr ⟨g, rfl⟩
  have hN0 : Hid (a = none → N = 0 ∧ c = 0) := fun q => by
    rcases hrow.2 with ⟨q', q2⟩ | ⟨g, cp, cur, q', _⟩
    · rw [hv] at q'; cases q'; exact ⟨rfl, rfl⟩
    · rw [hv] at q'; cases q'; cases q
  subst hv
  clear ho bW hrow hnew hl hBW hN hclen hW
  have fin : Hid (∀ v' w', w'.ownsRow B 44 3 v' (N + 1) (cellK kCd l xs ++ [.int .i64 G, .int .i64 E, .int .i64 Pb]) → W.grownBy w' (Value.slice a N c).ownBlock → (v'.ownBlock = (Value.slice a N c).ownBlock ∨ v'.ownBlock = some W.heap.size) → OwL kCd B w' v' (insAt l N ⟨G, E, Pb⟩) (insAt xs N ()) ∧ Fr (Value.slice a N c).ownBlock.toList w w') := fun v' w' h1 h2 h3 => by
    obtain ⟨ho, bW, hclen⟩ := unhide HO
    have e := unhide HN
    refine ⟨?_, (Fr.ofBelow bW).trans (Fr.ofGrown h2) (fun _ _ q => by cases q) (fun _ _ q => q)⟩
    have := owl_ins ho (k := N) (G := G) bW (Fr.ofGrown h2) (by omega) (v' := v') (by
      rw [List.take_of_length_le (by rw [hclen]; omega), List.drop_eq_nil_of_le (by rw [hclen]; omega), List.append_nil, ← e]
      exact h1) (h3.imp (fun q => q) (fun q b hb => by rw [q] at hb; cases hb; exact bW.size))
    exact this
  by_cases hz : N = 0 ∧ a = none
  · obtain ⟨rfl, rfl⟩ := hz
    obtain ⟨-, rfl⟩ := unhide hN0 rfl
    go_enter Tryz.func39, Tryz.ntmps39
    go_wp2_with (at_builtin; refine wpList_append_own_at _ rfl (.tmp 23) (.tmp 24) 60 rfl B 44 j0 (.agg #[.int .i64 0, .int .i64 0, .int .i64 0]) 3 24 Tryz.underlying60 hj hy0 hy1 hyb rfl (by decide) _ 0 (cellK kCd l xs) rfl (unhide HH).1 ⟨w.heap.size, 0, none⟩ 1 1 [.int .i64 G, .int .i64 E, .int .i64 Pb] rfl rfl (unhide HH).2.1 (by intro u hu; simp at hu; rcases hu with rfl | rfl | rfl <;> rfl) ?c3a ?c4a ?c5a ?nxa)
    case c3a => unfold maxLen; omega
    case c5a => exact (unhide HH).2.2.2
    case nxa =>
      intro v' w3 hown' hgrow _ hat
      have HR := hide (unhide fin v' w3 hown' hgrow hat)
      obtain ⟨a', c', rfl⟩ := own_slice hown'
      clear hown' hgrow hat
      go_wp2_with fail
      go_ret
      exact ⟨_, rfl, (unhide HR).1, (unhide HR).2⟩
  · obtain ⟨b, rfl⟩ : ∃ b, a = some ⟨b, 0, none⟩ := by
      rcases unhide hAs with q | q
      · exact absurd ⟨(unhide hN0 q).1, q⟩ hz
      · exact q
    clear hz hAs hN0
    by_cases hcN : c = N
    · subst hcN
      go_enter Tryz.func39, Tryz.ntmps39
      go_wp2_with (at_builtin; refine wpList_append_own_at _ rfl (.tmp 23) (.tmp 24) 60 rfl B 44 j0 (.agg #[.int .i64 0, .int .i64 0, .int .i64 0]) 3 24 Tryz.underlying60 hj hy0 hy1 hyb rfl (by decide) _ c (cellK kCd l xs) rfl (unhide HH).1 ⟨w.heap.size, 0, none⟩ 1 1 [.int .i64 G, .int .i64 E, .int .i64 Pb] rfl rfl (unhide HH).2.1 (by intro u hu; simp at hu; rcases hu with rfl | rfl | rfl <;> rfl) ?c3b ?c4b ?c5b ?nxb)
      case c3b => have := (unhide HH).2.2.1; unfold maxLen; omega
      case c4b => have := (unhide HH).2.2.1; omega
      case c5b => exact (unhide HH).2.2.2
      case nxb =>
        intro v' w3 hown' hgrow _ hat
        have HR := hide (unhide fin v' w3 hown' hgrow hat)
        obtain ⟨a', c', rfl⟩ := own_slice hown'
        clear hown' hgrow hat
        go_wp2_with fail
        go_ret
        exact ⟨_, rfl, (unhide HR).1, (unhide HR).2⟩
    · go_enter Tryz.func39, Tryz.ntmps39
      go_wp2_with (at_builtin; refine wpList_append_own_at _ rfl (.tmp 23) (.tmp 24) 60 rfl B 44 j0 (.agg #[.int .i64 0, .int .i64 0, .int .i64 0]) 3 24 Tryz.underlying60 hj hy0 hy1 hyb rfl (by decide) _ N (cellK kCd l xs) rfl (unhide HH).1 ⟨w.heap.size, 0, none⟩ 1 1 [.int .i64 G, .int .i64 E, .int .i64 Pb] rfl rfl (unhide HH).2.1 (by intro u hu; simp at hu; rcases hu with rfl | rfl | rfl <;> rfl) ?c3c ?c4c ?c5c ?nxc)
      case c3c => have := (unhide HH).2.2.1; unfold maxLen; omega
      case c4c => have := (unhide HH).2.2.1; omega
      case c5c => exact (unhide HH).2.2.2
      case nxc =>
        intro v' w3 hown' hgrow _ hat
        have HR := hide (unhide fin v' w3 hown' hgrow hat)
        obtain ⟨a', c', rfl⟩ := own_slice hown'
        clear hown' hgrow hat
        go_wp2_with fail
        go_ret
        exact ⟨_, rfl, (unhide HR).1, (unhide HR).2⟩
set_option maxRecDepth 100000 in
set_option maxHeartbeats 8000000 in
theorem insRoom_any {B : Nat} {w : World} {b c : Nat} {l : List Cd} {xs : List Unit} {k : Nat} {G E Pb : Int} (ho : OwL kCd B w (.slice (some ⟨b, 0, none⟩) l.length c) l xs) (h1c : ∀ u ∈ cellK kCd l xs, u.oneCell' = true) (hk : k < l.length) (hl : l.length ≤ 1073741824) (hroom : l.length + 1 ≤ c) :
    Calls Tryz.prog 39 #[.slice (some ⟨b, 0, none⟩) l.length c, .int .i64 (k : Int), .slice (some ⟨w.heap.size, 0, none⟩) 1 1] (w.alloc (.cells #[.int .i64 G, .int .i64 E, .int .i64 Pb] 44)) fun e w' => ∃ v', e = .returned v' ∧ OwL kCd B w' v' (insAt l k ⟨G, E, Pb⟩) (insAt xs k ()) ∧ Fr [b] w w' := by
  obtain ⟨j0, hj, hy0, hy1, hyb⟩ := info_parts infoKCard
  have hsz : (Tryz.prog.info? 44).map (·.size) = some 3 := by rw [hj]; simp [hy1]
  obtain ⟨W, hW⟩ : ∃ W, W = w.alloc (.cells #[.int .i64 G, .int .i64 E, .int .i64 Pb] 44) := ⟨_, rfl⟩
  have bW : Below w.heap.size w W := by rw [hW]; exact bwA _ _
  have hrow2 : w.ownsRow B 44 3 (.slice (some ⟨b, 0, none⟩) l.length c) l.length (cellK kCd l xs) := ho.row
  obtain ⟨cur, hb0, hBb, hnc, hcm, hcs, hct⟩ := own_blkB hrow2
  clear hrow2
  have hbw : b < w.heap.size := lt_of_blk hb0
  have hb : W.heap[b]? = some (.cells cur 44 (0, 0)) := by rw [bW.block b hbw]; exact hb0
  have hv : W.heap[w.heap.size]? = some (.cells #[.int .i64 G, .int .i64 E, .int .i64 Pb] 44 (0, 0)) := by rw [hW]; exact heap_alloc_new _ _
  have hclen : (cellK kCd l xs).length = l.length * 3 := cellK_len ho.xl
  rw [← hW]
  obtain ⟨cs, hcsd⟩ : ∃ z, z = cellK kCd l xs := ⟨_, rfl⟩
  obtain ⟨N, hN⟩ : ∃ N, N = l.length := ⟨_, rfl⟩
  rw [← hcsd, ← hN] at hclen hct
  rw [← hcsd] at h1c
  rw [← hN] at hk hl hroom hnc ⊢
  have hcell : ∀ j u, cs[j]? = some u → cur[j]? = some u := fun j u hu => by
    have hj' := (List.getElem?_eq_some_iff.1 hu).1
    rw [← hct] at hu
    rw [List.getElem?_take_of_lt (by omega), Array.getElem?_toList] at hu
    exact hu
  have hcm63 : c ≤ 9223372036854775807 := by unfold maxLen at hcm; omega
  have hsa : W.shape? w.heap.size = some (44, 3) := by unfold World.shape?; rw [hv]; rfl
  have hsb : W.shape? b = some (44, cur.size) := by unfold World.shape?; rw [hb]
  have hov : Hid (∀ lb cb, (callFunc 63 #[.slice (some ⟨w.heap.size, 0, none⟩) 1 1, .slice (some ⟨b, (k + 1) * 3, none⟩) lb cb]).run Tryz.prog W = .ok (.value (.bool false)) W) := fun lb cb => by
    rw [run_callFunc_extern Tryz.func63 (by kernel_rfl) (by kernel_rfl) (by kernel_rfl) (e := Extern.SlicesOverlaps.overlaps #[60, 60] #[4]) (by kernel_rfl),
      Lib.run_overlaps_apart W 60 4 44 Tryz.underlying60 3 (fun w => by kernel_rfl) ⟨w.heap.size, 0, none⟩ ⟨b, (k + 1) * 3, none⟩ 1 1 lb cb (by show w.heap.size ≠ b; omega) 44 44 3 cur.size hsa hsb (by omega) (froz_b' hv) (froz_b' hv)]
    rfl
  obtain ⟨D, hD⟩ : ∃ D, D = cs.drop (k * 3) := ⟨_, rfl⟩
  have hDl : D.length = (N - k) * 3 := by rw [hD, List.length_drop, hclen]; omega
  have hcp1 : Hid (∀ ty dc sc, (Builtin.copy_ #[60, 60] ty #[.slice (some ⟨b, (k + 1) * 3, none⟩) (N + 1 - (k + 1)) dc, .slice (some ⟨b, k * 3, none⟩) (N + 1 - k) sc]).run Tryz.prog W.drew = .ok (goInt (Nat.min (N + 1 - k) (N + 1 - (k + 1)))) (W.drew.setCells b ((k + 1) * 3) D)) := fun ty dc sc =>
    run_copy_cellsK W.drew 60 60 ty 44 3 b ((k + 1) * 3) (N + 1 - (k + 1)) dc ⟨b, k * 3, none⟩ (N + 1 - k) sc D Tryz.underlying60 hsz (by rw [hDl]; simp only [Nat.min_def]; split <;> omega)
      (fun j u hj => by
        rw [addr_lit]
        rw [hD, List.getElem?_drop] at hj
        exact blk_c (W := W.drew) hb (hcell _ u hj))
      (fun j hj => by
        have hlt : (k + 1) * 3 + j < cur.size := by omega
        have : cur[(k + 1) * 3 + j]? = some (cur[(k + 1) * 3 + j]) := Array.getElem?_eq_getElem hlt
        rw [blk_c (W := W.drew) hb this]; rfl)
      (fun j hj => froz_b' (W := W.drew) hb) (fun u hu => h1c u (by rw [hD] at hu; exact List.mem_of_mem_drop hu))
  obtain ⟨W1, hW1⟩ : ∃ W1, W1 = W.drew.setCells b ((k + 1) * 3) D := ⟨_, rfl⟩
  have hb1 : W1.heap[b]? = some (.cells (pk cur ((k + 1) * 3) D) 44 (0, 0)) := by rw [hW1, setCells_pokesM]; exact pokes_at D W.drew _ cur hb
  have hv1 : W1.heap[w.heap.size]? = some (.cells #[.int .i64 G, .int .i64 E, .int .i64 Pb] 44 (0, 0)) := by rw [hW1, setCells_pokesM, pokes_other (by omega)]; exact hv
  have hs1 : (pk cur ((k + 1) * 3) D).size = c * 3 := by rw [pk_size, hcs]
  have hcp2 : Hid (∀ ty dc, (Builtin.copy_ #[60, 60] ty #[.slice (some ⟨b, k * 3, none⟩) (N + 1 - k) dc, .slice (some ⟨w.heap.size, 0, none⟩) 1 1]).run Tryz.prog W1 = .ok (goInt (Nat.min 1 (N + 1 - k))) (W1.setCells b (k * 3) [.int .i64 G, .int .i64 E, .int .i64 Pb])) := fun ty dc =>
    run_copy_cellsK W1 60 60 ty 44 3 b (k * 3) (N + 1 - k) dc ⟨w.heap.size, 0, none⟩ 1 1 [.int .i64 G, .int .i64 E, .int .i64 Pb] Tryz.underlying60 hsz (by simp only [List.length_cons, List.length_nil, Nat.min_def]; split <;> omega)
      (fun j u hj => by
        rw [addr_lit, Nat.zero_add]
        exact blk_c hv1 (by simpa using hj))
      (fun j hj => by
        simp at hj
        have hlt : k * 3 + j < (pk cur ((k + 1) * 3) D).size := by omega
        have : (pk cur ((k + 1) * 3) D)[k * 3 + j]? = some ((pk cur ((k + 1) * 3) D)[k * 3 + j]) := Array.getElem?_eq_getElem hlt
        rw [blk_c hb1 this]; rfl)
      (fun j hj => froz_b' hb1) (by intro u hu; simp at hu; rcases hu with rfl | rfl | rfl <;> rfl)
  have HF : Hid (∀ w', w' = W1.setCells b (k * 3) [.int .i64 G, .int .i64 E, .int .i64 Pb] → OwL kCd B w' (.slice (some ⟨b, 0, none⟩) (N + 1) c) (insAt l k ⟨G, E, Pb⟩) (insAt xs k ()) ∧ Fr [b] w w') := fun w' hw' => by
    have hf : Fr [b] W w' := by
      rw [hw', setCells_pokesM, hW1, setCells_pokesM]
      exact pokes_fr _ _ _ (pokes_fr _ _ _ ((Fr.refl [b] W).drew))
    refine ⟨?_, (Fr.ofBelow bW).trans hf (fun _ _ q => by cases q) (fun _ _ q => q)⟩
    refine owl_ins ho bW (v' := .slice (some ⟨b, 0, none⟩) (N + 1) c) hf (by omega) ?_ (Or.inl rfl)
    rw [← hcsd, ← hN]
    refine ⟨by simp only [List.length_append, List.length_take, List.length_drop, List.length_cons, List.length_nil, hclen]; omega, Or.inr ⟨b, c, pk (pk cur ((k + 1) * 3) D) (k * 3) [.int .i64 G, .int .i64 E, .int .i64 Pb], rfl, hBb, ?_, hroom, hcm, by rw [pk_size, pk_size, hcs], ?_⟩⟩
    · rw [hw', setCells_pokesM]; exact pokes_at _ _ _ _ hb1
    · rw [hD]
      exact pk_ins (cells := cs) (by rw [hclen]; exact hct) (by omega) (by simp; omega) (by simp; omega) (by omega)
  have HWs := hide hW1
  have q1 : ¬ ((k : Int) = (N : Int)) := by omega
  have q2 : ¬ ((c : Int) < (N : Int) + 1) := by omega
  have q3 : (0 : Int) ≤ (k : Int) := by omega
  have q4 : (k : Int) ≤ (N : Int) := by omega
  have q5 : ¬ c = k := by omega
  have q6 : ¬ c = k + 1 := by omega
  have q7 : (k : Int) ≤ (N : Int) + 1 := by omega
  have q8 : (N : Int) + 1 ≤ (c : Int) := by omega
  have q9 : (k : Int) + 1 ≤ (N : Int) + 1 := by omega
  have q10 : (0 : Int) ≤ (k : Int) + 1 := by omega
  have hw1 : IntKind.i64.wrap ((k : Int) + 1) = (k : Int) + 1 := by rw [IntKind.wrap_i64]; omega
  have hw2 : IntKind.i64.wrap ((N : Int) + 1) = (N : Int) + 1 := by rw [IntKind.wrap_i64]; omega
  have ht1 : ((k : Int) + 1).toNat = k + 1 := by omega
  have ht2 : ((N : Int) + 1).toNat = N + 1 := by omega
  have hNI : (N : Int) ≤ 1073741824 := by omega
  have hcI : (c : Int) ≤ 9223372036854775807 := by omega
  clear hW bW hb0 hBb hnc hcm hcs hct hbw hb hv hclen hcsd h1c hk hl hroom hcell hsa hsb hD hDl hW1 hb1 hv1 hs1 ho hN hcm63
  go_enter Tryz.func39, Tryz.ntmps39
  go_wp2_with (simp only [unhide hov])
  go_region_law (refine step_copy_runI rfl _ _ 60 60 rfl (.slice (some ⟨b, (k + 1) * 3, none⟩) (N + 1 - (k + 1)) (c - (k + 1))) (.slice (some ⟨b, k * 3, none⟩) (N + 1 - k) (c - k)) (by simp [Act.eval, Act.put]) (by simp [Act.eval, Act.put]) (unhide hcp1 _ _ _) ?_)
  rw [← unhide HWs]
  go_wp2_with fail
  rw [unhide hcp2 _ _]
  go_wp2_with fail
  go_ret
  exact ⟨_, rfl, (unhide HF _ rfl).1, (unhide HF _ rfl).2⟩
theorem zc_size (z : Value) (n : Nat) (hz : z.cells.size = 3) : (Builtin.zeroCells z.cells n).size = n * 3 := by
  simp [Builtin.zeroCells, hz]
set_option maxRecDepth 100000 in
set_option maxHeartbeats 8000000 in
theorem insGrow_any {B : Nat} {w : World} {b c : Nat} {l : List Cd} {xs : List Unit} {k : Nat} {G E Pb : Int} (ho : OwL kCd B w (.slice (some ⟨b, 0, none⟩) l.length c) l xs) (hB : B ≤ w.heap.size) (h1c : ∀ u ∈ cellK kCd l xs, u.oneCell' = true) (hk : k < l.length) (hl : l.length ≤ 1073741824) (hroom : c < l.length + 1) :
    Calls Tryz.prog 39 #[.slice (some ⟨b, 0, none⟩) l.length c, .int .i64 (k : Int), .slice (some ⟨w.heap.size, 0, none⟩) 1 1] (w.alloc (.cells #[.int .i64 G, .int .i64 E, .int .i64 Pb] 44)) fun e w' => ∃ v', e = .returned v' ∧ OwL kCd B w' v' (insAt l k ⟨G, E, Pb⟩) (insAt xs k ()) ∧ Fr [b] w w' := by
  obtain ⟨j0, hj, hy0, hy1, hyb⟩ := info_parts infoKCard
  have hsz : (Tryz.prog.info? 44).map (·.size) = some 3 := by rw [hj]; simp [hy1]
  obtain ⟨W, hW⟩ : ∃ W, W = w.alloc (.cells #[.int .i64 G, .int .i64 E, .int .i64 Pb] 44) := ⟨_, rfl⟩
  have bW : Below w.heap.size w W := by rw [hW]; exact bwA _ _
  have hrow2 : w.ownsRow B 44 3 (.slice (some ⟨b, 0, none⟩) l.length c) l.length (cellK kCd l xs) := ho.row
  obtain ⟨cur, hb0, hBb, hnc, hcm, hcs, hct⟩ := own_blkB hrow2
  clear hrow2
  have hbw : b < w.heap.size := lt_of_blk hb0
  have hb : W.heap[b]? = some (.cells cur 44 (0, 0)) := by rw [bW.block b hbw]; exact hb0
  have hv : W.heap[w.heap.size]? = some (.cells #[.int .i64 G, .int .i64 E, .int .i64 Pb] 44 (0, 0)) := by rw [hW]; exact heap_alloc_new _ _
  have hvW := lt_of_blk hv
  have hclen : (cellK kCd l xs).length = l.length * 3 := cellK_len ho.xl
  rw [← hW]
  obtain ⟨cs, hcsd⟩ : ∃ z, z = cellK kCd l xs := ⟨_, rfl⟩
  obtain ⟨N, hN⟩ : ∃ N, N = l.length := ⟨_, rfl⟩
  rw [← hcsd, ← hN] at hclen hct
  rw [← hcsd] at h1c
  rw [← hN] at hk hl hroom hnc ⊢
  have hcell : ∀ j u, cs[j]? = some u → cur[j]? = some u := fun j u hu => by
    have hj' := (List.getElem?_eq_some_iff.1 hu).1
    rw [← hct] at hu
    rw [List.getElem?_take_of_lt (by omega), Array.getElem?_toList] at hu
    exact hu
  have hik : k + (N + 1 - k) = N + 1 := by omega
  have hkk : (N : Int) + 1 - (k : Int) = ((N + 1 - k : Nat) : Int) := by omega
  have hold : (Builtin.firstCells j0.size k (.slice (some ⟨b, 0, none⟩) k c)).run Tryz.prog W.drew = .ok (cs.take (k * 3)).toArray W.drew := by
    rw [hy1]
    exact run_firstCells_some W.drew 3 k ⟨b, 0, none⟩ k c (cs.take (k * 3)) (by rw [List.length_take]; omega) (fun j u hj => by
      rw [addr_lit, Nat.zero_add]
      rw [List.getElem?_take] at hj
      split at hj
      · exact blk_c (W := W.drew) hb (hcell j u hj)
      · cases hj)
  have hz2 : (Value.agg #[.int .i64 0, .int .i64 0, .int .i64 0]).cells.size = 3 := by rfl
  have hrz := fun ty => Lib.run_append_grow_zeros W 60 3 ty 44 j0 _ .i64 .i64 Tryz.underlying60 Tryz.underlying3 hj hy0 (some ⟨b, 0, none⟩) k c (cs.take (k * 3)) hold (N + 1 - k) (by omega) (by omega) (by omega) (by omega) (by rw [hyb]; omega) (by rw [hyb, hik]; exact growslice_fits hroom (by omega))
  rw [hik, ← hkk] at hrz
  obtain ⟨Gc, hGc⟩ : ∃ z, z = grownCap W (N + 1) c 44 := ⟨_, rfl⟩
  have hGn : N + 1 ≤ Gc := by rw [hGc]; exact grownCap_ge W _ _ _
  have hGm : Gc ≤ maxLen := by rw [hGc]; exact grownCap_le_maxLen W (N + 1) c 44 (by unfold maxLen; omega)
  rw [← hGc] at hrz
  obtain ⟨ROW, hROW⟩ : ∃ z : Array Value, z = (cs.take (k * 3)).toArray ++ Builtin.zeroCells (Value.agg #[.int .i64 0, .int .i64 0, .int .i64 0]).cells (N + 1 - k) ++ Builtin.zeroCells (Value.agg #[.int .i64 0, .int .i64 0, .int .i64 0]).cells (Gc - (N + 1)) := ⟨_, rfl⟩
  rw [← hROW] at hrz
  have hRs : ROW.size = Gc * 3 := by
    rw [hROW, Array.size_append, Array.size_append, zc_size _ _ hz2, zc_size _ _ hz2, List.size_toArray, List.length_take]; omega
  have hRt : ROW.toList.take (k * 3) = cs.take (k * 3) := by
    rw [hROW, Array.toList_append, Array.toList_append, List.append_assoc, List.take_append_of_le_length (by simp; omega)]
    rw [List.take_of_length_le (by simp; omega)]
  obtain ⟨nb, hnb⟩ : ∃ z, z = W.heap.size := ⟨_, rfl⟩
  rw [← hnb] at hrz
  obtain ⟨W1, hW1⟩ : ∃ z, z = W.drew.alloc (.cells ROW 44) := ⟨_, rfl⟩
  rw [← hW1] at hrz
  have hn1 : W1.heap[nb]? = some (.cells ROW 44 (0, 0)) := by rw [hW1, hnb]; exact heap_alloc_new _ _
  have bW1 : Below W.heap.size W W1 := by rw [hW1]; exact ((Below.refl _ _).drew).alloc (Nat.le_refl _) _
  have hb1 : W1.heap[b]? = some (.cells cur 44 (0, 0)) := by rw [bW1.block b (by omega)]; exact hb
  have hv1 : W1.heap[w.heap.size]? = some (.cells #[.int .i64 G, .int .i64 E, .int .i64 Pb] 44 (0, 0)) := by rw [bW1.block _ hvW]; exact hv
  obtain ⟨D, hD⟩ : ∃ D, D = cs.drop (k * 3) := ⟨_, rfl⟩
  have hDl : D.length = (N - k) * 3 := by rw [hD, List.length_drop, hclen]; omega
  have hcpA : Hid (∀ (X : World), X.heap = W1.heap → ∀ ty dc, (Builtin.copy_ #[60, 60] ty #[.slice (some ⟨nb, k * 3, none⟩) (N + 1 - k) dc, .slice (some ⟨w.heap.size, 0, none⟩) 1 1]).run Tryz.prog X = .ok (goInt (Nat.min 1 (N + 1 - k))) (X.setCells nb (k * 3) [.int .i64 G, .int .i64 E, .int .i64 Pb])) := fun X hX ty dc =>
    run_copy_cellsK X 60 60 ty 44 3 nb (k * 3) (N + 1 - k) dc ⟨w.heap.size, 0, none⟩ 1 1 [.int .i64 G, .int .i64 E, .int .i64 Pb] Tryz.underlying60 hsz (by simp only [List.length_cons, List.length_nil, Nat.min_def]; split <;> omega)
      (fun j u hj => by
        rw [addr_lit, Nat.zero_add]
        exact blk_c (by rw [hX]; exact hv1) (by simpa using hj))
      (fun j hj => by
        simp at hj
        have hlt : k * 3 + j < ROW.size := by omega
        have : ROW[k * 3 + j]? = some (ROW[k * 3 + j]) := Array.getElem?_eq_getElem hlt
        rw [blk_c (by rw [hX]; exact hn1) this]; rfl)
      (fun j hj => froz_b' (by rw [hX]; exact hn1)) (by intro u hu; simp at hu; rcases hu with rfl | rfl | rfl <;> rfl)
  have hcpB : Hid (∀ (X : World), X.heap = (W1.setCells nb (k * 3) [.int .i64 G, .int .i64 E, .int .i64 Pb]).heap → ∀ ty dc sc, (Builtin.copy_ #[60, 60] ty #[.slice (some ⟨nb, (k + 1) * 3, none⟩) (N + 1 - (k + 1)) dc, .slice (some ⟨b, k * 3, none⟩) (N - k) sc]).run Tryz.prog X = .ok (goInt (Nat.min (N - k) (N + 1 - (k + 1)))) (X.setCells nb ((k + 1) * 3) D)) := fun X hX ty dc sc => by
    rw [setCells_pokesM] at hX
    have hn2 : X.heap[nb]? = some (.cells (pk ROW (k * 3) [.int .i64 G, .int .i64 E, .int .i64 Pb]) 44 (0, 0)) := by rw [hX]; exact pokes_at _ _ _ _ hn1
    have hb2 : X.heap[b]? = some (.cells cur 44 (0, 0)) := by rw [hX, pokes_other (by omega)]; exact hb1
    have hs2 : (pk ROW (k * 3) [.int .i64 G, .int .i64 E, .int .i64 Pb]).size = Gc * 3 := by rw [pk_size, hRs]
    exact run_copy_cellsK X 60 60 ty 44 3 nb ((k + 1) * 3) (N + 1 - (k + 1)) dc ⟨b, k * 3, none⟩ (N - k) sc D Tryz.underlying60 hsz (by rw [hDl]; simp only [Nat.min_def]; split <;> omega)
      (fun j u hj => by
        rw [addr_lit]
        rw [hD, List.getElem?_drop] at hj
        exact blk_c hb2 (hcell _ u hj))
      (fun j hj => by
        have hlt : (k + 1) * 3 + j < (pk ROW (k * 3) [.int .i64 G, .int .i64 E, .int .i64 Pb]).size := by omega
        have : (pk ROW (k * 3) [.int .i64 G, .int .i64 E, .int .i64 Pb])[(k + 1) * 3 + j]? = some ((pk ROW (k * 3) [.int .i64 G, .int .i64 E, .int .i64 Pb])[(k + 1) * 3 + j]) := Array.getElem?_eq_getElem hlt
        rw [blk_c hn2 this]; rfl)
      (fun j hj => froz_b' hn2) (fun u hu => h1c u (by rw [hD] at hu; exact List.mem_of_mem_drop hu))
  have HF : Hid (∀ (X Y : World), Fr [b] W X → X.heap = (W1.setCells nb (k * 3) [.int .i64 G, .int .i64 E, .int .i64 Pb]).heap → Y = X.setCells nb ((k + 1) * 3) D → OwL kCd B Y (.slice (some ⟨nb, 0, none⟩) (N + 1) Gc) (insAt l k ⟨G, E, Pb⟩) (insAt xs k ()) ∧ Fr [b] w Y) := fun X Y hfX hX hY => by
    rw [setCells_pokesM] at hX hY
    have hn2 : X.heap[nb]? = some (.cells (pk ROW (k * 3) [.int .i64 G, .int .i64 E, .int .i64 Pb]) 44 (0, 0)) := by rw [hX]; exact pokes_at _ _ _ _ hn1
    have hf : Fr [b] W Y := by
      rw [hY]
      clear hY hX hn2
      have : ∀ (vs : List Value) (o : Nat) (Z : World), Fr [b] W Z → Fr [b] W (pokes Z nb o vs) := by
        intro vs
        induction vs with
        | nil => intro o Z h; exact h
        | cons v r ih => intro o Z h; exact ih _ _ (h.setCell (a := ⟨nb, o, none⟩) (Or.inl (by show W.heap.size ≤ nb; omega)) v)
      exact this _ _ _ hfX
    refine ⟨?_, (Fr.ofBelow bW).trans hf (fun _ _ q => by cases q) (fun _ _ q => q)⟩
    refine owl_ins ho bW (v' := .slice (some ⟨nb, 0, none⟩) (N + 1) Gc) hf (by omega) ?_ (Or.inr (fun b' hb' => by cases hb'; rw [hnb]; exact bW.size))
    rw [← hcsd, ← hN]
    refine ⟨by simp only [List.length_append, List.length_take, List.length_drop, List.length_cons, List.length_nil, hclen]; omega, Or.inr ⟨nb, Gc, pk (pk ROW (k * 3) [.int .i64 G, .int .i64 E, .int .i64 Pb]) ((k + 1) * 3) D, rfl, by rw [hnb]; exact Nat.le_trans hB bW.size, ?_, hGn, hGm, by rw [pk_size, pk_size, hRs], ?_⟩⟩
    · rw [hY]; exact pokes_at _ _ _ _ hn2
    · rw [← hD]
      exact pk_ins2 (pre := cs.take (k * 3)) hRt (by rw [List.length_take]; omega) (by simp; omega) (by rw [hDl]; omega) (by omega)
  have HFr : Hid (∀ X : World, Fr [b] W X → Fr [b] W (X.setCells nb (k * 3) [.int .i64 G, .int .i64 E, .int .i64 Pb]).drew) := fun X hX => by
    rw [setCells_pokesM]
    exact (((hX.setCell (a := ⟨nb, k * 3, none⟩) (Or.inl (by show W.heap.size ≤ nb; omega)) _).setCell (a := ⟨nb, k * 3 + 1, none⟩) (Or.inl (by show W.heap.size ≤ nb; omega)) _).setCell (a := ⟨nb, k * 3 + 1 + 1, none⟩) (Or.inl (by show W.heap.size ≤ nb; omega)) _).drew
  have HF1 : Hid (Fr [b] W W1) := (Fr.ofBelow bW1).mono (fun _ _ q => by cases q)
  have HRZ := hide hrz
  have HWs := hide hW1
  have hGI : (Gc : Int) ≤ 9223372036854775807 := by unfold maxLen at hGm; omega
  have hGNI : (N : Int) + 1 ≤ (Gc : Int) := by omega
  have g1 : ¬ Gc = k := by omega
  have g2 : ¬ Gc = k + 1 := by omega
  have q1 : ¬ ((k : Int) = (N : Int)) := by omega
  have q2 : (c : Int) < (N : Int) + 1 := by omega
  have q3 : (0 : Int) ≤ (k : Int) := by omega
  have q4 : (k : Int) ≤ (N : Int) := by omega
  have q5 : ¬ c = k := by omega
  have q7 : (k : Int) ≤ (N : Int) + 1 := by omega
  have q9 : (k : Int) + 1 ≤ (N : Int) + 1 := by omega
  have q10 : (0 : Int) ≤ (k : Int) + 1 := by omega
  have q11 : (k : Int) ≤ (c : Int) := by omega
  have hw1 : IntKind.i64.wrap ((k : Int) + 1) = (k : Int) + 1 := by rw [IntKind.wrap_i64]; omega
  have hw2 : IntKind.i64.wrap ((N : Int) + 1) = (N : Int) + 1 := by rw [IntKind.wrap_i64]; omega
  have hw3 : IntKind.i64.wrap ((N : Int) + 1 - (k : Int)) = (N : Int) + 1 - (k : Int) := by rw [IntKind.wrap_i64]; omega
  have ht1 : ((k : Int) + 1).toNat = k + 1 := by omega
  have hNI : (N : Int) ≤ 1073741824 := by omega
  clear hW bW hb0 hBb hnc hcm hcs hct hbw hb hv hclen hcsd h1c hk hl hroom hcell hD hDl hb1 hv1 ho hN hik hkk hold hz2 hGc hGn hGm hROW hRs hRt hn1 bW1 hvW hB hrz hW1 hnb
  go_enter Tryz.func39, Tryz.ntmps39
  go_wp2_with (at_builtin; refine Lib.wpList_append_run _ rfl _ _ _ _ rfl _ _ rfl rfl _ _ (unhide HRZ _) ?_)
  rw [unhide hcpA W1 rfl _ _]
  go_wp2_with fail
  go_region_law (refine step_copy_runI rfl _ _ 60 60 rfl (.slice (some ⟨nb, (k + 1) * 3, none⟩) (N + 1 - (k + 1)) (Gc - (k + 1))) (.slice (some ⟨b, k * 3, none⟩) (N - k) (c - k)) (by simp [Act.eval, Act.put]) (by simp [Act.eval, Act.put]) (unhide hcpB (W1.setCells nb (k * 3) [.int .i64 G, .int .i64 E, .int .i64 Pb]).drew rfl _ _ _) ?_)
  go_wp2_with fail
  go_ret
  exact ⟨_, rfl, (unhide HF _ _ (unhide HFr _ (unhide HF1)) rfl rfl).1, (unhide HF _ _ (unhide HFr _ (unhide HF1)) rfl rfl).2⟩
theorem ins_any {B : Nat} {w : World} {v : Value} {l : List Cd} {xs : List Unit} {k : Nat} {G E Pb : Int} (ho : OwL kCd B w v l xs) (hB : B ≤ w.heap.size) (h1c : ∀ u ∈ cellK kCd l xs, u.oneCell' = true) (hk : k ≤ l.length) (hl : l.length ≤ 1073741824) :
    Calls Tryz.prog 39 #[v, .int .i64 (k : Int), .slice (some ⟨w.heap.size, 0, none⟩) 1 1] (w.alloc (.cells #[.int .i64 G, .int .i64 E, .int .i64 Pb] 44)) fun e w' => ∃ v', e = .returned v' ∧ OwL kCd B w' v' (insAt l k ⟨G, E, Pb⟩) (insAt xs k ()) ∧ Fr v.ownBlock.toList w w' := by
  rcases Nat.lt_or_ge k l.length with c | c
  · obtain ⟨b, cap, hv, _, _, _⟩ := own_open ho.row (by omega)
    subst hv
    rcases Nat.lt_or_ge cap (l.length + 1) with d | d
    · exact insGrow_any ho hB h1c c hl d
    · exact insRoom_any ho h1c c hl d
  · obtain rfl : k = l.length := by omega
    exact insEnd_any ho hB hl
end Go.Proofs.YtgmlkofogeoocaaGreatDoor.Cd
