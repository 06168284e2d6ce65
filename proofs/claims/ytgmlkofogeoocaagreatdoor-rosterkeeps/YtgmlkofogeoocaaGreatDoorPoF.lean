/- Where the box of a device stands (sort.Search with its closure; find, place). -/
import Derived.Test.YtgmlkofogeoocaaGreatDoorPoE
namespace Go.Proofs.YtgmlkofogeoocaaGreatDoor
open Go.RowKit Go.Maps
set_option maxRecDepth 100000 in
set_option maxHeartbeats 4000000 in
theorem find1x_any {w : World} {bl bg gb o N cap i : Nat} {g pg : Int} (hi : i < N) (hN : N ≤ 1073741824) (c1 : w.cell? ⟨bl, 0, none⟩ = some (.slice (some ⟨gb, o, none⟩) N cap)) (c2 : w.cell? ⟨bg, 0, none⟩ = some (.int .i64 g)) (c3 : w.cell? ⟨gb, o + i * 4, none⟩ = some (.int .i64 pg)) :
    Calls Tryz.prog 83 #[.int .i64 (i : Int), .pointer (some ⟨bl, 0, none⟩), .pointer (some ⟨bg, 0, none⟩)] w fun e w' => e = .returned (.bool (decide (g ≤ pg))) ∧ ∃ q, w' = w.drewN q := by
  have hiI : (i : Int) < (N : Int) := by omega
  have h0 : (0 : Int) ≤ (i : Int) := by omega
  have hNI : (N : Int) ≤ 1073741824 := by omega
  clear hi hN
  go_enter Tryz.func83, Tryz.ntmps83
  go_wp2_with fail
  go_quiet (fail)
  go_wp2_with fail
  go_ret
  exact ⟨rfl, _, rfl⟩
set_option maxRecDepth 100000 in
set_option maxHeartbeats 4000000 in
theorem searchx_any {w : World} {n bl bg : Nat} {p : Nat → Bool} (hn : n ≤ 1073741824)
    (hf : ∀ (m i : Nat), i < n → Calls Tryz.prog 83 #[.int .i64 (i : Int), .pointer (some ⟨bl, 0, none⟩), .pointer (some ⟨bg, 0, none⟩)] (w.drewN m) fun e w' => e = .returned (.bool (p i)) ∧ ∃ q, w' = (w.drewN m).drewN q)
    (hm : ∀ a b, a ≤ b → b < n → p a = true → p b = true) :
    Calls Tryz.prog 61 #[.int .i64 (n : Int), .func (.func 83) #[] #[.pointer (some ⟨bl, 0, none⟩), .pointer (some ⟨bg, 0, none⟩)]] w fun e w' => ∃ k : Nat, e = .returned (.int .i64 (k : Int)) ∧ k ≤ n ∧ (∀ j, j < k → p j = false) ∧ (∀ j, k ≤ j → j < n → p j = true) ∧ ∃ q, w' = w.drewN q := by
  have HF := hide hf
  have HM := hide hm
  have hnI : (n : Int) ≤ 1073741824 := by omega
  clear hf hm
  go_enter Tryz.func61, Tryz.ntmps61
  go_wp2_with fail
  go_loopw [5, 6] (fun s5 s6 wr => ∃ (lo hi q : Nat), s5 = .int .i64 (lo : Int) ∧ s6 = .int .i64 (hi : Int) ∧ lo ≤ hi ∧ hi ≤ n ∧ wr = w.drewN q ∧ Hid ((∀ t, t < lo → p t = false) ∧ (∀ t, hi ≤ t → t < n → p t = true))) (fun s5 s6 _ => (intOf s6 - intOf s5).toNat)
  case atStart => exact ⟨0, n, 0, rfl, rfl, Nat.zero_le _, Nat.le_refl _, rfl, fun t ht => absurd ht (by omega), fun t h1 h2 => by omega⟩
  case round =>
    obtain ⟨lo, hi, q, rfl, rfl, hlh, hin, hw, HI⟩ := hrel
    subst hw
    have hiI : (hi : Int) ≤ 1073741824 := by omega
    have hlI : (lo : Int) ≤ (hi : Int) := by omega
    by_cases hlt : lo < hi
    · have hltI : (lo : Int) < (hi : Int) := by omega
      have hc := unhide HF q ((lo + hi) / 2) (by omega)
      rw [show (((lo + hi) / 2 : Nat) : Int) = ((lo : Int) + (hi : Int)) / 2 by omega] at hc
      obtain ⟨pb, hpb⟩ : ∃ b, b = p ((lo + hi) / 2) := ⟨_, rfl⟩
      rw [← hpb] at hc
      have HP := hide hpb
      have KC := hide hc
      clear hpb hc
      cases pb with
      | false =>
        have I2 : Hid ((∀ t, t < (lo + hi) / 2 + 1 → p t = false) ∧ (∀ t, hi ≤ t → t < n → p t = true)) := ⟨fun t ht => (by
          cases h : p t with
          | false => rfl
          | true => have := unhide HM t ((lo + hi) / 2) (by omega) (by omega) h; rw [← unhide HP] at this; cases this), (unhide HI).2⟩
        clear HP HI
        go_wp2_with fail
        refine (unhide KC).mono ?_
        rintro e w' ⟨rfl, q2, rfl⟩
        go_wp2_with fail
        go_roundw
        case rel => exact ⟨(lo + hi) / 2 + 1, hi, q + q2, by rw [show ((lo : Int) + (hi : Int)) / 2 + 1 = (((lo + hi) / 2 + 1 : Nat) : Int) by omega], rfl, by omega, hin, rfl, I2⟩
        case measure => simp only [intOf]; omega
      | true =>
        have I2 : Hid ((∀ t, t < lo → p t = false) ∧ (∀ t, (lo + hi) / 2 ≤ t → t < n → p t = true)) := ⟨(unhide HI).1, fun t ht htn => unhide HM ((lo + hi) / 2) t ht htn (unhide HP).symm⟩
        clear HP HI
        go_wp2_with fail
        refine (unhide KC).mono ?_
        rintro e w' ⟨rfl, q2, rfl⟩
        go_wp2_with fail
        go_roundw
        case rel => exact ⟨lo, (lo + hi) / 2, q + q2, rfl, by rw [show ((lo : Int) + (hi : Int)) / 2 = (((lo + hi) / 2 : Nat) : Int) by omega], by omega, by omega, rfl, I2⟩
        case measure => simp only [intOf]; omega
    · obtain rfl : hi = lo := by omega
      go_wp2_with fail
      go_ret
      exact ⟨hi, rfl, hin, (unhide HI).1, (unhide HI).2, q, rfl⟩
structure AtX (l : List Bx) (d : Int) (k : Nat) : Prop where
  le : k ≤ l.length
  lo : ∀ (j : Nat) (p : Bx), j < k → l[j]? = some p → p.dev < d
  hi : ∀ (j : Nat) (p : Bx), k ≤ j → l[j]? = some p → d ≤ p.dev
theorem ris_monoX {l : List Bx} (h : mayP l) : ∀ (a b : Nat) (p q : Bx), a < b → l[a]? = some p → l[b]? = some q → p.dev < q.dev := by
  intro a b p q hab hp hq
  induction b generalizing q with
  | zero => omega
  | succ b ih =>
    have hb : b < l.length := by have := (List.getElem?_eq_some_iff.1 hq).1; omega
    have hbq := (h (b + 1) q hq).2 l[b] b rfl (List.getElem?_eq_getElem hb)
    rcases Nat.lt_or_ge a b with c | c
    · have := ih l[b] c (List.getElem?_eq_getElem hb); omega
    · obtain rfl : a = b := by omega
      rw [List.getElem?_eq_getElem hb] at hp; cases hp; exact hbq
theorem AtX.noneX {l : List Bx} {d : Int} {k : Nat} (h : AtX l d k) (hr : mayP l) (hn : ∀ p, l[k]? = some p → p.dev ≠ d) : ∀ p ∈ l, p.dev ≠ d := by
  intro x hx e
  obtain ⟨j, hj⟩ := List.getElem?_of_mem hx
  rcases Nat.lt_trichotomy j k with c | c | c
  · have := h.lo j x c hj; omega
  · subst c; exact hn x hj e
  · have hk : k < l.length := by have := (List.getElem?_eq_some_iff.1 hj).1; omega
    have h1 := h.hi k l[k] (Nat.le_refl _) (List.getElem?_eq_getElem hk)
    have h2 := ris_monoX hr k j l[k] x c (List.getElem?_eq_getElem hk) hj
    omega
def FnX (l : List Bx) (d : Int) (k : Nat) (th : Bool) : Prop :=
  AtX l d k ∧ ((th = false ∧ (∀ p ∈ l, p.dev ≠ d)) ∨ (th = true ∧ ∃ p, l[k]? = some p ∧ p.dev = d))
set_option maxRecDepth 100000 in
set_option maxHeartbeats 4000000 in
theorem findBx_any {u w : World} {v : Value} {l : List Bx} {xs : List (Value × List Mx)} (h : RdL kBx u v l xs) (hu : Below u.heap.size u w) (hr : mayP l) (hl : l.length ≤ 1073741824) (g : Int) :
    Calls Tryz.prog 55 #[v, .int .i64 g] w fun e w' => ∃ (k : Nat) (th : Bool), e = .returned (.tuple #[.int .i64 (k : Int), .bool th]) ∧ FnX l g k th ∧ Below w.heap.size w w' := by
  obtain ⟨a, cap, rfl⟩ := rdl_slice h
  obtain ⟨N, hN⟩ : ∃ N, N = l.length := ⟨_, rfl⟩
  rw [← hN] at h hl ⊢
  have hNI : (N : Int) ≤ 1073741824 := by omega
  obtain ⟨W0, hW0⟩ : ∃ W, W = (w.alloc (.cells #[.slice a N cap] 27)).alloc (.cells #[.int .i64 g] 3) := ⟨_, rfl⟩
  have bw0 : Below w.heap.size w W0 := by rw [hW0]; exact bw_tr (bwA _ _) (bwA _ _)
  have b0 : Below u.heap.size u W0 := bw_tr hu bw0
  have k1 : W0.heap[w.heap.size]? = some (.cells #[.slice a N cap] 27 (0, 0)) := by
    have h1 := heap_alloc_new w (.cells #[.slice a N cap] 27)
    rw [hW0, Below.heap_alloc _ _ _ (by simp)]; exact h1
  have k2 : W0.heap[w.heap.size + 1]? = some (.cells #[.int .i64 g] 3 (0, 0)) := by
    have h2 := heap_alloc_new (w.alloc (.cells #[.slice a N cap] 27)) (.cells #[.int .i64 g] 3)
    have e : (w.alloc (.cells #[.slice a N cap] 27)).heap.size = w.heap.size + 1 := by simp
    rw [e] at h2
    rw [hW0]; exact h2
  have c1 : W0.cell? ⟨w.heap.size, 0, none⟩ = some (.slice a N cap) := blk_c k1 rfl
  have c2 : W0.cell? ⟨w.heap.size + 1, 0, none⟩ = some (.int .i64 g) := blk_c k2 rfl
  have KS : Calls Tryz.prog 61 #[.int .i64 (N : Int), .func (.func 83) #[] #[.pointer (some ⟨w.heap.size, 0, none⟩), .pointer (some ⟨w.heap.size + 1, 0, none⟩)]] W0 fun e w' => ∃ k : Nat, e = .returned (.int .i64 (k : Int)) ∧ Hid (k ≤ N ∧ AtX l g k) ∧ ∃ q, w' = W0.drewN q := by
    refine (searchx_any (w := W0) (n := N) (bl := w.heap.size) (bg := w.heap.size + 1) (p := fun i => decide (g ≤ ((l.map (·.dev)).getD i 0))) hl ?_ ?_).mono ?_
    · intro m i hi
      obtain ⟨p, hp⟩ : ∃ p, l[i]? = some p := ⟨_, List.getElem?_eq_getElem (by omega)⟩
      obtain ⟨gb, o, x0, rfl, _, _, hc0⟩ := h.get hp
      have d0 : u.cell? ⟨gb, o + i * 4, none⟩ = some (.int .i64 p.dev) := hc0 0 _ rfl
      have e : (l.map (·.dev)).getD i 0 = p.dev := by rw [List.getD_eq_getElem?_getD, List.getElem?_map, hp]; rfl
      rw [e]
      have hb := below_drewN (Below.refl W0.heap.size W0) m
      exact find1x_any hi hl (by rw [hb.cell (lt_of_cell c1)]; exact c1) (by rw [hb.cell (lt_of_cell c2)]; exact c2) (by rw [(bw_tr b0 hb).cell (lt_of_cell d0)]; exact d0)
    · intro x y hxy hy hpx
      simp only [decide_eq_true_eq] at hpx ⊢
      have hxl : x < l.length := by omega
      have hyl : y < l.length := by omega
      have ex : (l.map (·.dev)).getD x 0 = l[x].dev := by rw [List.getD_eq_getElem?_getD, List.getElem?_map, List.getElem?_eq_getElem hxl]; rfl
      have ey : (l.map (·.dev)).getD y 0 = l[y].dev := by rw [List.getD_eq_getElem?_getD, List.getElem?_map, List.getElem?_eq_getElem hyl]; rfl
      rw [ex] at hpx
      rw [ey]
      rcases Nat.lt_or_ge x y with c | c
      · have := ris_monoX hr x y l[x] l[y] c (List.getElem?_eq_getElem hxl) (List.getElem?_eq_getElem hyl); omega
      · obtain rfl : x = y := by omega
        exact hpx
    · rintro e w' ⟨k, rfl, hk, h1, h2, hq⟩
      refine ⟨k, rfl, ⟨hk, by omega, fun j p hj hp => ?_, fun j p hj hp => ?_⟩, hq⟩
      · have := h1 j hj
        have e : (l.map (·.dev)).getD j 0 = p.dev := by rw [List.getD_eq_getElem?_getD, List.getElem?_map, hp]; rfl
        simp only [e, decide_eq_false_iff_not] at this
        omega
      · have := h2 j hj (by have := (List.getElem?_eq_some_iff.1 hp).1; omega)
        have e : (l.map (·.dev)).getD j 0 = p.dev := by rw [List.getD_eq_getElem?_getD, List.getElem?_map, hp]; rfl
        simp only [e, decide_eq_true_eq] at this
        omega
  have HW := hide hW0
  have HH := hide (And.intro h (And.intro hN (And.intro hr (And.intro b0 bw0))))
  have KH := hide KS
  clear h hr hl hN hW0 b0 bw0 hu k1 k2 KS
  go_enter Tryz.func55, Tryz.ntmps55
  go_upto_region 1 with fail
  rw [← unhide HW]
  clear HW
  go_wp2_with fail
  refine (unhide KH).mono ?_
  rintro e w1 ⟨k, rfl, hk, q, rfl⟩
  obtain ⟨hkN, hat⟩ := unhide hk
  obtain ⟨h, hN, hr, b0, bw0⟩ := unhide HH
  rcases Nat.lt_or_ge k N with hlt | hge
  · have hkI : (k : Int) < (N : Int) := by omega
    have h0 : (0 : Int) ≤ (k : Int) := by omega
    obtain ⟨p, hp⟩ : ∃ p, l[k]? = some p := ⟨_, List.getElem?_eq_getElem (by omega)⟩
    obtain ⟨gb, o, x0, rfl, _, _, hc0⟩ := h.get hp
    have d0 : u.cell? ⟨gb, o + k * 4, none⟩ = some (.int .i64 p.dev) := hc0 0 _ rfl
    obtain ⟨pg, hpg⟩ : ∃ z, z = p.dev := ⟨_, rfl⟩
    rw [← hpg] at d0
    have f0 : W0.cell? ⟨gb, o + k * 4, none⟩ = some (.int .i64 pg) := by rw [b0.cell (lt_of_cell d0)]; exact d0
    have hd : decide ((k : Int) < (N : Int)) = true := decide_eq_true hkI
    have hd2 : decide (k < N) = true := decide_eq_true hlt
    by_cases hq : pg = g
    · have HR : Hid (FnX l g k true ∧ Below w.heap.size w W0) := ⟨⟨hat, Or.inr ⟨rfl, p, hp, by rw [← hpg]; exact hq⟩⟩, bw0⟩
      have hq2 : (pg == g) = true := by simp [hq]
      clear hat h hN hr b0 bw0 hp d0 hc0 hpg hk KH HH hkN
      subst hq
      go_wp2_with fail
      go_quiet (fail)
      go_wp2_with fail
      go_ret2
      exact ⟨k, _, rfl, (by simpa using (unhide HR).1), below_drewN (below_drewN (unhide HR).2 _) _⟩
    · have hq2 : (pg == g) = false := by simp [hq]
      have hq3 : decide (pg = g) = false := decide_eq_false hq
      have HR : Hid (FnX l g k false ∧ Below w.heap.size w W0) := by
        have hn : ∀ p', l[k]? = some p' → p'.dev ≠ g := fun p' hp' => by rw [hp] at hp'; cases hp'; rw [← hpg]; exact hq
        exact ⟨⟨hat, Or.inl ⟨rfl, hat.noneX hr hn⟩⟩, bw0⟩
      clear hat h hN hr b0 bw0 hp d0 hc0 hpg hk KH HH hkN
      go_wp2_with fail
      go_quiet (fail)
      go_wp2_with fail
      go_ret2
      exact ⟨k, _, rfl, (by simpa [hq3] using (unhide HR).1), below_drewN (below_drewN (unhide HR).2 _) _⟩
  · obtain rfl : k = N := by omega
    have HR : Hid (FnX l g k false ∧ Below w.heap.size w W0) := by
      have hn : ∀ p', l[k]? = some p' → p'.dev ≠ g := fun p' hp' => by rw [List.getElem?_eq_none (by omega)] at hp'; cases hp'
      exact ⟨⟨hat, Or.inl ⟨rfl, hat.noneX hr hn⟩⟩, bw0⟩
    clear hat h hN hr b0 bw0 hk KH HH hge hkN
    go_wp2_with fail
    go_quiet (fail)
    go_wp2_with fail
    go_ret2
    exact ⟨k, _, rfl, (unhide HR).1, below_drewN (below_drewN (unhide HR).2 _) _⟩
def PlX (l : List Bx) (d : Int) (k : Nat) (er : Int) : Prop :=
  (mayX l = false ∧ k = 0 ∧ er = 1) ∨ (mayP l ∧ (∀ p ∈ l, p.dev ≠ d) ∧ k = 0 ∧ er = 7) ∨ (mayP l ∧ er = 0 ∧ ∃ p, l[k]? = some p ∧ p.dev = d)
set_option maxRecDepth 100000 in
set_option maxHeartbeats 4000000 in
theorem place_any {w : World} {v : Value} {l : List Bx} {xs : List (Value × List Mx)} (h : RdL kBx w v l xs) (hl : l.length ≤ 1073741824) (d : Int) :
    Calls Tryz.prog 34 #[v, .int .i64 d] w fun e w' => ∃ (k : Nat) (er : Int), e = .returned (.tuple #[.int .i64 (k : Int), .int .i64 er]) ∧ PlX l d k er ∧ Below w.heap.size w w' := by
  have K1 := hide (mayBeX_any h hl)
  have K2 : Hid (mayP l → ∀ W, Below w.heap.size w W → Calls Tryz.prog 55 #[v, .int .i64 d] W fun e w' => ∃ (k : Nat) (th : Bool), e = .returned (.tuple #[.int .i64 (k : Int), .bool th]) ∧ FnX l d k th ∧ Below W.heap.size W w') := fun hm W hW => findBx_any h hW hm hl d
  obtain ⟨a, cap, rfl⟩ := rdl_slice h
  obtain ⟨r, hr⟩ : ∃ r, r = mayX l := ⟨_, rfl⟩
  rw [← hr] at K1
  have HR := hide hr
  clear h hr hl
  generalize l.length = N at *
  cases r with
  | false =>
    go_enter Tryz.func34, Tryz.ntmps34
    go_wp2_with fail
    refine (unhide K1).mono ?_
    rintro e w1 ⟨rfl, b1⟩
    go_wp2_with fail
    go_ret2
    exact ⟨0, 1, rfl, Or.inl ⟨(unhide HR).symm, rfl, rfl⟩, b1⟩
  | true =>
    have K3 := hide (unhide K2 (mayX_iff.1 (unhide HR).symm))
    clear K2
    go_enter Tryz.func34, Tryz.ntmps34
    go_wp2_with fail
    refine (unhide K1).mono ?_
    rintro e w1 ⟨rfl, b1⟩
    go_wp2_with fail
    refine (unhide K3 w1 b1).mono ?_
    rintro e w2 ⟨k, th, rfl, hf, b2⟩
    have HM := hide (mayX_iff.1 (unhide HR).symm)
    cases th with
    | false =>
      go_wp2_with fail
      go_ret2
      exact ⟨0, 7, rfl, Or.inr (Or.inl ⟨unhide HM, by rcases hf.2 with q | q; exact q.2; exact absurd q.1 (by simp), rfl, rfl⟩), bw_tr b1 b2⟩
    | true =>
      go_wp2_with fail
      go_ret2
      exact ⟨k, 0, rfl, Or.inr (Or.inr ⟨unhide HM, rfl, by rcases hf.2 with q | q; exact absurd q.1 (by simp); exact q.2⟩), bw_tr b1 b2⟩
end Go.Proofs.YtgmlkofogeoocaaGreatDoor
