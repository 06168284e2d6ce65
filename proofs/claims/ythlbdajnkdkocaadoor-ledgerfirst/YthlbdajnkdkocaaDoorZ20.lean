/- Texts joined: LgP LgQ LgToP LgS LgU. -/
import Derived.Test.YthlbdajnkdkocaaDoorZ19
import Derived.Deep.QuietTactic
import Derived.BigQuiet
import Derived.Test.YthlbdajnkdkocaaDoorZ05
/- Where the log of a group stands (sort.Search with its closure; find, commits); Len. -/
namespace Go.Proofs.YthlbdajnkdkocaaDoor
open Go.RowKit Go.Maps
set_option maxRecDepth 100000 in
set_option maxHeartbeats 4000000 in
theorem find1_any {w : World} {bl bg gb o N cap i : Nat} {g pg : Int} (hi : i < N) (hN : N ≤ 1073741824) (c1 : w.cell? ⟨bl, 0, none⟩ = some (.slice (some ⟨gb, o, none⟩) N cap)) (c2 : w.cell? ⟨bg, 0, none⟩ = some (.int .i64 g)) (c3 : w.cell? ⟨gb, o + i * 2, none⟩ = some (.int .i64 pg)) :
    Calls Tryd.prog 42 #[.int .i64 (i : Int), .pointer (some ⟨bl, 0, none⟩), .pointer (some ⟨bg, 0, none⟩)] w fun e w' => e = .returned (.bool (decide (g ≤ pg))) ∧ ∃ q, w' = w.drewN q := by
  have hiI : (i : Int) < (N : Int) := by omega
  have h0 : (0 : Int) ≤ (i : Int) := by omega
  have hNI : (N : Int) ≤ 1073741824 := by omega
  clear hi hN
  go_enter Tryd.func42, Tryd.ntmps42
  go_wp2_with fail
  go_quiet (fail)
  go_wp2_with fail
  go_ret
  exact ⟨rfl, _, rfl⟩
set_option maxRecDepth 100000 in
set_option maxHeartbeats 4000000 in
theorem search_any {w : World} {n bl bg : Nat} {p : Nat → Bool} (hn : n ≤ 1073741824)
    (hf : ∀ (m i : Nat), i < n → Calls Tryd.prog 42 #[.int .i64 (i : Int), .pointer (some ⟨bl, 0, none⟩), .pointer (some ⟨bg, 0, none⟩)] (w.drewN m) fun e w' => e = .returned (.bool (p i)) ∧ ∃ q, w' = (w.drewN m).drewN q)
    (hm : ∀ a b, a ≤ b → b < n → p a = true → p b = true) :
    Calls Tryd.prog 41 #[.int .i64 (n : Int), .func (.func 42) #[] #[.pointer (some ⟨bl, 0, none⟩), .pointer (some ⟨bg, 0, none⟩)]] w fun e w' => ∃ k : Nat, e = .returned (.int .i64 (k : Int)) ∧ k ≤ n ∧ (∀ j, j < k → p j = false) ∧ (∀ j, k ≤ j → j < n → p j = true) ∧ ∃ q, w' = w.drewN q := by
  have HF := hide hf
  have HM := hide hm
  have hnI : (n : Int) ≤ 1073741824 := by omega
  clear hf hm
  go_enter Tryd.func41, Tryd.ntmps41
  go_wp2_with fail
  go_loopw [5, 6] (fun s5 s6 wr => ∃ (lo hi q : Nat), s5 = .int .i64 (lo : Int) ∧ s6 = .int .i64 (hi : Int) ∧ lo ≤ hi ∧ hi ≤ n ∧ wr = w.drewN q ∧ Hid ((∀ t, t < lo → p t = false) ∧ (∀ t, hi ≤ t → t < n → p t = true))) (fun s5 s6 _ => (intOf s6 - intOf s5).toNat)
  case atStart => exact ⟨0, n, 0, rfl, rfl, Nat.zero_le _, Nat.le_refl _, rfl, fun t ht => absurd ht (by omega), fun t h1 h2 => by omega⟩
  case round =>
    obtain ⟨lo, hi, q, rfl, rfl, hlh, hin, hw, HI⟩ := hrel
    subst hw
    have hiI : (hi : Int) ≤ 1073741824 := by omega
    have hlI : (lo : Int) ≤ (hi : Int) := by omega
    by_cases hlt : lo < hi
    · have hltI : (lo : Int) < (hi : Int) := by omega
      have hc := unhide HF q ((lo + hi) / 2) (by omega)
      rw [show (((lo + hi) / 2 : Nat) : Int) = ((lo : Int) + (hi : Int)) / 2 by omega] at hc
      obtain ⟨pb, hpb⟩ : ∃ b, b = p ((lo + hi) / 2) := ⟨_, rfl⟩
      rw [← hpb] at hc
      have HP := hide hpb
      have KC := hide hc
      clear hpb hc
      cases pb with
      | false =>
        have I2 : Hid ((∀ t, t < (lo + hi) / 2 + 1 → p t = false) ∧ (∀ t, hi ≤ t → t < n → p t = true)) := ⟨fun t ht => (by
          cases h : p t with
          | false => rfl
          | true => have := unhide HM t ((lo + hi) / 2) (by omega) (by omega) h; rw [← unhide HP] at this; cases this), (unhide HI).2⟩
        clear HP HI
        go_wp2_with fail
        refine (unhide KC).mono ?_
        rintro e w' ⟨rfl, q2, rfl⟩
        go_wp2_with fail
        go_roundw
        case rel => exact ⟨(lo + hi) / 2 + 1, hi, q + q2, by rw [show ((lo : Int) + (hi : Int)) / 2 + 1 = (((lo + hi) / 2 + 1 : Nat) : Int) by omega], rfl, by omega, hin, rfl, I2⟩
        case measure => simp only [intOf]; omega
      | true =>
        have I2 : Hid ((∀ t, t < lo → p t = false) ∧ (∀ t, (lo + hi) / 2 ≤ t → t < n → p t = true)) := ⟨(unhide HI).1, fun t ht htn => unhide HM ((lo + hi) / 2) t ht htn (unhide HP).symm⟩
        clear HP HI
        go_wp2_with fail
        refine (unhide KC).mono ?_
        rintro e w' ⟨rfl, q2, rfl⟩
        go_wp2_with fail
        go_roundw
        case rel => exact ⟨lo, (lo + hi) / 2, q + q2, rfl, by rw [show ((lo : Int) + (hi : Int)) / 2 = (((lo + hi) / 2 : Nat) : Int) by omega], by omega, by omega, rfl, I2⟩
        case measure => simp only [intOf]; omega
    · obtain rfl : hi = lo := by omega
      go_wp2_with fail
      go_ret
      exact ⟨hi, rfl, hin, (unhide HI).1, (unhide HI).2, q, rfl⟩
structure AtG (l : List Lg) (g : Int) (k : Nat) : Prop where
  le : k ≤ l.length
  lo : ∀ (j : Nat) (p : Lg), j < k → l[j]? = some p → p.1 < g
  hi : ∀ (j : Nat) (p : Lg), k ≤ j → l[j]? = some p → g ≤ p.1
theorem ris_mono {l : List Lg} (h : risB l = true) : ∀ (a b : Nat) (p q : Lg), a < b → l[a]? = some p → l[b]? = some q → p.1 < q.1 := by
  have hs := (ris_iff l).1 h
  intro a b p q hab hp hq
  induction b generalizing q with
  | zero => omega
  | succ b ih =>
    have hb : b < l.length := by have := (List.getElem?_eq_some_iff.1 hq).1; omega
    have hbq := hs b l[b] q (List.getElem?_eq_getElem hb) hq
    rcases Nat.lt_or_ge a b with c | c
    · have := ih l[b] c (List.getElem?_eq_getElem hb); omega
    · obtain rfl : a = b := by omega
      rw [List.getElem?_eq_getElem hb] at hp; cases hp; exact hbq
theorem AtG.found {l : List Lg} {g : Int} {k : Nat} (_h : AtG l g k) (hr : risB l = true) {p : Lg} (hp : l[k]? = some p) (e : p.1 = g) : fndL l g = some p.2 := by
  rw [← e]; exact fndL_of hr (List.mem_of_getElem? hp)
theorem AtG.none {l : List Lg} {g : Int} {k : Nat} (h : AtG l g k) (hr : risB l = true) (hn : ∀ p, l[k]? = some p → p.1 ≠ g) : fndL l g = none := by
  unfold fndL
  rw [List.find?_eq_none.2 (fun x hx => ?_)]
  · rfl
  · obtain ⟨j, hj⟩ := List.getElem?_of_mem hx
    simp only [decide_eq_true_eq]
    intro e
    rcases Nat.lt_trichotomy j k with c | c | c
    · have := h.lo j x c hj; omega
    · subst c; exact hn x hj e
    · have hk : k < l.length := by have := (List.getElem?_eq_some_iff.1 hj).1; omega
      have h1 := h.hi k l[k] (Nat.le_refl _) (List.getElem?_eq_getElem hk)
      have h2 := ris_mono hr k j l[k] x c (List.getElem?_eq_getElem hk) hj
      omega
def FnP (w : World) (l : List Lg) (g : Int) (k : Nat) (cv : Value) : Prop :=
  AtG l g k ∧ ((fndL l g = none ∧ cv = .slice none 0 0 ∧ ∀ p, l[k]? = some p → p.1 ≠ g) ∨ ∃ p, l[k]? = some p ∧ p.1 = g ∧ fndL l g = some p.2 ∧ Cms w cv p.2)
set_option maxRecDepth 100000 in
set_option maxHeartbeats 4000000 in
theorem find_any {u w : World} {v : Value} {l : List Lg} (h : Lgs u v l) (hu : Below u.heap.size u w) (hr : risB l = true) (hl : l.length ≤ 1073741824) (g : Int) :
    Calls Tryd.prog 22 #[v, .int .i64 g] w fun e w' => ∃ (k : Nat) (a : Option Addr) (n c : Nat), e = .returned (.tuple #[.int .i64 (k : Int), .slice a n c]) ∧ FnP u l g k (.slice a n c) ∧ Below w.heap.size w w' := by
  obtain ⟨a, cap, rfl⟩ := h.slice
  obtain ⟨N, hN⟩ : ∃ N, N = l.length := ⟨_, rfl⟩
  rw [← hN] at h hl ⊢
  have hNI : (N : Int) ≤ 1073741824 := by omega
  obtain ⟨W0, hW0⟩ : ∃ W, W = (w.alloc (.cells #[.slice a N cap] 22)).alloc (.cells #[.int .i64 g] 3) := ⟨_, rfl⟩
  have bw0 : Below w.heap.size w W0 := by rw [hW0]; exact bw_tr (bwA _ _) (bwA _ _)
  have b0 : Below u.heap.size u W0 := bw_tr hu bw0
  have k1 : W0.heap[w.heap.size]? = some (.cells #[.slice a N cap] 22 (0, 0)) := by
    have h1 := heap_alloc_new w (.cells #[.slice a N cap] 22)
    rw [hW0, Below.heap_alloc _ _ _ (by simp)]; exact h1
  have k2 : W0.heap[w.heap.size + 1]? = some (.cells #[.int .i64 g] 3 (0, 0)) := by
    have h2 := heap_alloc_new (w.alloc (.cells #[.slice a N cap] 22)) (.cells #[.int .i64 g] 3)
    have e : (w.alloc (.cells #[.slice a N cap] 22)).heap.size = w.heap.size + 1 := by simp
    rw [e] at h2
    rw [hW0]; exact h2
  have c1 : W0.cell? ⟨w.heap.size, 0, none⟩ = some (.slice a N cap) := blk_c k1 rfl
  have c2 : W0.cell? ⟨w.heap.size + 1, 0, none⟩ = some (.int .i64 g) := blk_c k2 rfl
  have KS : Calls Tryd.prog 41 #[.int .i64 (N : Int), .func (.func 42) #[] #[.pointer (some ⟨w.heap.size, 0, none⟩), .pointer (some ⟨w.heap.size + 1, 0, none⟩)]] W0 fun e w' => ∃ k : Nat, e = .returned (.int .i64 (k : Int)) ∧ Hid (k ≤ N ∧ AtG l g k) ∧ ∃ q, w' = W0.drewN q := by
    refine (search_any (w := W0) (n := N) (bl := w.heap.size) (bg := w.heap.size + 1) (p := fun i => decide (g ≤ ((l.map (·.1)).getD i 0))) hl ?_ ?_).mono ?_
    · intro m i hi
      obtain ⟨p, hp⟩ : ∃ p, l[i]? = some p := ⟨_, List.getElem?_eq_getElem (by omega)⟩
      obtain ⟨gb, o, rfl, cv, _, d0, _⟩ := h.get hp
      have e : (l.map (·.1)).getD i 0 = p.1 := by rw [List.getD_eq_getElem?_getD, List.getElem?_map, hp]; rfl
      rw [e]
      have hb := below_drewN (Below.refl W0.heap.size W0) m
      exact find1_any hi hl (by rw [hb.cell (lt_of_cell c1)]; exact c1) (by rw [hb.cell (lt_of_cell c2)]; exact c2) (by rw [(bw_tr b0 hb).cell (lt_of_cell d0)]; exact d0)
    · intro x y hxy hy hpx
      simp only [decide_eq_true_eq] at hpx ⊢
      have hxl : x < l.length := by omega
      have hyl : y < l.length := by omega
      have ex : (l.map (·.1)).getD x 0 = l[x].1 := by rw [List.getD_eq_getElem?_getD, List.getElem?_map, List.getElem?_eq_getElem hxl]; rfl
      have ey : (l.map (·.1)).getD y 0 = l[y].1 := by rw [List.getD_eq_getElem?_getD, List.getElem?_map, List.getElem?_eq_getElem hyl]; rfl
      rw [ex] at hpx
      rw [ey]
      rcases Nat.lt_or_ge x y with c | c
      · have := ris_mono hr x y l[x] l[y] c (List.getElem?_eq_getElem hxl) (List.getElem?_eq_getElem hyl); omega
      · obtain rfl : x = y := by omega
        exact hpx
    · rintro e w' ⟨k, rfl, hk, h1, h2, hq⟩
      refine ⟨k, rfl, ⟨hk, by omega, fun j p hj hp => ?_, fun j p hj hp => ?_⟩, hq⟩
      · have := h1 j hj
        have e : (l.map (·.1)).getD j 0 = p.1 := by rw [List.getD_eq_getElem?_getD, List.getElem?_map, hp]; rfl
        simp only [e, decide_eq_false_iff_not] at this
        omega
      · have := h2 j hj (by have := (List.getElem?_eq_some_iff.1 hp).1; omega)
        have e : (l.map (·.1)).getD j 0 = p.1 := by rw [List.getD_eq_getElem?_getD, List.getElem?_map, hp]; rfl
        simp only [e, decide_eq_true_eq] at this
        omega
  have HW := hide hW0
  have HH := hide (And.intro h (And.intro hN (And.intro hr (And.intro b0 bw0))))
  have KH := hide KS
  clear h hr hl hN hW0 b0 bw0 hu k1 k2 KS
  go_enter Tryd.func22, Tryd.ntmps22
  go_upto_region 1 with fail
  rw [← unhide HW]
  clear HW
  go_wp2_with fail
  refine (unhide KH).mono ?_
  rintro e w1 ⟨k, rfl, hk, q, rfl⟩
  obtain ⟨hkN, hat⟩ := unhide hk
  obtain ⟨h, hN, hr, b0, bw0⟩ := unhide HH
  rcases Nat.lt_or_ge k N with hlt | hge
  · have hkI : (k : Int) < (N : Int) := by omega
    have h0 : (0 : Int) ≤ (k : Int) := by omega
    have hne : ((k : Int) == (N : Int)) = false := by simp; omega
    have hne2 : decide ((k : Int) = (N : Int)) = false := decide_eq_false (by omega)
    have hne3 : decide (k = N) = false := decide_eq_false (by omega)
    have hne4 : ¬ k = N := by omega
    obtain ⟨p, hp⟩ : ∃ p, l[k]? = some p := ⟨_, List.getElem?_eq_getElem (by omega)⟩
    obtain ⟨gb, o, rfl, cv, hcv, d0, d1⟩ := h.get hp
    obtain ⟨a2, n2, e2⟩ := hcv.slice
    subst e2
    obtain ⟨pg, hpg⟩ : ∃ z, z = p.1 := ⟨_, rfl⟩
    rw [← hpg] at d0
    have f0 : W0.cell? ⟨gb, o + k * 2, none⟩ = some (.int .i64 pg) := by rw [b0.cell (lt_of_cell d0)]; exact d0
    have f1 : W0.cell? ⟨gb, o + k * 2 + 1, none⟩ = some (.slice a2 p.2.length n2) := by rw [b0.cell (lt_of_cell d1)]; exact d1
    by_cases hq : pg = g
    · have HR : Hid (FnP u l g k (.slice a2 p.2.length n2) ∧ Below w.heap.size w W0) := ⟨⟨hat, Or.inr ⟨p, hp, by rw [← hpg]; exact hq, hat.found hr hp (by rw [← hpg]; exact hq), hcv⟩⟩, bw0⟩
      clear hat h hN hr b0 bw0 hp hcv d0 d1 hpg hk KH HH hlt hkN
      generalize p.2.length = M at *
      subst hq
      go_wp2_with fail
      go_quiet (fail)
      go_wp2_with fail
      go_quiet (fail)
      go_wp2_with fail
      go_ret2
      exact ⟨k, _, _, _, rfl, (unhide HR).1, below_drewN (below_drewN (below_drewN (unhide HR).2 _) _) _⟩
    · have hq2 : (pg == g) = false := by simp [hq]
      have hq3 : decide (pg = g) = false := decide_eq_false hq
      have HR : Hid (FnP u l g k (.slice none 0 0) ∧ Below w.heap.size w W0) := by
        have hn : ∀ p', l[k]? = some p' → p'.1 ≠ g := fun p' hp' => by rw [hp] at hp'; cases hp'; rw [← hpg]; exact hq
        exact ⟨⟨hat, Or.inl ⟨hat.none hr hn, rfl, hn⟩⟩, bw0⟩
      clear hat h hN hr b0 bw0 hp hcv d0 d1 hpg hk KH HH hlt hkN f1
      go_wp2_with fail
      go_quiet (fail)
      go_wp2_with fail
      go_ret2
      exact ⟨k, _, _, _, rfl, (unhide HR).1, below_drewN (below_drewN (unhide HR).2 _) _⟩
  · obtain rfl : k = N := by omega
    have HR : Hid (FnP u l g k (.slice none 0 0) ∧ Below w.heap.size w W0) := by
      have hn : ∀ p', l[k]? = some p' → p'.1 ≠ g := fun p' hp' => by rw [List.getElem?_eq_none (by omega)] at hp'; cases hp'
      exact ⟨⟨hat, Or.inl ⟨hat.none hr hn, rfl, hn⟩⟩, bw0⟩
    clear hat h hN hr b0 bw0 hk KH HH hge hkN
    go_wp2_with fail
    go_quiet (fail)
    go_wp2_with fail
    go_ret2
    exact ⟨k, _, _, _, rfl, (unhide HR).1, below_drewN (below_drewN (unhide HR).2 _) _⟩
end Go.Proofs.YthlbdajnkdkocaaDoor

/- A group's commits (commits, has); Len. -/
namespace Go.Proofs.YthlbdajnkdkocaaDoor
open Go.RowKit Go.Maps
def cmsL (l : List Lg) (g : Int) : List Cm := if chkB l = true then (fndL l g).getD [] else []
theorem cmsL_len (l : List Lg) (g : Int) : (cmsL l g).length = lenL l g := by unfold cmsL lenL; split <;> rfl
theorem getL_cms (l : List Lg) (g : Int) {e : Int} (h : 0 ≤ e) : getL l g e = (cmsL l g)[e.toNat]? := by
  unfold getL
  by_cases hc : e < (lenL l g : Int)
  · rw [if_pos ⟨h, hc⟩]
    unfold lenL at hc
    unfold cmsL
    split
    · rfl
    · next q => rw [if_neg q] at hc; omega
  · rw [if_neg (fun q => hc q.2), List.getElem?_eq_none]
    rw [cmsL_len]; omega
theorem getL_neg (l : List Lg) (g : Int) {e : Int} (h : e < 0) : getL l g e = none := by unfold getL; rw [if_neg (by omega)]
theorem cmsL_sm {l : List Lg} (hs : SmL l) (g : Int) : SmG (g, cmsL l g) := by
  unfold cmsL
  split
  · cases hf : fndL l g with
    | none => exact ⟨by simp, by simp⟩
    | some cs => exact hs.g _ (fndL_mem hf)
  · exact ⟨by simp, by simp⟩
theorem Cms.none (w : World) : Cms w (.slice none 0 0) [] := ⟨by simp, Option.none, 0, rfl, Or.inl rfl⟩
set_option maxRecDepth 100000 in
set_option maxHeartbeats 4000000 in
theorem commits_any {u w : World} {v : Value} {l : List Lg} (h : Lgs u v l) (hu : Below u.heap.size u w) (hs : SmL l) (hT : Tab w) (g : Int) :
    Calls Tryd.prog 29 #[v, .int .i64 g] w fun e w' => ∃ (a : Option Addr) (c : Nat), e = .returned (.slice a (lenL l g) c) ∧ Cms u (.slice a (lenL l g) c) (cmsL l g) ∧ Below w.heap.size w w' := by
  have KM := hide (mayBeL_any (h.bw hu) hT)
  have KF : Hid (chkB l = true → ∀ W, Below w.heap.size w W → Calls Tryd.prog 22 #[v, .int .i64 g] W fun e w' => ∃ (k : Nat) (a : Option Addr) (n c : Nat), e = .returned (.tuple #[.int .i64 (k : Int), .slice a n c]) ∧ Hid (n = lenL l g ∧ Cms u (.slice a n c) (cmsL l g)) ∧ Below W.heap.size W w') := fun hc W hW => by
    refine (find_any h (bw_tr hu hW) (chk_parts hc).2.1 hs.n g).mono ?_
    rintro e w' ⟨k, a, n, c, rfl, ⟨hat, hF⟩, hb⟩
    have hcm : Cms u (.slice a n c) (cmsL l g) := by
      unfold cmsL
      rw [if_pos hc]
      rcases hF with ⟨e1, e2, _⟩ | ⟨p, hp, e1, e2, e3⟩
      · rw [e1]; cases e2; exact Cms.none u
      · rw [e2]; exact e3
    have hlen : n = (cmsL l g).length := by
      obtain ⟨a9, c9, e9⟩ := hcm.slice
      cases e9; rfl
    exact ⟨k, a, n, c, rfl, ⟨by rw [hlen]; exact cmsL_len l g, hcm⟩, hb⟩
  have HC : Hid (chkB l = false → lenL l g = 0 ∧ cmsL l g = []) := fun q => by unfold lenL cmsL; rw [q]; exact ⟨rfl, rfl⟩
  obtain ⟨a, cap, rfl⟩ := h.slice
  obtain ⟨L, hL⟩ : ∃ z, z = lenL l g := ⟨_, rfl⟩
  rw [← hL] at KF HC ⊢
  generalize chkB l = r at *
  clear h hs hT hL hu
  generalize l.length = N at *
  go_enter Tryd.func29, Tryd.ntmps29
  go_wp2_with fail
  refine (unhide KM).mono ?_
  rintro e w1 ⟨rfl, b1⟩
  have B1 := hide b1
  clear b1 KM
  cases r with
  | false =>
    obtain ⟨e1, e2⟩ := unhide HC rfl
    subst e1
    clear KF HC
    go_wp2_with fail
    go_ret
    exact ⟨_, _, rfl, by rw [e2]; exact Cms.none u, unhide B1⟩
  | true =>
    have KF1 := hide (unhide KF rfl w1 (unhide B1))
    clear KF HC
    go_wp2_with fail
    refine (unhide KF1).mono ?_
    rintro e w2 ⟨k, a2, n, c, rfl, hn, b2⟩
    have HR := hide (And.intro (unhide hn) (bw_tr (unhide B1) b2))
    clear hn b2 KF1 B1
    go_wp2_with fail
    go_ret
    obtain ⟨⟨e1, e2⟩, e3⟩ := unhide HR
    subst e1
    exact ⟨_, _, rfl, e2, e3⟩
set_option maxHeartbeats 1000000 in
theorem has_any (w : World) (a : Option Addr) (n c : Nat) (e : Int) (hn : n ≤ 1073741824) :
    Calls Tryd.prog 34 #[.slice a n c, .int .i64 e] w fun r w' => r = .returned (.bool (decide (0 ≤ e ∧ e < (n : Int)))) ∧ w' = w := by
  have hnI : (n : Int) ≤ 1073741824 := by omega
  by_cases h0 : 0 ≤ e
  · by_cases h1 : e < (n : Int)
    · rw [decide_eq_true (show 0 ≤ e ∧ e < (n : Int) from ⟨h0, h1⟩)]
      go_enter Tryd.func34, Tryd.ntmps34
      go_wp2_with fail
      go_ret
      exact ⟨rfl, rfl⟩
    · rw [decide_eq_false (show ¬ (0 ≤ e ∧ e < (n : Int)) from fun q => h1 q.2)]
      go_enter Tryd.func34, Tryd.ntmps34
      go_wp2_with fail
      go_ret
      exact ⟨rfl, rfl⟩
  · rw [decide_eq_false (show ¬ (0 ≤ e ∧ e < (n : Int)) from fun q => h0 q.1)]
    go_enter Tryd.func34, Tryd.ntmps34
    go_wp2_with fail
    go_ret
    exact ⟨rfl, rfl⟩
set_option maxHeartbeats 1000000 in
theorem lgLen_any {w : World} {v : Value} {l : List Lg} (h : Lgs w v l) (hs : SmL l) (hT : Tab w) (g : Int) :
    Calls Tryd.prog 14 #[v, .int .i64 g] w fun e w' => e = .returned (.int .i64 (lenL l g : Nat)) ∧ Below w.heap.size w w' := by
  have K := hide (commits_any h (Below.refl _ _) hs hT g)
  obtain ⟨a, cap, rfl⟩ := h.slice
  generalize lenL l g = L at *
  generalize l.length = N at *
  clear h hT hs
  go_enter Tryd.func14, Tryd.ntmps14
  go_wp2_with fail
  refine (unhide K).mono ?_
  rintro e w1 ⟨a1, c1, rfl, hc, b1⟩
  have B1 := hide b1
  clear b1 hc K
  go_wp2_with fail
  go_ret
  exact ⟨rfl, unhide B1⟩
end Go.Proofs.YthlbdajnkdkocaaDoor

/- Whom an epoch's commit touches, plainly. -/
namespace Go.Proofs.YthlbdajnkdkocaaDoor
open Go.RowKit Go.Maps
def srt (l : List Int) : List Int := l.mergeSort fun x y => decide (x ≤ y)
def tchO (a b : List Int) : List Int := Lib.compact (srt (a ++ b))
theorem mems_ne {T : List Nd} (h : mayB T = true) (h0 : T.length ≠ 0) : mems T ≠ [] := by
  unfold mayB at h
  simp only [Bool.or_eq_true, Bool.and_eq_true, List.isEmpty_iff] at h
  rcases h with h | ⟨_, h⟩
  · rw [h] at h0; simp at h0
  · unfold anyM at h
    obtain ⟨i, hi, hq⟩ := List.any_eq_true.1 h
    simp only [Bool.and_eq_true, decide_eq_true_eq] at hq
    have hm : ndAt T (2 * i) ∈ lvs T := List.mem_of_getElem? (lvs_get (List.mem_range.1 hi))
    unfold mems memsOf
    intro hc
    have : (lvs T).filter pos = [] := by simpa using hc
    exact List.filter_eq_nil_iff.1 this _ hm hq.2
theorem mems_len {T : List Nd} (h : mayB T = true) : (mems T).length ≤ 8 := by
  have h1 := memsOf_len (lvs T)
  rw [lvs_len] at h1
  have := (mayB_15 h).2
  unfold mems
  omega
theorem cmsL_may {l : List Lg} {g : Int} {i : Nat} {c : Cm} (h : (cmsL l g)[i]? = some c) : chkB l = true ∧ c.gr = g ∧ c.ep = (i : Int) ∧ mayB c.next = true ∧ c.next.length ≠ 0 := by
  unfold cmsL at h
  split at h
  · next hc =>
    cases hf : fndL l g with
    | none => rw [hf] at h; simp at h
    | some cs =>
      rw [hf] at h
      have h1 := (log_iff.1 ((chk_parts hc).2.2 _ (fndL_mem hf))).2 i c h
      obtain ⟨q1, q2, q3⟩ := h1
      unfold mayC at q3
      simp only [Bool.and_eq_true, decide_eq_true_eq] at q3
      exact ⟨hc, q1, q2, q3.1.2, q3.2⟩
  · simp at h
def tchA (cs : List Cm) (i : Nat) : List Int :=
  match cs[i]? with
  | none => []
  | some c => tchO (mems c.next) (if i = 0 then [] else match cs[i - 1]? with | none => [] | some d => mems d.next)
def tchL (l : List Lg) (g e : Int) : List Int := if 0 ≤ e then tchA (cmsL l g) e.toNat else []
end Go.Proofs.YthlbdajnkdkocaaDoor

/- Get of package ledger. -/
namespace Go.Proofs.YthlbdajnkdkocaaDoor
open Go.RowKit Go.Maps
theorem oc00 (B : Nat) (w : World) : OC B w cm00 cv00 [] := ⟨World.ownsRow_nil _ _ _ _, World.ownsRow_nil _ _ _ _, World.ownsRow_nil _ _ _ _, World.ownsRow_nil _ _ _ _, otr_nil B w, fun i u k h => by simp at h⟩
set_option maxRecDepth 100000 in
set_option maxHeartbeats 8000000 in
theorem lgGet_any {w : World} {v : Value} {l : List Lg} (h : Lgs w v l) (hs : SmL l) (hT : Tab w) (g e : Int) :
    Calls Tryd.prog 15 #[v, .int .i64 g, .int .i64 e] w fun r w' => ∃ x us, r = .returned (.tuple #[cmV ((getL l g e).getD cm00) x, .bool (getL l g e).isSome]) ∧ OC w.heap.size w' ((getL l g e).getD cm00) x us ∧ Below w.heap.size w w' := by
  obtain ⟨w0, hw0⟩ : ∃ w0, w0 = w.alloc (.cells cm0 31) := ⟨_, rfl⟩
  have bl : Below w.heap.size w w0 := by rw [hw0]; exact bwA _ _
  have kk : w0.heap[w.heap.size]? = some (.cells cm0 31 (0, 0)) := by rw [hw0]; exact heap_alloc_new _ _
  have K1 := hide (commits_any h bl hs (hT.bw bl) g)
  have hsm := cmsL_sm hs g
  have hlen := cmsL_len l g
  obtain ⟨L, hL⟩ : ∃ z, z = lenL l g := ⟨_, rfl⟩
  obtain ⟨cs, hcs⟩ : ∃ z, z = cmsL l g := ⟨_, rfl⟩
  obtain ⟨ot, hot⟩ : ∃ z, z = getL l g e := ⟨_, rfl⟩
  rw [← hL, ← hcs] at K1
  rw [← hcs] at hsm
  rw [← hcs, ← hL] at hlen
  rw [← hot]
  have hLb : L ≤ 1073741824 := by rw [← hlen]; exact hsm.n
  have HOT : Hid ((0 ≤ e → ot = cs[e.toNat]?) ∧ (e < 0 → ot = none)) := ⟨fun q => by rw [hot, hcs]; exact getL_cms l g q, fun q => by rw [hot]; exact getL_neg l g q⟩
  obtain ⟨a, cap, rfl⟩ := h.slice
  generalize l.length = N at *
  have HW : Hid (w0 = w.alloc (.cells #[.int .i64 0, .int .i64 0, .int .i64 0, .int .i64 0, .int .i64 0, .bool false, .slice none 0 0, .slice none 0 0, .slice none 0 0, .slice none 0 0, .int .i64 0, .int .i64 0, .slice none 0 0, .int .i64 0, .int .i64 0] 31)) := hw0
  have HK := hide (And.intro kk bl)
  have HS := hide (And.intro hsm hlen)
  have KH := hide (fun (W : World) (a : Option Addr) (c : Nat) => has_any W a L c e hLb)
  have hLI : (L : Int) ≤ 1073741824 := by omega
  clear h hw0 bl kk hL hot hLb hs hT hcs hsm hlen
  go_enter Tryd.func15, Tryd.ntmps15
  go_upto_region 1 with fail
  rw [← unhide HW]
  clear HW
  go_wp2_with fail
  refine (unhide K1).mono ?_
  rintro y w1 ⟨a9, c9, rfl, hcm, b1⟩
  have HCM := hide hcm
  have HB1 := hide b1
  clear hcm b1 K1
  go_wp2_with fail
  refine (unhide KH w1 a9 c9).mono ?_
  rintro y w1 ⟨rfl, rfl⟩
  clear KH
  by_cases hin : 0 ≤ e ∧ e < (L : Int)
  · rw [decide_eq_true hin]
    obtain ⟨idx, rfl⟩ : ∃ n : Nat, e = (n : Int) := ⟨e.toNat, by omega⟩
    have q1 : (idx : Int) < (L : Int) := hin.2
    have q0 : (0 : Int) ≤ (idx : Int) := hin.1
    have HG : Hid (idx < cs.length ∧ ot = cs[idx]? ∧ SmG (g, cs) ∧ True) := ⟨by have := (unhide HS).2; omega, by have := (unhide HOT).1 q0; simpa using this, (unhide HS).1, trivial⟩
    have hcm := unhide HCM
    have b1 := unhide HB1
    have bl := (unhide HK).2
    clear HOT HS HCM HB1 hin
    obtain ⟨c, hc⟩ : ∃ c, cs[idx]? = some c := ⟨_, List.getElem?_eq_getElem (by have := (unhide HG).1; omega)⟩
    have hot : ot = some c := by rw [(unhide HG).2.1]; exact hc
    have hsc : SmC c := (unhide HG).2.2.1.c c (List.mem_of_getElem? hc)
    obtain ⟨b', o', ea, x, hx, hcc⟩ := hcm.get hc
    subst ea
    have KC := hide (frCommit_any (hx.bw (bw_tr bl b1)) hsc)
    have bw1 := bw_tr bl b1
    have B1 := hide bw1
    subst hot
    have kk1 := hide (kept_b (unhide HK).1 (lt_of_blk (unhide HK).1) b1)
    have hcc' : ∀ j u, (cmC c x)[j]? = some u → w1.cell? ⟨b', o' + idx * 15 + j, none⟩ = some u := fun j u hu => by have := hcc j u hu; rw [bw1.cell (lt_of_cell this)]; exact this
    obtain ⟨a1, k1, x1⟩ := hx.adds.slice
    obtain ⟨a2, k2, x2⟩ := nums_slice hx.rem
    obtain ⟨a3, k3, x3⟩ := hx.seals.slice
    obtain ⟨a4, k4, x4⟩ := hx.joins.slice
    obtain ⟨a5, k5, x5⟩ := hx.next.slice
    clear hc hsc hx hcc HG b1 bw1 hcm
    obtain ⟨g0, g1, g2, g3, g4, g5, adds, rem, seals, joins, g10, g11, next, g13, g14⟩ := c
    obtain ⟨av, rv, qv, jv, nv⟩ := x
    simp only at x1 x2 x3 x4 x5
    subst x1 x2 x3 x4 x5
    obtain ⟨LA, hA⟩ : ∃ z, z = adds.length := ⟨_, rfl⟩
    obtain ⟨LR, hR⟩ : ∃ z, z = rem.length := ⟨_, rfl⟩
    obtain ⟨LQ, hQ⟩ : ∃ z, z = seals.length := ⟨_, rfl⟩
    obtain ⟨LJ, hJ⟩ : ∃ z, z = joins.length := ⟨_, rfl⟩
    obtain ⟨LN, hNn⟩ : ∃ z, z = next.length := ⟨_, rfl⟩
    have HL := hide (And.intro hA (And.intro hR (And.intro hQ (And.intro hJ hNn))))
    rw [← hA, ← hR, ← hQ, ← hJ, ← hNn] at KC hcc'
    clear hA hR hQ hJ hNn
    unfold cmV cmC at KC
    simp only at KC
    have y0 : w1.cell? ⟨b', o' + idx * 15, none⟩ = some (.int .i64 g0) := hcc' 0 _ rfl
    have y1 : w1.cell? ⟨b', o' + idx * 15 + 1, none⟩ = some (.int .i64 g1) := hcc' 1 _ rfl
    have y2 : w1.cell? ⟨b', o' + idx * 15 + 2, none⟩ = some (.int .i64 g2) := hcc' 2 _ rfl
    have y3 : w1.cell? ⟨b', o' + idx * 15 + 3, none⟩ = some (.int .i64 g3) := hcc' 3 _ rfl
    have y4 : w1.cell? ⟨b', o' + idx * 15 + 4, none⟩ = some (.int .i64 g4) := hcc' 4 _ rfl
    have y5 : w1.cell? ⟨b', o' + idx * 15 + 5, none⟩ = some (.bool g5) := hcc' 5 _ rfl
    have y6 : w1.cell? ⟨b', o' + idx * 15 + 6, none⟩ = some (.slice a1 LA k1) := hcc' 6 _ rfl
    have y7 : w1.cell? ⟨b', o' + idx * 15 + 7, none⟩ = some (.slice a2 LR k2) := hcc' 7 _ rfl
    have y8 : w1.cell? ⟨b', o' + idx * 15 + 8, none⟩ = some (.slice a3 LQ k3) := hcc' 8 _ rfl
    have y9 : w1.cell? ⟨b', o' + idx * 15 + 9, none⟩ = some (.slice a4 LJ k4) := hcc' 9 _ rfl
    have y10 : w1.cell? ⟨b', o' + idx * 15 + 10, none⟩ = some (.int .i64 g10) := hcc' 10 _ rfl
    have y11 : w1.cell? ⟨b', o' + idx * 15 + 11, none⟩ = some (.int .i64 g11) := hcc' 11 _ rfl
    have y12 : w1.cell? ⟨b', o' + idx * 15 + 12, none⟩ = some (.slice a5 LN k5) := hcc' 12 _ rfl
    have y13 : w1.cell? ⟨b', o' + idx * 15 + 13, none⟩ = some (.int .i64 g13) := hcc' 13 _ rfl
    have y14 : w1.cell? ⟨b', o' + idx * 15 + 14, none⟩ = some (.int .i64 g14) := hcc' 14 _ rfl
    clear hcc'
    go_wp2_with fail
    refine (unhide KC).mono ?_
    rintro y wz ⟨x', us, rfl, ho, b3⟩
    obtain ⟨a1', k1', e1⟩ := own_slice ho.adds
    obtain ⟨a2', k2', e2⟩ := own_slice ho.rem
    obtain ⟨a3', k3', e3⟩ := own_slice ho.seals
    obtain ⟨a4', k4', e4⟩ := own_slice ho.joins
    obtain ⟨a5', k5', e5⟩ := own_slice ho.next.row
    have HX := hide (And.intro ho (And.intro (unhide B1).size (lt_of_blk (unhide kk1))))
    have kz := kept_b (unhide kk1) (lt_of_blk (unhide kk1)) b3
    have B2 := hide (bw_tr (unhide B1) b3)
    obtain ⟨av', rv', qv', jv', nv'⟩ := x'
    simp only at e1 e2 e3 e4 e5
    obtain ⟨h1, h2, h3, h4, h5⟩ := unhide HL
    rw [← h1] at e1
    rw [← h2] at e2
    rw [← h3] at e3
    rw [← h4] at e4
    rw [← h5] at e5
    subst e1 e2 e3 e4 e5
    clear ho b3 KC kk1 HL h1 h2 h3 h4 h5 B1 y0 y1 y2 y3 y4 y5 y6 y7 y8 y9 y10 y11 y12 y13 y14
    obtain ⟨WZ, hWZ⟩ : ∃ W, W = pokes wz w.heap.size 0 [.int .i64 g0, .int .i64 g1, .int .i64 g2, .int .i64 g3, .int .i64 g4, .bool g5, .slice a1' LA k1', .slice a2' LR k2', .slice a3' LQ k3', .slice a4' LJ k4', .int .i64 g10, .int .i64 g11, .slice a5' LN k5', .int .i64 g13, .int .i64 g14] := ⟨_, rfl⟩
    have z : WZ.heap[w.heap.size]? = some (.cells #[.int .i64 g0, .int .i64 g1, .int .i64 g2, .int .i64 g3, .int .i64 g4, .bool g5, .slice a1' LA k1', .slice a2' LR k2', .slice a3' LQ k3', .slice a4' LJ k4', .int .i64 g10, .int .i64 g11, .slice a5' LN k5', .int .i64 g13, .int .i64 g14] 31 (0, 0)) := by
      rw [hWZ, pokes_at _ _ _ _ kz, pk_all (by rfl)]
    have HB : Hid (Below w.heap.size w WZ) := by unfold Hid; rw [hWZ]; exact pokes_below (Nat.le_refl _) _ _ _ (unhide B2)
    have HZ : Hid (WZ = (((((((((((((((wz).setCell ⟨w.heap.size, 0, none⟩ (.int .i64 g0)).setCell ⟨w.heap.size, 1, none⟩ (.int .i64 g1)).setCell ⟨w.heap.size, 2, none⟩ (.int .i64 g2)).setCell ⟨w.heap.size, 3, none⟩ (.int .i64 g3)).setCell ⟨w.heap.size, 4, none⟩ (.int .i64 g4)).setCell ⟨w.heap.size, 5, none⟩ (.bool g5)).setCell ⟨w.heap.size, 6, none⟩ (.slice a1' LA k1')).setCell ⟨w.heap.size, 7, none⟩ (.slice a2' LR k2')).setCell ⟨w.heap.size, 8, none⟩ (.slice a3' LQ k3')).setCell ⟨w.heap.size, 9, none⟩ (.slice a4' LJ k4')).setCell ⟨w.heap.size, 10, none⟩ (.int .i64 g10)).setCell ⟨w.heap.size, 11, none⟩ (.int .i64 g11)).setCell ⟨w.heap.size, 12, none⟩ (.slice a5' LN k5')).setCell ⟨w.heap.size, 13, none⟩ (.int .i64 g13)).setCell ⟨w.heap.size, 14, none⟩ (.int .i64 g14)) := hWZ
    have fz := fun j => froz_b' (i := j) kz
    have s0 : wz.cell? ⟨w.heap.size, 0, none⟩ = some (.int .i64 0) := blk_c kz rfl
    have s1 : wz.cell? ⟨w.heap.size, 1, none⟩ = some (.int .i64 0) := blk_c kz rfl
    have s2 : wz.cell? ⟨w.heap.size, 2, none⟩ = some (.int .i64 0) := blk_c kz rfl
    have s3 : wz.cell? ⟨w.heap.size, 3, none⟩ = some (.int .i64 0) := blk_c kz rfl
    have s4 : wz.cell? ⟨w.heap.size, 4, none⟩ = some (.int .i64 0) := blk_c kz rfl
    have s5 : wz.cell? ⟨w.heap.size, 5, none⟩ = some (.bool false) := blk_c kz rfl
    have s6 : wz.cell? ⟨w.heap.size, 6, none⟩ = some (.slice none 0 0) := blk_c kz rfl
    have s7 : wz.cell? ⟨w.heap.size, 7, none⟩ = some (.slice none 0 0) := blk_c kz rfl
    have s8 : wz.cell? ⟨w.heap.size, 8, none⟩ = some (.slice none 0 0) := blk_c kz rfl
    have s9 : wz.cell? ⟨w.heap.size, 9, none⟩ = some (.slice none 0 0) := blk_c kz rfl
    have s10 : wz.cell? ⟨w.heap.size, 10, none⟩ = some (.int .i64 0) := blk_c kz rfl
    have s11 : wz.cell? ⟨w.heap.size, 11, none⟩ = some (.int .i64 0) := blk_c kz rfl
    have s12 : wz.cell? ⟨w.heap.size, 12, none⟩ = some (.slice none 0 0) := blk_c kz rfl
    have s13 : wz.cell? ⟨w.heap.size, 13, none⟩ = some (.int .i64 0) := blk_c kz rfl
    have s14 : wz.cell? ⟨w.heap.size, 14, none⟩ = some (.int .i64 0) := blk_c kz rfl
    have z0 : WZ.cell? ⟨w.heap.size, 0, none⟩ = some (.int .i64 g0) := blk_c z rfl
    have z1 : WZ.cell? ⟨w.heap.size, 1, none⟩ = some (.int .i64 g1) := blk_c z rfl
    have z2 : WZ.cell? ⟨w.heap.size, 2, none⟩ = some (.int .i64 g2) := blk_c z rfl
    have z3 : WZ.cell? ⟨w.heap.size, 3, none⟩ = some (.int .i64 g3) := blk_c z rfl
    have z4 : WZ.cell? ⟨w.heap.size, 4, none⟩ = some (.int .i64 g4) := blk_c z rfl
    have z5 : WZ.cell? ⟨w.heap.size, 5, none⟩ = some (.bool g5) := blk_c z rfl
    have z6 : WZ.cell? ⟨w.heap.size, 6, none⟩ = some (.slice a1' LA k1') := blk_c z rfl
    have z7 : WZ.cell? ⟨w.heap.size, 7, none⟩ = some (.slice a2' LR k2') := blk_c z rfl
    have z8 : WZ.cell? ⟨w.heap.size, 8, none⟩ = some (.slice a3' LQ k3') := blk_c z rfl
    have z9 : WZ.cell? ⟨w.heap.size, 9, none⟩ = some (.slice a4' LJ k4') := blk_c z rfl
    have z10 : WZ.cell? ⟨w.heap.size, 10, none⟩ = some (.int .i64 g10) := blk_c z rfl
    have z11 : WZ.cell? ⟨w.heap.size, 11, none⟩ = some (.int .i64 g11) := blk_c z rfl
    have z12 : WZ.cell? ⟨w.heap.size, 12, none⟩ = some (.slice a5' LN k5') := blk_c z rfl
    have z13 : WZ.cell? ⟨w.heap.size, 13, none⟩ = some (.int .i64 g13) := blk_c z rfl
    have z14 : WZ.cell? ⟨w.heap.size, 14, none⟩ = some (.int .i64 g14) := blk_c z rfl
    have HO : Hid (OC w.heap.size WZ ⟨g0, g1, g2, g3, g4, g5, adds, rem, seals, joins, g10, g11, next, g13, g14⟩ ⟨.slice a1' LA k1', .slice a2' LR k2', .slice a3' LQ k3', .slice a4' LJ k4', .slice a5' LN k5'⟩ us) := by
      have hq := (unhide HX)
      refine (OC.keep hq.1 (fun k hk => ?_)).mono hq.2.1
      rw [hWZ]
      exact pokes_other (by have := (OC.lt hq.1 k hk).1; have := hq.2.2; omega) _ _ _
    clear hWZ z kz B2 HX
    go_wp2_with fail
    rw [← unhide HZ]
    exact bodyPost_ret (v := .tuple #[.agg #[.int .i64 g0, .int .i64 g1, .int .i64 g2, .int .i64 g3, .int .i64 g4, .bool g5, .slice a1' LA k1', .slice a2' LR k2', .slice a3' LQ k3', .slice a4' LJ k4', .int .i64 g10, .int .i64 g11, .slice a5' LN k5', .int .i64 g13, .int .i64 g14], .bool true]) (by simp [results, Tryd.results15, go_sem, z0, z1, z2, z3, z4, z5, z6, z7, z8, z9, z10, z11, z12, z13, z14]) rfl ⟨⟨.slice a1' LA k1', .slice a2' LR k2', .slice a3' LQ k3', .slice a4' LJ k4', .slice a5' LN k5'⟩, us, rfl, unhide HO, unhide HB⟩
  · rw [decide_eq_false hin]
    have hot : ot = none := by
      by_cases q : e < 0
      · exact (unhide HOT).2 q
      · rw [(unhide HOT).1 (by omega)]; exact List.getElem?_eq_none (by have := (unhide HS).2; omega)
    subst hot
    have kz := kept_b (unhide HK).1 (lt_of_blk (unhide HK).1) (unhide HB1)
    have B2 := hide (bw_tr (unhide HK).2 (unhide HB1))
    obtain ⟨wz, hwz⟩ : ∃ z, z = w1 := ⟨_, rfl⟩
    rw [← hwz] at kz B2 ⊢
    clear hwz HOT HS HCM HB1 HK hin
    obtain ⟨WZ, hWZ⟩ : ∃ W, W = pokes wz w.heap.size 0 [.int .i64 0, .int .i64 0, .int .i64 0, .int .i64 0, .int .i64 0, .bool false, .slice none 0 0, .slice none 0 0, .slice none 0 0, .slice none 0 0, .int .i64 0, .int .i64 0, .slice none 0 0, .int .i64 0, .int .i64 0] := ⟨_, rfl⟩
    have z : WZ.heap[w.heap.size]? = some (.cells #[.int .i64 0, .int .i64 0, .int .i64 0, .int .i64 0, .int .i64 0, .bool false, .slice none 0 0, .slice none 0 0, .slice none 0 0, .slice none 0 0, .int .i64 0, .int .i64 0, .slice none 0 0, .int .i64 0, .int .i64 0] 31 (0, 0)) := by
      rw [hWZ, pokes_at _ _ _ _ kz, pk_all (by rfl)]
    have HB : Hid (Below w.heap.size w WZ) := by unfold Hid; rw [hWZ]; exact pokes_below (Nat.le_refl _) _ _ _ (unhide B2)
    have HZ : Hid (WZ = (((((((((((((((wz).setCell ⟨w.heap.size, 0, none⟩ (.int .i64 0)).setCell ⟨w.heap.size, 1, none⟩ (.int .i64 0)).setCell ⟨w.heap.size, 2, none⟩ (.int .i64 0)).setCell ⟨w.heap.size, 3, none⟩ (.int .i64 0)).setCell ⟨w.heap.size, 4, none⟩ (.int .i64 0)).setCell ⟨w.heap.size, 5, none⟩ (.bool false)).setCell ⟨w.heap.size, 6, none⟩ (.slice none 0 0)).setCell ⟨w.heap.size, 7, none⟩ (.slice none 0 0)).setCell ⟨w.heap.size, 8, none⟩ (.slice none 0 0)).setCell ⟨w.heap.size, 9, none⟩ (.slice none 0 0)).setCell ⟨w.heap.size, 10, none⟩ (.int .i64 0)).setCell ⟨w.heap.size, 11, none⟩ (.int .i64 0)).setCell ⟨w.heap.size, 12, none⟩ (.slice none 0 0)).setCell ⟨w.heap.size, 13, none⟩ (.int .i64 0)).setCell ⟨w.heap.size, 14, none⟩ (.int .i64 0)) := hWZ
    have fz := fun j => froz_b' (i := j) kz
    have s0 : wz.cell? ⟨w.heap.size, 0, none⟩ = some (.int .i64 0) := blk_c kz rfl
    have s1 : wz.cell? ⟨w.heap.size, 1, none⟩ = some (.int .i64 0) := blk_c kz rfl
    have s2 : wz.cell? ⟨w.heap.size, 2, none⟩ = some (.int .i64 0) := blk_c kz rfl
    have s3 : wz.cell? ⟨w.heap.size, 3, none⟩ = some (.int .i64 0) := blk_c kz rfl
    have s4 : wz.cell? ⟨w.heap.size, 4, none⟩ = some (.int .i64 0) := blk_c kz rfl
    have s5 : wz.cell? ⟨w.heap.size, 5, none⟩ = some (.bool false) := blk_c kz rfl
    have s6 : wz.cell? ⟨w.heap.size, 6, none⟩ = some (.slice none 0 0) := blk_c kz rfl
    have s7 : wz.cell? ⟨w.heap.size, 7, none⟩ = some (.slice none 0 0) := blk_c kz rfl
    have s8 : wz.cell? ⟨w.heap.size, 8, none⟩ = some (.slice none 0 0) := blk_c kz rfl
    have s9 : wz.cell? ⟨w.heap.size, 9, none⟩ = some (.slice none 0 0) := blk_c kz rfl
    have s10 : wz.cell? ⟨w.heap.size, 10, none⟩ = some (.int .i64 0) := blk_c kz rfl
    have s11 : wz.cell? ⟨w.heap.size, 11, none⟩ = some (.int .i64 0) := blk_c kz rfl
    have s12 : wz.cell? ⟨w.heap.size, 12, none⟩ = some (.slice none 0 0) := blk_c kz rfl
    have s13 : wz.cell? ⟨w.heap.size, 13, none⟩ = some (.int .i64 0) := blk_c kz rfl
    have s14 : wz.cell? ⟨w.heap.size, 14, none⟩ = some (.int .i64 0) := blk_c kz rfl
    have z0 : WZ.cell? ⟨w.heap.size, 0, none⟩ = some (.int .i64 0) := blk_c z rfl
    have z1 : WZ.cell? ⟨w.heap.size, 1, none⟩ = some (.int .i64 0) := blk_c z rfl
    have z2 : WZ.cell? ⟨w.heap.size, 2, none⟩ = some (.int .i64 0) := blk_c z rfl
    have z3 : WZ.cell? ⟨w.heap.size, 3, none⟩ = some (.int .i64 0) := blk_c z rfl
    have z4 : WZ.cell? ⟨w.heap.size, 4, none⟩ = some (.int .i64 0) := blk_c z rfl
    have z5 : WZ.cell? ⟨w.heap.size, 5, none⟩ = some (.bool false) := blk_c z rfl
    have z6 : WZ.cell? ⟨w.heap.size, 6, none⟩ = some (.slice none 0 0) := blk_c z rfl
    have z7 : WZ.cell? ⟨w.heap.size, 7, none⟩ = some (.slice none 0 0) := blk_c z rfl
    have z8 : WZ.cell? ⟨w.heap.size, 8, none⟩ = some (.slice none 0 0) := blk_c z rfl
    have z9 : WZ.cell? ⟨w.heap.size, 9, none⟩ = some (.slice none 0 0) := blk_c z rfl
    have z10 : WZ.cell? ⟨w.heap.size, 10, none⟩ = some (.int .i64 0) := blk_c z rfl
    have z11 : WZ.cell? ⟨w.heap.size, 11, none⟩ = some (.int .i64 0) := blk_c z rfl
    have z12 : WZ.cell? ⟨w.heap.size, 12, none⟩ = some (.slice none 0 0) := blk_c z rfl
    have z13 : WZ.cell? ⟨w.heap.size, 13, none⟩ = some (.int .i64 0) := blk_c z rfl
    have z14 : WZ.cell? ⟨w.heap.size, 14, none⟩ = some (.int .i64 0) := blk_c z rfl
    clear hWZ z kz B2
    go_wp2_with fail
    rw [← unhide HZ]
    exact bodyPost_ret (v := .tuple #[.agg #[.int .i64 0, .int .i64 0, .int .i64 0, .int .i64 0, .int .i64 0, .bool false, .slice none 0 0, .slice none 0 0, .slice none 0 0, .slice none 0 0, .int .i64 0, .int .i64 0, .slice none 0 0, .int .i64 0, .int .i64 0], .bool false]) (by simp [results, Tryd.results15, go_sem, z0, z1, z2, z3, z4, z5, z6, z7, z8, z9, z10, z11, z12, z13, z14]) rfl ⟨cv00, [], rfl, oc00 _ _, unhide HB⟩
end Go.Proofs.YthlbdajnkdkocaaDoor

/- Last of package ledger. -/
namespace Go.Proofs.YthlbdajnkdkocaaDoor
open Go.RowKit Go.Maps
set_option maxRecDepth 100000 in
set_option maxHeartbeats 8000000 in
theorem lgLast_any {w : World} {v : Value} {l : List Lg} (h : Lgs w v l) (hs : SmL l) (hT : Tab w) (g : Int) :
    Calls Tryd.prog 11 #[v, .int .i64 g] w fun r w' => ∃ x us, r = .returned (.tuple #[cmV ((getL l g ((lenL l g : Int) - 1)).getD cm00) x, .bool (getL l g ((lenL l g : Int) - 1)).isSome]) ∧ OC w.heap.size w' ((getL l g ((lenL l g : Int) - 1)).getD cm00) x us ∧ Below w.heap.size w w' := by
  obtain ⟨w0, hw0⟩ : ∃ w0, w0 = w.alloc (.cells cm0 31) := ⟨_, rfl⟩
  have bl : Below w.heap.size w w0 := by rw [hw0]; exact bwA _ _
  have kk : w0.heap[w.heap.size]? = some (.cells cm0 31 (0, 0)) := by rw [hw0]; exact heap_alloc_new _ _
  have K1 := hide (commits_any h bl hs (hT.bw bl) g)
  have hsm := cmsL_sm hs g
  have hlen := cmsL_len l g
  obtain ⟨L, hL⟩ : ∃ z, z = lenL l g := ⟨_, rfl⟩
  obtain ⟨cs, hcs⟩ : ∃ z, z = cmsL l g := ⟨_, rfl⟩
  rw [← hL]
  obtain ⟨ot, hot⟩ : ∃ z, z = getL l g ((L : Int) - 1) := ⟨_, rfl⟩
  rw [← hL, ← hcs] at K1
  rw [← hcs] at hsm
  rw [← hcs, ← hL] at hlen
  rw [← hot]
  have hLb : L ≤ 1073741824 := by rw [← hlen]; exact hsm.n
  have HOT : Hid ((0 < L → ot = cs[L - 1]?) ∧ (L = 0 → ot = none)) := ⟨fun q => by rw [hot, hcs, getL_cms l g (by omega)]; congr 1; omega, fun q => by rw [hot]; exact getL_neg l g (by omega)⟩
  obtain ⟨a, cap, rfl⟩ := h.slice
  generalize l.length = N at *
  have HW : Hid (w0 = w.alloc (.cells #[.int .i64 0, .int .i64 0, .int .i64 0, .int .i64 0, .int .i64 0, .bool false, .slice none 0 0, .slice none 0 0, .slice none 0 0, .slice none 0 0, .int .i64 0, .int .i64 0, .slice none 0 0, .int .i64 0, .int .i64 0] 31)) := hw0
  have HK := hide (And.intro kk bl)
  have HS := hide (And.intro hsm hlen)
  have hLI : (L : Int) ≤ 1073741824 := by omega
  clear h hw0 bl kk hL hot hs hT hcs hsm hlen
  rcases Nat.eq_zero_or_pos L with hz | hz
  · subst hz
    go_enter Tryd.func11, Tryd.ntmps11
    go_upto_region 1 with fail
    rw [← unhide HW]
    clear HW
    go_wp2_with fail
    refine (unhide K1).mono ?_
    rintro y wz ⟨a9, c9, rfl, hcm, b1⟩
    have hot : ot = none := (unhide HOT).2 (by trivial)
    subst hot
    have kz := kept_b (unhide HK).1 (lt_of_blk (unhide HK).1) b1
    have B2 := hide (bw_tr (unhide HK).2 b1)
    clear HOT HS hcm b1 HK K1
    obtain ⟨WZ, hWZ⟩ : ∃ W, W = pokes wz w.heap.size 0 [.int .i64 0, .int .i64 0, .int .i64 0, .int .i64 0, .int .i64 0, .bool false, .slice none 0 0, .slice none 0 0, .slice none 0 0, .slice none 0 0, .int .i64 0, .int .i64 0, .slice none 0 0, .int .i64 0, .int .i64 0] := ⟨_, rfl⟩
    have z : WZ.heap[w.heap.size]? = some (.cells #[.int .i64 0, .int .i64 0, .int .i64 0, .int .i64 0, .int .i64 0, .bool false, .slice none 0 0, .slice none 0 0, .slice none 0 0, .slice none 0 0, .int .i64 0, .int .i64 0, .slice none 0 0, .int .i64 0, .int .i64 0] 31 (0, 0)) := by
      rw [hWZ, pokes_at _ _ _ _ kz, pk_all (by rfl)]
    have HB : Hid (Below w.heap.size w WZ) := by unfold Hid; rw [hWZ]; exact pokes_below (Nat.le_refl _) _ _ _ (unhide B2)
    have HZ : Hid (WZ = (((((((((((((((wz).setCell ⟨w.heap.size, 0, none⟩ (.int .i64 0)).setCell ⟨w.heap.size, 1, none⟩ (.int .i64 0)).setCell ⟨w.heap.size, 2, none⟩ (.int .i64 0)).setCell ⟨w.heap.size, 3, none⟩ (.int .i64 0)).setCell ⟨w.heap.size, 4, none⟩ (.int .i64 0)).setCell ⟨w.heap.size, 5, none⟩ (.bool false)).setCell ⟨w.heap.size, 6, none⟩ (.slice none 0 0)).setCell ⟨w.heap.size, 7, none⟩ (.slice none 0 0)).setCell ⟨w.heap.size, 8, none⟩ (.slice none 0 0)).setCell ⟨w.heap.size, 9, none⟩ (.slice none 0 0)).setCell ⟨w.heap.size, 10, none⟩ (.int .i64 0)).setCell ⟨w.heap.size, 11, none⟩ (.int .i64 0)).setCell ⟨w.heap.size, 12, none⟩ (.slice none 0 0)).setCell ⟨w.heap.size, 13, none⟩ (.int .i64 0)).setCell ⟨w.heap.size, 14, none⟩ (.int .i64 0)) := hWZ
    have fz := fun j => froz_b' (i := j) kz
    have s0 : wz.cell? ⟨w.heap.size, 0, none⟩ = some (.int .i64 0) := blk_c kz rfl
    have s1 : wz.cell? ⟨w.heap.size, 1, none⟩ = some (.int .i64 0) := blk_c kz rfl
    have s2 : wz.cell? ⟨w.heap.size, 2, none⟩ = some (.int .i64 0) := blk_c kz rfl
    have s3 : wz.cell? ⟨w.heap.size, 3, none⟩ = some (.int .i64 0) := blk_c kz rfl
    have s4 : wz.cell? ⟨w.heap.size, 4, none⟩ = some (.int .i64 0) := blk_c kz rfl
    have s5 : wz.cell? ⟨w.heap.size, 5, none⟩ = some (.bool false) := blk_c kz rfl
    have s6 : wz.cell? ⟨w.heap.size, 6, none⟩ = some (.slice none 0 0) := blk_c kz rfl
    have s7 : wz.cell? ⟨w.heap.size, 7, none⟩ = some (.slice none 0 0) := blk_c kz rfl
    have s8 : wz.cell? ⟨w.heap.size, 8, none⟩ = some (.slice none 0 0) := blk_c kz rfl
    have s9 : wz.cell? ⟨w.heap.size, 9, none⟩ = some (.slice none 0 0) := blk_c kz rfl
    have s10 : wz.cell? ⟨w.heap.size, 10, none⟩ = some (.int .i64 0) := blk_c kz rfl
    have s11 : wz.cell? ⟨w.heap.size, 11, none⟩ = some (.int .i64 0) := blk_c kz rfl
    have s12 : wz.cell? ⟨w.heap.size, 12, none⟩ = some (.slice none 0 0) := blk_c kz rfl
    have s13 : wz.cell? ⟨w.heap.size, 13, none⟩ = some (.int .i64 0) := blk_c kz rfl
    have s14 : wz.cell? ⟨w.heap.size, 14, none⟩ = some (.int .i64 0) := blk_c kz rfl
    have z0 : WZ.cell? ⟨w.heap.size, 0, none⟩ = some (.int .i64 0) := blk_c z rfl
    have z1 : WZ.cell? ⟨w.heap.size, 1, none⟩ = some (.int .i64 0) := blk_c z rfl
    have z2 : WZ.cell? ⟨w.heap.size, 2, none⟩ = some (.int .i64 0) := blk_c z rfl
    have z3 : WZ.cell? ⟨w.heap.size, 3, none⟩ = some (.int .i64 0) := blk_c z rfl
    have z4 : WZ.cell? ⟨w.heap.size, 4, none⟩ = some (.int .i64 0) := blk_c z rfl
    have z5 : WZ.cell? ⟨w.heap.size, 5, none⟩ = some (.bool false) := blk_c z rfl
    have z6 : WZ.cell? ⟨w.heap.size, 6, none⟩ = some (.slice none 0 0) := blk_c z rfl
    have z7 : WZ.cell? ⟨w.heap.size, 7, none⟩ = some (.slice none 0 0) := blk_c z rfl
    have z8 : WZ.cell? ⟨w.heap.size, 8, none⟩ = some (.slice none 0 0) := blk_c z rfl
    have z9 : WZ.cell? ⟨w.heap.size, 9, none⟩ = some (.slice none 0 0) := blk_c z rfl
    have z10 : WZ.cell? ⟨w.heap.size, 10, none⟩ = some (.int .i64 0) := blk_c z rfl
    have z11 : WZ.cell? ⟨w.heap.size, 11, none⟩ = some (.int .i64 0) := blk_c z rfl
    have z12 : WZ.cell? ⟨w.heap.size, 12, none⟩ = some (.slice none 0 0) := blk_c z rfl
    have z13 : WZ.cell? ⟨w.heap.size, 13, none⟩ = some (.int .i64 0) := blk_c z rfl
    have z14 : WZ.cell? ⟨w.heap.size, 14, none⟩ = some (.int .i64 0) := blk_c z rfl
    clear hWZ z kz B2
    go_wp2_with fail
    rw [← unhide HZ]
    exact bodyPost_ret (v := .tuple #[.agg #[.int .i64 0, .int .i64 0, .int .i64 0, .int .i64 0, .int .i64 0, .bool false, .slice none 0 0, .slice none 0 0, .slice none 0 0, .slice none 0 0, .int .i64 0, .int .i64 0, .slice none 0 0, .int .i64 0, .int .i64 0], .bool false]) (by simp [results, Tryd.results11, go_sem, z0, z1, z2, z3, z4, z5, z6, z7, z8, z9, z10, z11, z12, z13, z14]) rfl ⟨cv00, [], rfl, oc00 _ _, unhide HB⟩
  · obtain ⟨idx, hidx⟩ : ∃ n, n = L - 1 := ⟨_, rfl⟩
    have v1 : (L : Int) - 1 = (idx : Int) := by omega
    have q0 : (0 : Int) ≤ (idx : Int) := by omega
    have q1 : (idx : Int) < (L : Int) := by omega
    have q3 : ¬ (L : Int) = 0 := by omega
    have q4 : IntKind.i64.wrap (idx : Int) = (idx : Int) := by rw [IntKind.wrap_i64]; omega
    have q6 : ¬ L = 0 := by omega
    have HI := hide (And.intro hidx hz)
    clear hidx hz
    go_enter Tryd.func11, Tryd.ntmps11
    go_upto_region 1 with fail
    rw [← unhide HW]
    clear HW
    go_wp2_with fail
    refine (unhide K1).mono ?_
    rintro y w1 ⟨a9, c9, rfl, hcm, b1⟩
    have HG : Hid (idx < cs.length ∧ ot = cs[idx]? ∧ SmG (g, cs) ∧ True) := ⟨by have := (unhide HS).2; have := unhide HI; omega, by have := (unhide HOT).1 (unhide HI).2; rw [← (unhide HI).1] at this; exact this, (unhide HS).1, trivial⟩
    have bl := (unhide HK).2
    clear HOT HS K1 HI
    obtain ⟨c, hc⟩ : ∃ c, cs[idx]? = some c := ⟨_, List.getElem?_eq_getElem (by have := (unhide HG).1; omega)⟩
    have hot : ot = some c := by rw [(unhide HG).2.1]; exact hc
    have hsc : SmC c := (unhide HG).2.2.1.c c (List.mem_of_getElem? hc)
    obtain ⟨b', o', ea, x, hx, hcc⟩ := hcm.get hc
    subst ea
    have KC := hide (frCommit_any (hx.bw (bw_tr bl b1)) hsc)
    have bw1 := bw_tr bl b1
    have B1 := hide bw1
    subst hot
    have kk1 := hide (kept_b (unhide HK).1 (lt_of_blk (unhide HK).1) b1)
    have hcc' : ∀ j u, (cmC c x)[j]? = some u → w1.cell? ⟨b', o' + idx * 15 + j, none⟩ = some u := fun j u hu => by have := hcc j u hu; rw [bw1.cell (lt_of_cell this)]; exact this
    obtain ⟨a1, k1, x1⟩ := hx.adds.slice
    obtain ⟨a2, k2, x2⟩ := nums_slice hx.rem
    obtain ⟨a3, k3, x3⟩ := hx.seals.slice
    obtain ⟨a4, k4, x4⟩ := hx.joins.slice
    obtain ⟨a5, k5, x5⟩ := hx.next.slice
    clear hc hsc hx hcc HG b1 bw1 hcm
    obtain ⟨g0, g1, g2, g3, g4, g5, adds, rem, seals, joins, g10, g11, next, g13, g14⟩ := c
    obtain ⟨av, rv, qv, jv, nv⟩ := x
    simp only at x1 x2 x3 x4 x5
    subst x1 x2 x3 x4 x5
    obtain ⟨LA, hA⟩ : ∃ z, z = adds.length := ⟨_, rfl⟩
    obtain ⟨LR, hR⟩ : ∃ z, z = rem.length := ⟨_, rfl⟩
    obtain ⟨LQ, hQ⟩ : ∃ z, z = seals.length := ⟨_, rfl⟩
    obtain ⟨LJ, hJ⟩ : ∃ z, z = joins.length := ⟨_, rfl⟩
    obtain ⟨LN, hNn⟩ : ∃ z, z = next.length := ⟨_, rfl⟩
    have HL := hide (And.intro hA (And.intro hR (And.intro hQ (And.intro hJ hNn))))
    rw [← hA, ← hR, ← hQ, ← hJ, ← hNn] at KC hcc'
    clear hA hR hQ hJ hNn
    unfold cmV cmC at KC
    simp only at KC
    have y0 : w1.cell? ⟨b', o' + idx * 15, none⟩ = some (.int .i64 g0) := hcc' 0 _ rfl
    have y1 : w1.cell? ⟨b', o' + idx * 15 + 1, none⟩ = some (.int .i64 g1) := hcc' 1 _ rfl
    have y2 : w1.cell? ⟨b', o' + idx * 15 + 2, none⟩ = some (.int .i64 g2) := hcc' 2 _ rfl
    have y3 : w1.cell? ⟨b', o' + idx * 15 + 3, none⟩ = some (.int .i64 g3) := hcc' 3 _ rfl
    have y4 : w1.cell? ⟨b', o' + idx * 15 + 4, none⟩ = some (.int .i64 g4) := hcc' 4 _ rfl
    have y5 : w1.cell? ⟨b', o' + idx * 15 + 5, none⟩ = some (.bool g5) := hcc' 5 _ rfl
    have y6 : w1.cell? ⟨b', o' + idx * 15 + 6, none⟩ = some (.slice a1 LA k1) := hcc' 6 _ rfl
    have y7 : w1.cell? ⟨b', o' + idx * 15 + 7, none⟩ = some (.slice a2 LR k2) := hcc' 7 _ rfl
    have y8 : w1.cell? ⟨b', o' + idx * 15 + 8, none⟩ = some (.slice a3 LQ k3) := hcc' 8 _ rfl
    have y9 : w1.cell? ⟨b', o' + idx * 15 + 9, none⟩ = some (.slice a4 LJ k4) := hcc' 9 _ rfl
    have y10 : w1.cell? ⟨b', o' + idx * 15 + 10, none⟩ = some (.int .i64 g10) := hcc' 10 _ rfl
    have y11 : w1.cell? ⟨b', o' + idx * 15 + 11, none⟩ = some (.int .i64 g11) := hcc' 11 _ rfl
    have y12 : w1.cell? ⟨b', o' + idx * 15 + 12, none⟩ = some (.slice a5 LN k5) := hcc' 12 _ rfl
    have y13 : w1.cell? ⟨b', o' + idx * 15 + 13, none⟩ = some (.int .i64 g13) := hcc' 13 _ rfl
    have y14 : w1.cell? ⟨b', o' + idx * 15 + 14, none⟩ = some (.int .i64 g14) := hcc' 14 _ rfl
    clear hcc'
    go_wp2_with fail
    refine (unhide KC).mono ?_
    rintro y wz ⟨x', us, rfl, ho, b3⟩
    obtain ⟨a1', k1', e1⟩ := own_slice ho.adds
    obtain ⟨a2', k2', e2⟩ := own_slice ho.rem
    obtain ⟨a3', k3', e3⟩ := own_slice ho.seals
    obtain ⟨a4', k4', e4⟩ := own_slice ho.joins
    obtain ⟨a5', k5', e5⟩ := own_slice ho.next.row
    have HX := hide (And.intro ho (And.intro (unhide B1).size (lt_of_blk (unhide kk1))))
    have kz := kept_b (unhide kk1) (lt_of_blk (unhide kk1)) b3
    have B2 := hide (bw_tr (unhide B1) b3)
    obtain ⟨av', rv', qv', jv', nv'⟩ := x'
    simp only at e1 e2 e3 e4 e5
    obtain ⟨h1, h2, h3, h4, h5⟩ := unhide HL
    rw [← h1] at e1
    rw [← h2] at e2
    rw [← h3] at e3
    rw [← h4] at e4
    rw [← h5] at e5
    subst e1 e2 e3 e4 e5
    clear ho b3 KC kk1 HL h1 h2 h3 h4 h5 B1 y0 y1 y2 y3 y4 y5 y6 y7 y8 y9 y10 y11 y12 y13 y14
    obtain ⟨WZ, hWZ⟩ : ∃ W, W = pokes wz w.heap.size 0 [.int .i64 g0, .int .i64 g1, .int .i64 g2, .int .i64 g3, .int .i64 g4, .bool g5, .slice a1' LA k1', .slice a2' LR k2', .slice a3' LQ k3', .slice a4' LJ k4', .int .i64 g10, .int .i64 g11, .slice a5' LN k5', .int .i64 g13, .int .i64 g14] := ⟨_, rfl⟩
    have z : WZ.heap[w.heap.size]? = some (.cells #[.int .i64 g0, .int .i64 g1, .int .i64 g2, .int .i64 g3, .int .i64 g4, .bool g5, .slice a1' LA k1', .slice a2' LR k2', .slice a3' LQ k3', .slice a4' LJ k4', .int .i64 g10, .int .i64 g11, .slice a5' LN k5', .int .i64 g13, .int .i64 g14] 31 (0, 0)) := by
      rw [hWZ, pokes_at _ _ _ _ kz, pk_all (by rfl)]
    have HB : Hid (Below w.heap.size w WZ) := by unfold Hid; rw [hWZ]; exact pokes_below (Nat.le_refl _) _ _ _ (unhide B2)
    have HZ : Hid (WZ = (((((((((((((((wz).setCell ⟨w.heap.size, 0, none⟩ (.int .i64 g0)).setCell ⟨w.heap.size, 1, none⟩ (.int .i64 g1)).setCell ⟨w.heap.size, 2, none⟩ (.int .i64 g2)).setCell ⟨w.heap.size, 3, none⟩ (.int .i64 g3)).setCell ⟨w.heap.size, 4, none⟩ (.int .i64 g4)).setCell ⟨w.heap.size, 5, none⟩ (.bool g5)).setCell ⟨w.heap.size, 6, none⟩ (.slice a1' LA k1')).setCell ⟨w.heap.size, 7, none⟩ (.slice a2' LR k2')).setCell ⟨w.heap.size, 8, none⟩ (.slice a3' LQ k3')).setCell ⟨w.heap.size, 9, none⟩ (.slice a4' LJ k4')).setCell ⟨w.heap.size, 10, none⟩ (.int .i64 g10)).setCell ⟨w.heap.size, 11, none⟩ (.int .i64 g11)).setCell ⟨w.heap.size, 12, none⟩ (.slice a5' LN k5')).setCell ⟨w.heap.size, 13, none⟩ (.int .i64 g13)).setCell ⟨w.heap.size, 14, none⟩ (.int .i64 g14)) := hWZ
    have fz := fun j => froz_b' (i := j) kz
    have s0 : wz.cell? ⟨w.heap.size, 0, none⟩ = some (.int .i64 0) := blk_c kz rfl
    have s1 : wz.cell? ⟨w.heap.size, 1, none⟩ = some (.int .i64 0) := blk_c kz rfl
    have s2 : wz.cell? ⟨w.heap.size, 2, none⟩ = some (.int .i64 0) := blk_c kz rfl
    have s3 : wz.cell? ⟨w.heap.size, 3, none⟩ = some (.int .i64 0) := blk_c kz rfl
    have s4 : wz.cell? ⟨w.heap.size, 4, none⟩ = some (.int .i64 0) := blk_c kz rfl
    have s5 : wz.cell? ⟨w.heap.size, 5, none⟩ = some (.bool false) := blk_c kz rfl
    have s6 : wz.cell? ⟨w.heap.size, 6, none⟩ = some (.slice none 0 0) := blk_c kz rfl
    have s7 : wz.cell? ⟨w.heap.size, 7, none⟩ = some (.slice none 0 0) := blk_c kz rfl
    have s8 : wz.cell? ⟨w.heap.size, 8, none⟩ = some (.slice none 0 0) := blk_c kz rfl
    have s9 : wz.cell? ⟨w.heap.size, 9, none⟩ = some (.slice none 0 0) := blk_c kz rfl
    have s10 : wz.cell? ⟨w.heap.size, 10, none⟩ = some (.int .i64 0) := blk_c kz rfl
    have s11 : wz.cell? ⟨w.heap.size, 11, none⟩ = some (.int .i64 0) := blk_c kz rfl
    have s12 : wz.cell? ⟨w.heap.size, 12, none⟩ = some (.slice none 0 0) := blk_c kz rfl
    have s13 : wz.cell? ⟨w.heap.size, 13, none⟩ = some (.int .i64 0) := blk_c kz rfl
    have s14 : wz.cell? ⟨w.heap.size, 14, none⟩ = some (.int .i64 0) := blk_c kz rfl
    have z0 : WZ.cell? ⟨w.heap.size, 0, none⟩ = some (.int .i64 g0) := blk_c z rfl
    have z1 : WZ.cell? ⟨w.heap.size, 1, none⟩ = some (.int .i64 g1) := blk_c z rfl
    have z2 : WZ.cell? ⟨w.heap.size, 2, none⟩ = some (.int .i64 g2) := blk_c z rfl
    have z3 : WZ.cell? ⟨w.heap.size, 3, none⟩ = some (.int .i64 g3) := blk_c z rfl
    have z4 : WZ.cell? ⟨w.heap.size, 4, none⟩ = some (.int .i64 g4) := blk_c z rfl
    have z5 : WZ.cell? ⟨w.heap.size, 5, none⟩ = some (.bool g5) := blk_c z rfl
    have z6 : WZ.cell? ⟨w.heap.size, 6, none⟩ = some (.slice a1' LA k1') := blk_c z rfl
    have z7 : WZ.cell? ⟨w.heap.size, 7, none⟩ = some (.slice a2' LR k2') := blk_c z rfl
    have z8 : WZ.cell? ⟨w.heap.size, 8, none⟩ = some (.slice a3' LQ k3') := blk_c z rfl
    have z9 : WZ.cell? ⟨w.heap.size, 9, none⟩ = some (.slice a4' LJ k4') := blk_c z rfl
    have z10 : WZ.cell? ⟨w.heap.size, 10, none⟩ = some (.int .i64 g10) := blk_c z rfl
    have z11 : WZ.cell? ⟨w.heap.size, 11, none⟩ = some (.int .i64 g11) := blk_c z rfl
    have z12 : WZ.cell? ⟨w.heap.size, 12, none⟩ = some (.slice a5' LN k5') := blk_c z rfl
    have z13 : WZ.cell? ⟨w.heap.size, 13, none⟩ = some (.int .i64 g13) := blk_c z rfl
    have z14 : WZ.cell? ⟨w.heap.size, 14, none⟩ = some (.int .i64 g14) := blk_c z rfl
    have HO : Hid (OC w.heap.size WZ ⟨g0, g1, g2, g3, g4, g5, adds, rem, seals, joins, g10, g11, next, g13, g14⟩ ⟨.slice a1' LA k1', .slice a2' LR k2', .slice a3' LQ k3', .slice a4' LJ k4', .slice a5' LN k5'⟩ us) := by
      have hq := (unhide HX)
      refine (OC.keep hq.1 (fun k hk => ?_)).mono hq.2.1
      rw [hWZ]
      exact pokes_other (by have := (OC.lt hq.1 k hk).1; have := hq.2.2; omega) _ _ _
    clear hWZ z kz B2 HX
    go_wp2_with fail
    rw [← unhide HZ]
    exact bodyPost_ret (v := .tuple #[.agg #[.int .i64 g0, .int .i64 g1, .int .i64 g2, .int .i64 g3, .int .i64 g4, .bool g5, .slice a1' LA k1', .slice a2' LR k2', .slice a3' LQ k3', .slice a4' LJ k4', .int .i64 g10, .int .i64 g11, .slice a5' LN k5', .int .i64 g13, .int .i64 g14], .bool true]) (by simp [results, Tryd.results11, go_sem, z0, z1, z2, z3, z4, z5, z6, z7, z8, z9, z10, z11, z12, z13, z14]) rfl ⟨⟨.slice a1' LA k1', .slice a2' LR k2', .slice a3' LQ k3', .slice a4' LJ k4', .slice a5' LN k5'⟩, us, rfl, unhide HO, unhide HB⟩
end Go.Proofs.YthlbdajnkdkocaaDoor
