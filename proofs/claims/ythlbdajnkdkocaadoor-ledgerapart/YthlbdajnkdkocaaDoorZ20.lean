/- Texts joined: LgP LgQ LgToP LgS LgU. -/
import Derived.Test.YthlbdajnkdkocaaDoorZ19
import Derived.Deep.QuietTactic
import Derived.BigQuiet
import Derived.Test.YthlbdajnkdkocaaDoorZ05
/- Where the log of a group stands (sort.Search with its closure; find, commits); Len. -/
namespace Go.Proofs.YthlbdajnkdkocaaDoor
open Go.RowKit Go.Maps
set_option maxRecDepth 100000 in
set_option maxHeartbeats 4000000 in
theorem find1_any {w : World} {bl bg gb o N cap i : Nat} {g pg : Int} (hi : i < N) (hN : N ≤ 1073741824) (c1 : w.cell? ⟨bl, 0, none⟩ = some (.slice (some ⟨gb, o, none⟩) N cap)) (c2 : w.cell? ⟨bg, 0, none⟩ = some (.int .i64 g)) (c3 : w.cell? ⟨gb, o + i * 2, none⟩ = some (.int .i64 pg)) :
    Calls Tryd.prog 42 #[.int .i64 (i : Int), .pointer (some ⟨bl, 0, none⟩), .pointer (some ⟨bg, 0, none⟩)] w fun e w' => e = .returned (.bool (decide (g ≤ pg))) ∧ ∃ q, w' = w.drewN q := by
  have hiI : (i : Int) < (N : Int) := by omega
  have h0 : (0 : Int) ≤ (i : Int) := by omega
  have hNI : (N : Int) ≤ 1073741824 := by omega
  clear hi hN
  go_enter Tryd.func42, Tryd.ntmps42
  go_wp2_with fail
  go_quiet (fail)
  go_wp2_with fail
  go_ret
  exact ⟨rfl, _, rfl⟩
set_option maxRecDepth 100000 in
set_option maxHeartbeats 4000000 in
theorem search_any {w : World} {n bl bg : Nat} {p : Nat → Bool} (hn : n ≤ 1073741824)
    (hf : ∀ (m i : Nat), i < n → Calls Tryd.prog 42 #[.int .i64 (i : Int), .pointer (some ⟨bl, 0, none⟩), .pointer (some ⟨bg, 0, none⟩)] (w.drewN m) fun e w' => e = .returned (.bool (p i)) ∧ ∃ q, w' = (w.drewN m).drewN q)
    (hm : ∀ a b, a ≤ b → b < n → p a = true → p b = true) :
    Calls Tryd.prog 41 #[.int .i64 (n : Int), .func (.func 42) #[] #[.pointer (some ⟨bl, 0, none⟩), .pointer (some ⟨bg, 0, none⟩)]] w fun e w' => ∃ k : Nat, e = .returned (.int .i64 (k : Int)) ∧ k ≤ n ∧ (∀ j, j < k → p j = false) ∧ (∀ j, k ≤ j → j < n → p j = true) ∧ ∃ q, w' = w.drewN q := by
  have HF := hide hf
  have HM := hide hm
  have hnI : (n : Int) ≤ 1073741824 := by omega
  clear hf hm
  go_enter Tryd.func41, Tryd.ntmps41
  go_wp2_with fail
  go_loopw [5, 6] (fun s5 s6 wr => ∃ (lo hi q : Nat), s5 = .int .i64 (lo : Int) ∧ s6 = .int .i64 (hi : Int) ∧ lo ≤ hi ∧ hi ≤ n ∧ wr = w.drewN q ∧ Hid ((∀ t, t < lo → p t = false) ∧ (∀ t, hi ≤ t → t < n → p t = true))) (fun s5 s6 _ => (intOf s6 - intOf s5).toNat)
  case atStart => exact ⟨0, n, 0, rfl, rfl, Nat.zero_le _, Nat.le_refl _, rfl, fun t ht => absurd ht (by omega), fun t h1 h2 => by omega⟩
  case round =>
    obtain ⟨lo, hi, q, rfl, rfl, hlh, hin, hw, HI⟩ := hrel
    subst hw
    have hiI : (hi : Int) ≤ 1073741824 := by omega
    have hlI : (lo : Int) ≤ (hi : Int) := by omega
    by_cases hlt : lo < hi
    · have hltI : (lo : Int) < (hi : Int) := by omega
      have hc := unhide HF q ((lo + hi) / 2) (by omega)
      rw [show (((lo + hi) / 2 : Nat) : Int) = ((lo : Int) + (hi : Int)) / 2 by omega] at hc
      obtain ⟨pb, hpb⟩ : ∃ b, b = p ((lo + hi) / 2) := ⟨_, rfl⟩
      rw [← hpb] at hc
      have HP := hide hpb
      have KC := hide hc
      clear hpb hc
      cases pb with
      | false =>
        have I2 : Hid ((∀ t, t < (lo + hi) / 2 + 1 → p t = false) ∧ (∀ t, hi ≤ t → t < n → p t = true)) := ⟨fun t ht => (by
          cases h : p t with
          | false => rfl
          | true => have := unhide HM t ((lo + hi) / 2) (by omega) (by omega) h; rw [← unhide HP] at this; cases this), (unhide HI).2⟩
        clear HP HI
        go_wp2_with fail
        refine (unhide KC).mono ?_
        rintro e w' ⟨rfl, q2, rfl⟩
        go_wp2_with fail
        go_roundw
        case rel => exact ⟨(lo + hi) / 2 + 1, hi, q + q2, by rw [show ((lo : Int) + (hi : Int)) / 2 + 1 = (((lo + hi) / 2 + 1 : Nat) : Int) by omega], rfl, by omega, hin, rfl, I2⟩
        case measure => simp only [intOf]; omega
      | true =>
        have I2 : Hid ((∀ t, t < lo → p t = false) ∧ (∀ t, (lo + hi) / 2 ≤ t → t < n → p t = true)) := ⟨(unhide HI).1, fun t ht htn => unhide HM ((lo + hi) / 2) t ht htn (unhide HP).symm⟩
        clear HP HI
        go_wp2_with fail
        refine (unhide KC).mono ?_
        rintro e w' ⟨rfl, q2, rfl⟩
        go_wp2_with fail
        go_roundw
        case rel => exact ⟨lo, (lo + hi) / 2, q + q2, rfl, by rw [show ((lo : Int) + (hi : Int)) / 2 = (((lo + hi) / 2 : Nat) : Int) by omega], by omega, by omega, rfl, I2⟩
        case measure => simp only [intOf]; omega
    · obtain rfl : hi = lo := by omega
      go_wp2_with fail
      go_ret
      exact ⟨hi, rfl, hin, (unhide HI).1, (unhide HI).2, q, rfl⟩
structure AtG (l : List Lg) (g : Int) (k : Nat) : Prop where
  le : k ≤ l.length
  lo : ∀ (j : Nat) (p : Lg), j < k → l[j]? = some p → p.1 < g
  hi : ∀ (j : Nat) (p : Lg), k ≤ j → l[j]? = some p → g ≤ p.1
theorem ris_mono {l : List Lg} (h : risB l = true) : ∀ (a b : Nat) (p q : Lg), a < b → l[a]? = some p → l[b]? = some q → p.1 < q.1 := by
  have hs := (ris_iff l).1 h
  intro a b p q hab hp hq
  induction b generalizing q with
  | zero => omega
  | succ b ih =>
    have hb : b < l.length := by have := (List.getElem?_eq_some_iff.1 hq).1; omega
    have hbq := hs b l[b] q (List.getElem?_eq_getElem hb) hq
    rcases Nat.lt_or_ge a b with c | c
    · have := ih l[b] c (List.getElem?_eq_getElem hb); omega
    · obtain rfl : a = b := by omega
      rw [List.getElem?_eq_getElem hb] at hp; cases hp; exact hbq
theorem AtG.found {l : List Lg} {g : Int} {k : Nat} (_h : AtG l g k) (hr : risB l = true) {p : Lg} (hp : l[k]? = some p) (e : p.1 = g) : fndL l g = some p.2 := by
  rw [← e]; exact fndL_of hr (List.mem_of_getElem? hp)
theorem AtG.none {l : List Lg} {g : Int} {k : Nat} (h : AtG l g k) (hr : risB l = true) (hn : ∀ p, l[k]? = some p → p.1 ≠ g) : fndL l g = none := by
  unfold fndL
  rw [List.find?_eq_none.2 (fun x hx => ?_)]
  · rfl
  · obtain ⟨j, hj⟩ := List.getElem?_of_mem hx
    simp only [decide_eq_true_eq]
    intro e
    rcases Nat.lt_trichotomy j k with c | c | c
    · have := h.lo j x c hj; omega
    · subst c; exact hn x hj e
    · have hk : k < l.length := by have := (List.getElem?_eq_some_iff.1 hj).1; omega
      have h1 := h.hi k l[k] (Nat.le_refl _) (List.getElem?_eq_getElem hk)
      have h2 := ris_mono hr k j l[k] x c (List.getElem?_eq_getElem hk) hj
      omega
def FnP (w : World) (l : List Lg) (g : Int) (k : Nat) (cv : Value) : Prop :=
  AtG l g k ∧ ((fndL l g = none ∧ cv = .slice none 0 0 ∧ ∀ p, l[k]? = some p → p.1 ≠ g) ∨ ∃ p, l[k]? = some p ∧ p.1 = g ∧ fndL l g = some p.2 ∧ Cms w cv p.2)
set_option maxRecDepth 100000 in
set_option maxHeartbeats 4000000 in
theorem find_any {u w : World} {v : Value} {l : List Lg} (h : Lgs u v l) (hu : Below u.heap.size u w) (hr : risB l = true) (hl : l.length ≤ 1073741824) (g : Int) :
    Calls Tryd.prog 22 #[v, .int .i64 g] w fun e w' => ∃ (k : Nat) (a : Option Addr) (n c : Nat), e = .returned (.tuple #[.int .i64 (k : Int), .slice a n c]) ∧ FnP u l g k (.slice a n c) ∧ Below w.heap.size w w' := by
  obtain ⟨a, cap, rfl⟩ := h.slice
  obtain ⟨N, hN⟩ : ∃ N, N = l.length := ⟨_, rfl⟩
  rw [← hN] at h hl ⊢
  have hNI : (N : Int) ≤ 1073741824 := by omega
  obtain ⟨W0, hW0⟩ : ∃ W, W = (w.alloc (.cells #[.slice a N cap] 22)).alloc (.cells #[.int .i64 g] 3) := ⟨_, rfl⟩
  have bw0 : Below w.heap.size w W0 := by rw [hW0]; exact bw_tr (bwA _ _) (bwA _ _)
  have b0 : Below u.heap.size u W0 := bw_tr hu bw0
  have k1 : W0.heap[w.heap.size]? = some (.cells #[.slice a N cap] 22 (0, 0)) := by
    have h1 := heap_alloc_new w (.cells #[.slice a N cap] 22)
    rw [hW0, Below.heap_alloc _ _ _ (by simp)]; exact h1
  have k2 : W0.heap[w.heap.size + 1]? = some (.cells #[.int .i64 g] 3 (0, 0)) := by
    have h2 := heap_alloc_new (w.alloc (.cells #[.slice a N cap] 22)) (.cells #[.int .i64 g] 3)
    have e : (w.alloc (.cells #[.slice a N cap] 22)).heap.size = w.heap.size + 1 := by simp
    rw [e] at h2
    rw [hW0]; exact h2
  have c1 : W0.cell? ⟨w.heap.size, 0, none⟩ = some (.slice a N cap) := blk_c k1 rfl
  have c2 : W0.cell? ⟨w.heap.size + 1, 0, none⟩ = some (.int .i64 g) := blk_c k2 rfl
  have KS : Calls Tryd.prog 41 #[.int .i64 (N : Int), .func (.func 42) #[] #[.pointer (some ⟨w.heap.size, 0, none⟩), .pointer (some ⟨w.heap.size + 1, 0, none⟩)]] W0 fun e w' => ∃ k : Nat, e = .returned (.int .i64 (k : Int)) ∧ Hid (k ≤ N ∧ AtG l g k) ∧ ∃ q, w' = W0.drewN q := by
    refine (search_any (w := W0) (n := N) (bl := w.heap.size) (bg := w.heap.size + 1) (p := fun i => decide (g ≤ ((l.map (·.1)).getD i 0))) hl ?_ ?_).mono ?_
    · intro m i hi
      obtain ⟨p, hp⟩ : ∃ p, l[i]? = some p := ⟨_, List.getElem?_eq_getElem (by omega)⟩
      obtain ⟨gb, o, rfl, cv, _, d0, _⟩ := h.get hp
      have e : (l.map (·.1)).getD i 0 = p.1 := by rw [List.getD_eq_getElem?_getD, List.getElem?_map, hp]; rfl
      rw [e]
      have hb := below_drewN (Below.refl W0.heap.size W0) m
      exact find1_any hi hl (by rw [hb.cell (lt_of_cell c1)]; exact c1) (by rw [hb.cell (lt_of_cell c2)]; exact c2) (by rw [(bw_tr b0 hb).cell (lt_of_cell d0)]; exact d0)
    · intro x y hxy hy hpx
      simp only [decide_eq_true_eq] at hpx ⊢
      have hxl : x < l.length := by omega
      have hyl : y < l.length := by omega
      have ex : (l.map (·.1)).getD x 0 = l[x].1 := by rw [List.getD_eq_getElem?_getD, List.getElem?_map, List.getElem?_eq_getElem hxl]; rfl
      have ey : (l.map (·.1)).getD y 0 = l[y].1 := by rw [List.getD_eq_getElem?_getD, List.getElem?_map, List.getElem?_eq_getElem hyl]; rfl
      rw [ex] at hpx
      rw [ey]
      rcases Nat.lt_or_ge x y with c | c
      · have := ris_mono hr x y l[x] l[y] c (List.getElem?_eq_getElem hxl) (List.getElem?_eq_getElem hyl); omega
      · obtain rfl : x = y := by omega
        exact hpx
    · rintro e w' ⟨k, rfl, hk, h1, h2, hq⟩
      refine ⟨k, rfl, ⟨hk, by omega, fun j p hj hp => ?_, fun j p hj hp => ?_⟩, hq⟩
      · have := h1 j hj
        have e : (l.map (·.1)).getD j 0 = p.1 := by rw [List.getD_eq_getElem?_getD, List.getElem?_map, hp]; rfl
        simp only [e, decide_eq_false_iff_not] at this
        omega
      · have := h2 j hj (by have := (List.getElem?_eq_some_iff.1 hp).1; omega)
        have e : (l.map (·.1)).getD j 0 = p.1 := by rw [List.getD_eq_getElem?_getD, List.getElem?_map, hp]; rfl
        simp only [e, decide_eq_true_eq] at this
        omega
  have HW := hide hW0
  have HH := hide (And.intro h (And.intro hN (And.intro hr (And.intro b0 bw0))))
  have KH := hide KS
  clear h hr hl hN hW0 b0 bw0 hu k1 k2 KS
  go_enter Tryd.func22, Tryd.ntmps22
  go_upto_region 1 with fail
  rw [← unhide HW]
  clear HW
  go_wp2_with fail
  refine (unhide KH).mono ?_
  rintro e w1 ⟨k, rfl, hk, q, rfl⟩
  obtain ⟨hkN, hat⟩ := unhide hk
  obtain ⟨h, hN, hr, b0, bw0⟩ := unhide HH
  rcases Nat.lt_or_ge k N with hlt | hge
  · have hkI : (k : Int) < (N : Int) := by omega
    have h0 : (0 : Int) ≤ (k : Int) := by omega
    have hne : ((k : Int) == (N : Int)) = false := by simp; omega
    have hne2 : decide ((k : Int) = (N : Int)) = false := decide_eq_false (by omega)
    have hne3 : decide (k = N) = false := decide_eq_false (by omega)
    have hne4 : ¬ k = N := by omega
    obtain ⟨p, hp⟩ : ∃ p, l[k]? = some p := ⟨_, List.getElem?_eq_getElem (by omega)⟩
    obtain ⟨gb, o, rfl, cv, hcv, d0, d1⟩ := h.get hp
    obtain ⟨a2, n2, e2⟩ := hcv.slice
    subst e2
    obtain ⟨pg, hpg⟩ : ∃ z, z = p.1 := ⟨_, rfl⟩
    rw [← hpg] at d0
    have f0 : W0.cell? ⟨gb, o + k * 2, none⟩ = some (.int .i64 pg) := by rw [b0.cell (lt_of_cell d0)]; exact d0
    have f1 : W0.cell? ⟨gb, o + k * 2 + 1, none⟩ = some (.slice a2 p.2.length n2) := by rw [b0.cell (lt_of_cell d1)]; exact d1
    by_cases hq : pg = g
    · have HR : Hid (FnP u l g k (.slice a2 p.2.length n2) ∧ Below w.heap.size w W0) := ⟨⟨hat, Or.inr ⟨p, hp, by rw [← hpg]; exact hq, hat.found hr hp (by rw [← hpg]; exact hq), hcv⟩⟩, bw0⟩
      clear hat h hN hr b0 bw0 hp hcv d0 d1 hpg hk KH HH hlt hkN
      generalize p.2.length = M at *
      subst hq
      go_wp2_with fail
      go_quiet (fail)
      go_wp2_with fail
      go_quiet (fail)
      go_wp2_with fail
      go_ret2
      exact ⟨k, _, _, _, rfl, (unhide HR).1, below_drewN (below_drewN (below_drewN (unhide HR).2 _) _) _⟩
    · have hq2 : (pg == g) = false := by simp [hq]
      have hq3 : decide (pg = g) = false := decide_eq_false hq
      have HR : Hid (FnP u l g k (.slice none 0 0) ∧ Below w.heap.size w W0) := by
        have hn : ∀ p', l[k]? = some p' → p'.1 ≠ g := fun p' hp' => by rw [hp] at hp'; cases hp'; rw [← hpg]; exact hq
        exact ⟨⟨hat, Or.inl ⟨hat.none hr hn, rfl, hn⟩⟩, bw0⟩
      clear hat h hN hr b0 bw0 hp hcv d0 d1 hpg hk KH HH hlt hkN f1
      go_wp2_with fail
      go_quiet (fail)
      go_wp2_with fail
      go_ret2
      exact ⟨k, _, _, _, rfl, (unhide HR).1, below_drewN (below_drewN (unhide HR).2 _) _⟩
  · obtain rfl : k = N := by omega
    have HR : Hid (FnP u l g k (.slice none 0 0) ∧ Below w.heap.size w W0) := by
      have hn : ∀ p', l[k]? = some p' → p'.1 ≠ g := fun p' hp' => by rw [List.getElem?_eq_none (by omega)] at hp'; cases hp'
      exact ⟨⟨hat, Or.inl ⟨hat.none hr hn, rfl, hn⟩⟩, bw0⟩
    clear hat h hN hr b0 bw0 hk KH HH hge hkN
    go_wp2_with fail
    go_quiet (fail)
    go_wp2_with fail
    go_ret2
    exact ⟨k, _, _, _, rfl, (unhide HR).1, below_drewN (below_drewN (unhide HR).2 _) _⟩
end Go.Proofs.YthlbdajnkdkocaaDoor

/- A group's commits (commits, has); Len. -/
namespace Go.Proofs.YthlbdajnkdkocaaDoor
open Go.RowKit Go.Maps
def cmsL (l : List Lg) (g : Int) : List Cm := if chkB l = true then (fndL l g).getD [] else []
theorem cmsL_len (l : List Lg) (g : Int) : (cmsL l g).length = lenL l g := by unfold cmsL lenL; split <;> rfl
theorem cmsL_sm {l : List Lg} (hs : SmL l) (g : Int) : SmG (g, cmsL l g) := by
  unfold cmsL
  split
  · cases hf : fndL l g with
    | none => exact ⟨by simp, by simp⟩
    | some cs => exact hs.g _ (fndL_mem hf)
  · exact ⟨by simp, by simp⟩
theorem Cms.none (w : World) : Cms w (.slice none 0 0) [] := ⟨by simp, Option.none, 0, rfl, Or.inl rfl⟩
set_option maxRecDepth 100000 in
set_option maxHeartbeats 4000000 in
theorem commits_any {u w : World} {v : Value} {l : List Lg} (h : Lgs u v l) (hu : Below u.heap.size u w) (hs : SmL l) (hT : Tab w) (g : Int) :
    Calls Tryd.prog 29 #[v, .int .i64 g] w fun e w' => ∃ (a : Option Addr) (c : Nat), e = .returned (.slice a (lenL l g) c) ∧ Cms u (.slice a (lenL l g) c) (cmsL l g) ∧ Below w.heap.size w w' := by
  have KM := hide (mayBeL_any (h.bw hu) hT)
  have KF : Hid (chkB l = true → ∀ W, Below w.heap.size w W → Calls Tryd.prog 22 #[v, .int .i64 g] W fun e w' => ∃ (k : Nat) (a : Option Addr) (n c : Nat), e = .returned (.tuple #[.int .i64 (k : Int), .slice a n c]) ∧ Hid (n = lenL l g ∧ Cms u (.slice a n c) (cmsL l g)) ∧ Below W.heap.size W w') := fun hc W hW => by
    refine (find_any h (bw_tr hu hW) (chk_parts hc).2.1 hs.n g).mono ?_
    rintro e w' ⟨k, a, n, c, rfl, ⟨hat, hF⟩, hb⟩
    have hcm : Cms u (.slice a n c) (cmsL l g) := by
      unfold cmsL
      rw [if_pos hc]
      rcases hF with ⟨e1, e2, _⟩ | ⟨p, hp, e1, e2, e3⟩
      · rw [e1]; cases e2; exact Cms.none u
      · rw [e2]; exact e3
    have hlen : n = (cmsL l g).length := by
      obtain ⟨a9, c9, e9⟩ := hcm.slice
      cases e9; rfl
    exact ⟨k, a, n, c, rfl, ⟨by rw [hlen]; exact cmsL_len l g, hcm⟩, hb⟩
  have HC : Hid (chkB l = false → lenL l g = 0 ∧ cmsL l g = []) := fun q => by unfold lenL cmsL; rw [q]; exact ⟨rfl, rfl⟩
  obtain ⟨a, cap, rfl⟩ := h.slice
  obtain ⟨L, hL⟩ : ∃ z, z = lenL l g := ⟨_, rfl⟩
  rw [← hL] at KF HC ⊢
  generalize chkB l = r at *
  clear h hs hT hL hu
  generalize l.length = N at *
  go_enter Tryd.func29, Tryd.ntmps29
  go_wp2_with fail
  refine (unhide KM).mono ?_
  rintro e w1 ⟨rfl, b1⟩
  have B1 := hide b1
  clear b1 KM
  cases r with
  | false =>
    obtain ⟨e1, e2⟩ := unhide HC rfl
    subst e1
    clear KF HC
    go_wp2_with fail
    go_ret
    exact ⟨_, _, rfl, by rw [e2]; exact Cms.none u, unhide B1⟩
  | true =>
    have KF1 := hide (unhide KF rfl w1 (unhide B1))
    clear KF HC
    go_wp2_with fail
    refine (unhide KF1).mono ?_
    rintro e w2 ⟨k, a2, n, c, rfl, hn, b2⟩
    have HR := hide (And.intro (unhide hn) (bw_tr (unhide B1) b2))
    clear hn b2 KF1 B1
    go_wp2_with fail
    go_ret
    obtain ⟨⟨e1, e2⟩, e3⟩ := unhide HR
    subst e1
    exact ⟨_, _, rfl, e2, e3⟩
set_option maxHeartbeats 1000000 in
theorem has_any (w : World) (a : Option Addr) (n c : Nat) (e : Int) (hn : n ≤ 1073741824) :
    Calls Tryd.prog 34 #[.slice a n c, .int .i64 e] w fun r w' => r = .returned (.bool (decide (0 ≤ e ∧ e < (n : Int)))) ∧ w' = w := by
  have hnI : (n : Int) ≤ 1073741824 := by omega
  by_cases h0 : 0 ≤ e
  · by_cases h1 : e < (n : Int)
    · rw [decide_eq_true (show 0 ≤ e ∧ e < (n : Int) from ⟨h0, h1⟩)]
      go_enter Tryd.func34, Tryd.ntmps34
      go_wp2_with fail
      go_ret
      exact ⟨rfl, rfl⟩
    · rw [decide_eq_false (show ¬ (0 ≤ e ∧ e < (n : Int)) from fun q => h1 q.2)]
      go_enter Tryd.func34, Tryd.ntmps34
      go_wp2_with fail
      go_ret
      exact ⟨rfl, rfl⟩
  · rw [decide_eq_false (show ¬ (0 ≤ e ∧ e < (n : Int)) from fun q => h0 q.1)]
    go_enter Tryd.func34, Tryd.ntmps34
    go_wp2_with fail
    go_ret
    exact ⟨rfl, rfl⟩
set_option maxHeartbeats 1000000 in
theorem lgLen_any {w : World} {v : Value} {l : List Lg} (h : Lgs w v l) (hs : SmL l) (hT : Tab w) (g : Int) :
    Calls Tryd.prog 14 #[v, .int .i64 g] w fun e w' => e = .returned (.int .i64 (lenL l g : Nat)) ∧ Below w.heap.size w w' := by
  have K := hide (commits_any h (Below.refl _ _) hs hT g)
  obtain ⟨a, cap, rfl⟩ := h.slice
  generalize lenL l g = L at *
  generalize l.length = N at *
  clear h hT hs
  go_enter Tryd.func14, Tryd.ntmps14
  go_wp2_with fail
  refine (unhide K).mono ?_
  rintro e w1 ⟨a1, c1, rfl, hc, b1⟩
  have B1 := hide b1
  clear b1 hc K
  go_wp2_with fail
  go_ret
  exact ⟨rfl, unhide B1⟩
end Go.Proofs.YthlbdajnkdkocaaDoor

/- Whom an epoch's commit touches, plainly. -/
namespace Go.Proofs.YthlbdajnkdkocaaDoor
open Go.RowKit Go.Maps
def srt (l : List Int) : List Int := l.mergeSort fun x y => decide (x ≤ y)
def tchO (a b : List Int) : List Int := Lib.compact (srt (a ++ b))
theorem mems_ne {T : List Nd} (h : mayB T = true) (h0 : T.length ≠ 0) : mems T ≠ [] := by
  unfold mayB at h
  simp only [Bool.or_eq_true, Bool.and_eq_true, List.isEmpty_iff] at h
  rcases h with h | ⟨_, h⟩
  · rw [h] at h0; simp at h0
  · unfold anyM at h
    obtain ⟨i, hi, hq⟩ := List.any_eq_true.1 h
    simp only [Bool.and_eq_true, decide_eq_true_eq] at hq
    have hm : ndAt T (2 * i) ∈ lvs T := List.mem_of_getElem? (lvs_get (List.mem_range.1 hi))
    unfold mems memsOf
    intro hc
    have : (lvs T).filter pos = [] := by simpa using hc
    exact List.filter_eq_nil_iff.1 this _ hm hq.2
theorem mems_len {T : List Nd} (h : mayB T = true) : (mems T).length ≤ 8 := by
  have h1 := memsOf_len (lvs T)
  rw [lvs_len] at h1
  have := (mayB_15 h).2
  unfold mems
  omega
theorem cmsL_may {l : List Lg} {g : Int} {i : Nat} {c : Cm} (h : (cmsL l g)[i]? = some c) : chkB l = true ∧ c.gr = g ∧ c.ep = (i : Int) ∧ mayB c.next = true ∧ c.next.length ≠ 0 := by
  unfold cmsL at h
  split at h
  · next hc =>
    cases hf : fndL l g with
    | none => rw [hf] at h; simp at h
    | some cs =>
      rw [hf] at h
      have h1 := (log_iff.1 ((chk_parts hc).2.2 _ (fndL_mem hf))).2 i c h
      obtain ⟨q1, q2, q3⟩ := h1
      unfold mayC at q3
      simp only [Bool.and_eq_true, decide_eq_true_eq] at q3
      exact ⟨hc, q1, q2, q3.1.2, q3.2⟩
  · simp at h
def tchA (cs : List Cm) (i : Nat) : List Int :=
  match cs[i]? with
  | none => []
  | some c => tchO (mems c.next) (if i = 0 then [] else match cs[i - 1]? with | none => [] | some d => mems d.next)
def tchL (l : List Lg) (g e : Int) : List Int := if 0 ≤ e then tchA (cmsL l g) e.toNat else []
end Go.Proofs.YthlbdajnkdkocaaDoor

/- Get of package ledger. -/
namespace Go.Proofs.YthlbdajnkdkocaaDoor
open Go.RowKit Go.Maps
end Go.Proofs.YthlbdajnkdkocaaDoor

/- Last of package ledger. -/
namespace Go.Proofs.YthlbdajnkdkocaaDoor
open Go.RowKit Go.Maps
end Go.Proofs.YthlbdajnkdkocaaDoor
