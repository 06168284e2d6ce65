/- Texts joined: LgRa LgRb LgC TeA LgE LgF LgG. -/
import Derived.Test.YthlbdajnkdkocaaDoorZ12
import Derived.Test.YthlbdajnkdkocaaDoorZ04
import Derived.Test.YthlbdajnkdkocaaDoorZ17
import Derived.Deep.RegionHeld3
import Derived.Test.YthlbdajnkdkocaaDoorZ16
/- The document's May and place, of commits and of logs. -/
namespace Go.Proofs.YthlbdajnkdkocaaDoor
open Go.RowKit Go.Maps
end Go.Proofs.YthlbdajnkdkocaaDoor

/- The document's Check, of logs. -/
namespace Go.Proofs.YthlbdajnkdkocaaDoor
open Go.RowKit Go.Maps
def okC (g : Int) (k : Nat) (c : Cm) : Prop := c.gr = g ∧ c.ep = (k : Int) ∧ mayC c = true
theorem com_iff (g : Int) : ∀ (cs : List Cm) (n : Nat), comB g n cs = true ↔ ∀ k c, cs[k]? = some c → okC g (n + k) c
  | [], n => by simp [comB]
  | d :: r, n => by
    unfold comB
    simp only [Bool.and_eq_true, decide_eq_true_eq]
    rw [com_iff g r (n + 1)]
    constructor
    · rintro ⟨⟨⟨h1, h2⟩, h3⟩, h4⟩ k c hc
      cases k with
      | zero => simp at hc; subst hc; exact ⟨h1, by simpa using h2, h3⟩
      | succ k =>
        have := h4 k c (by simpa using hc)
        rw [show n + 1 + k = n + (k + 1) by omega] at this
        exact this
    · intro h
      have h0 := h 0 d rfl
      refine ⟨⟨⟨h0.1, by simpa using h0.2.1⟩, h0.2.2⟩, fun k c hc => ?_⟩
      have := h (k + 1) c (by simpa using hc)
      rw [show n + (k + 1) = n + 1 + k by omega] at this
      exact this
theorem ris_iff : ∀ (l : List Lg), risB l = true ↔ ∀ j q p, l[j]? = some q → l[j + 1]? = some p → q.1 < p.1
  | [] => by simp [risB]
  | [a] => by simp [risB]
  | a :: b :: r => by
    have ih := ris_iff (b :: r)
    simp only [risB, Bool.and_eq_true, decide_eq_true_eq]
    rw [ih]
    constructor
    · rintro ⟨h1, h2⟩ j q p hq hp
      cases j with
      | zero => simp at hq hp; subst hq hp; exact h1
      | succ j => exact h2 j q p (by simpa using hq) (by simpa using hp)
    · intro h
      exact ⟨h 0 a b rfl rfl, fun j q p hq hp => h (j + 1) q p (by simpa using hq) (by simpa using hp)⟩
def okL (l : List Lg) (j : Nat) : Prop := ∀ p, l[j]? = some p → logB p = true ∧ ∀ q i, j = i + 1 → l[i]? = some q → q.1 < p.1
theorem chk_iff {l : List Lg} : chkB l = true ↔ l.length ≤ 16 ∧ ∀ j, j < l.length → okL l j := by
  unfold chkB
  simp only [Bool.and_eq_true, decide_eq_true_eq, List.all_eq_true]
  rw [ris_iff]
  constructor
  · rintro ⟨⟨h1, h2⟩, h3⟩
    exact ⟨h1, fun j _ p hp => ⟨h3 p (List.mem_of_getElem? hp), fun q i e hq => h2 i q p hq (by rw [← e]; exact hp)⟩⟩
  · rintro ⟨h1, h2⟩
    refine ⟨⟨h1, fun j q p hq hp => ?_⟩, fun p hp => ?_⟩
    · exact ((h2 (j + 1) (List.getElem?_eq_some_iff.1 hp).1) p hp).2 q j rfl hq
    · obtain ⟨j, hj⟩ := List.getElem?_of_mem hp
      exact ((h2 j (List.getElem?_eq_some_iff.1 hj).1) p hj).1
theorem log_iff {p : Lg} : logB p = true ↔ p.2.length ≠ 0 ∧ ∀ k c, p.2[k]? = some c → okC p.1 k c := by
  unfold logB
  simp only [Bool.and_eq_true, decide_eq_true_eq]
  rw [com_iff]
  simp
end Go.Proofs.YthlbdajnkdkocaaDoor

/- How great logs are: size. Beyond of what is asked. -/
namespace Go.Proofs.YthlbdajnkdkocaaDoor
open Go.RowKit Go.Maps
set_option maxRecDepth 100000 in
set_option maxHeartbeats 4000000 in
theorem lsize_any {w : World} {v : Value} {l : List (Int × List Cm)} (h : Lgs w v l) :
    Calls Tryd.prog 7 #[v] w fun e w' => ∃ n : Nat, e = .returned (.int .i64 (n : Int)) ∧ n ≤ 9007199254740992 ∧ (n ≤ 262144 → n = l.length + lsN l) ∧ Below w.heap.size w w' := by
  obtain ⟨a, cap, rfl⟩ := h.slice
  have hl := h.len
  obtain ⟨N, hN⟩ : ∃ N, N = l.length := ⟨_, rfl⟩
  rw [← hN] at h hl ⊢
  have hNI : (N : Int) ≤ 140737488355328 := by omega
  obtain ⟨G, hG⟩ : ∃ G, G = N + lsN l := ⟨_, rfl⟩
  rw [← hG]
  have HG := hide hG
  have HH := hide (And.intro h hN)
  clear h hN hl hG
  go_enter Tryd.func7, Tryd.ntmps7
  go_wp2_with fail
  go_loopw [3, 4] (fun nv iv wr => ∃ (i n : Nat), i ≤ N ∧ iv = .int .i64 (i : Int) ∧ nv = .int .i64 (n : Int) ∧ n ≤ 1048576 + 140737488355328 + 4503599627370496 ∧ Hid (Below w.heap.size w wr ∧ (n ≤ 262144 → n = N + lsN (l.take i)))) (fun _ iv _ => (N - intOf iv).toNat)
  case atStart => exact ⟨0, N, Nat.zero_le _, rfl, rfl, by omega, Below.refl _ _, fun _ => by simp [lsN]⟩
  case round =>
    obtain ⟨i, n, hi, rfl, rfl, hn, HR⟩ := hrel
    have hnI : (n : Int) ≤ 9007199254740992 := by omega
    by_cases hlt : i < N
    · have hiI : (i : Int) < (N : Int) := by omega
      by_cases hnb : n < 1048576
      · have hnbI : (n : Int) < 1048576 := by omega
        obtain ⟨h, hN⟩ := unhide HH
        obtain ⟨p, hp⟩ : ∃ p, l[i]? = some p := ⟨_, List.getElem?_eq_getElem (by omega)⟩
        obtain ⟨gb, o, rfl, cv, hcv, d0, d1⟩ := (h.bw (unhide HR).1).get hp
        have K := hide (lgsize_any (g := p.1) hcv)
        have HQ := hide (And.intro hN (unhide HR))
        have HN2 : Hid (lsN (l.take (i + 1)) = lsN (l.take i) + lgN p) := lsN_take hp
        have ep : (p.1, p.2) = p := rfl
        rw [ep] at K
        obtain ⟨CN, hCN⟩ : ∃ CN, CN = lgN p := ⟨_, rfl⟩
        rw [← hCN] at K HN2
        obtain ⟨g, hg⟩ : ∃ g, g = p.1 := ⟨_, rfl⟩
        rw [← hg] at K d0
        obtain ⟨a2, c2, rfl⟩ := hcv.slice
        clear h hN hcv HR hp hCN ep hg
        generalize p.2.length = M at *
        go_wp2_with fail
        refine (unhide K).mono ?_
        rintro e2 w2 ⟨m, rfl, m1, m2, b2⟩
        have hmI : (m : Int) ≤ 4503599627370496 := by omega
        obtain ⟨hN, hb, hq⟩ := unhide HQ
        have HR2 : Hid (Below w.heap.size w w2 ∧ (n + m ≤ 262144 → n + m = N + lsN (l.take (i + 1)))) := ⟨bw_tr hb b2, fun q => by
          have := hq (by omega)
          have := m2 (by omega)
          rw [unhide HN2]; omega⟩
        clear K HQ hN hb hq HN2 m2 b2 d0 d1
        go_wp2_with fail
        go_roundw
        case rel => exact ⟨i + 1, n + m, by omega, by go_num, by go_num, by omega, HR2⟩
        case measure => simp only [intOf]; omega
      · have hnbI : (1048576 : Int) ≤ (n : Int) := by omega
        have hnd : decide ((n : Int) < 1048576) = false := decide_eq_false (by omega)
        have B := hide (unhide HR).1
        clear HH HG HR
        go_wp2
        go_ret
        exact ⟨n, rfl, by omega, fun c => absurd c (by omega), unhide B⟩
    · have e : i = N := by omega
      subst e
      have B := hide (unhide HR).1
      have HE : Hid (n ≤ 262144 → n = G) := fun c => by
        have := (unhide HR).2 c
        rw [List.take_of_length_le (by have := (unhide HH).2; omega)] at this
        rw [unhide HG]; exact this
      clear HH HG HR hlt
      go_wp2
      go_ret
      exact ⟨n, rfl, by omega, unhide HE, unhide B⟩
end Go.Proofs.YthlbdajnkdkocaaDoor

/- The contracts of SameNodes and SameTree, of two trees that read alike; the document's free and rising. -/
namespace Go.Proofs.YthlbdajnkdkocaaDoor
open Go.RowKit Go.Maps
end Go.Proofs.YthlbdajnkdkocaaDoor

/- SameCommit, SameCommits, SameLog, SameLogs of equal ones. -/
namespace Go.Proofs.YthlbdajnkdkocaaDoor
open Go.RowKit Go.Maps
end Go.Proofs.YthlbdajnkdkocaaDoor

/- SameCommits, SameLog, SameLogs of equal ones. -/
namespace Go.Proofs.YthlbdajnkdkocaaDoor
open Go.RowKit Go.Maps
end Go.Proofs.YthlbdajnkdkocaaDoor

/- SameLog, SameLogs of equal ones. -/
namespace Go.Proofs.YthlbdajnkdkocaaDoor
open Go.RowKit Go.Maps
end Go.Proofs.YthlbdajnkdkocaaDoor
