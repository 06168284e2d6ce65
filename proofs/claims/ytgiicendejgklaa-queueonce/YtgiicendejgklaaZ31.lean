/- Texts joined: QuSt QuAgP QuLv QuOrP QuLw QuLx QuOrS QuLy. -/
import Derived.Test.YtgiicendejgklaaZ29
import Derived.Test.YtgiicendejgklaaQuTa
import Derived.Test.YtgiicendejgklaaQuR
import Derived.Test.YtgiicendejgklaaZ28
import Derived.Great.BuildSlice
import Derived.Laws.Bits128
/- Links that something was told to, or a packet came to, may be (QueueStays, plainly). No walk is in this text. -/
namespace Go.Proofs.Ytgiicendejgklaa
open Go.RowKit Go.Maps
end Go.Proofs.Ytgiicendejgklaa

/- A packet that comes twice, plainly. No walk is in this text. mkQuAg.py writes it. -/
namespace Go.Proofs.Ytgiicendejgklaa
open Go.RowKit Go.Maps
end Go.Proofs.Ytgiicendejgklaa

/- What is so of whoever does something at all (alive of layer 17): its feeds, and what comes of them, plainly. -/
namespace Go.Proofs.Ytgiicendejgklaa
open Go.RowKit Go.Maps
theorem built_feed (n : Int) : Try.prog.built 43 [(0, .int .u8 4), (1, .int .i64 n)] = some (fdC (fdK 4 n) fx00).toArray := by kernel_rfl
def lk1 : Lk := ⟨1, 1, [fdK 4 5], 0, []⟩
def lk2 : Lk := ⟨1, 2, [fdK 4 5, fdK 4 6], 0, []⟩
def lk3 : Lk := ⟨0, 0, [], 0, [⟨1, fdK 4 6⟩]⟩
def lk4 : Lk := ⟨0, 0, [], 2, []⟩
def lk5 : Lk := ⟨1, 2, [], 0, []⟩
def pkA : Pt := ⟨0, 1, false, 0, fdK 4 5⟩
def pkB : Pt := ⟨0, 1, false, 1, fdK 4 6⟩
def bkB : Pt := ⟨1, 0, true, 2, fdK 0 0⟩
theorem tell_4 (n : Int) : tellP (fdK 4 n) := ⟨by show (1 : Int) ≤ 4; decide, by show (4 : Int) ≤ 6; decide⟩
theorem ok_nil : okLs [] := fun j k hk => by simp at hk
theorem ok_one {k : Lk} (h1 : 0 ≤ k.pe ∧ k.pe < 4) (h2 : SendP k) (h3 : ExpP k) : okLs [k] := fun j q hq => by
  cases j with
  | zero => simp only [List.getElem?_cons_zero, Option.some.injEq] at hq; subst hq; exact ⟨⟨h1, h2, h3⟩, fun _ _ hi => by omega⟩
  | succ j => simp at hq
theorem Lnk.none {p : Int} {k : Nat} {L : List Lk} (h : Lnk [] p k L) : k = 0 ∧ L = [nlk p] := by
  have hk : k = 0 := by have := h.1.le; simpa using this
  subst hk
  rcases h.2 with ⟨_, q, hq, _⟩ | ⟨e, _⟩
  · simp at hq
  · exact ⟨rfl, by rw [e]; rfl⟩
theorem Lnk.one {q : Lk} {k : Nat} {L : List Lk} (h : Lnk [q] q.pe k L) : k = 0 ∧ L = [q] := by
  have hk : k = 0 := by
    rcases Nat.eq_zero_or_pos k with c | c
    · exact c
    · have := h.1.lo 0 q c rfl; omega
  subst hk
  rcases h.2 with ⟨e, _⟩ | ⟨_, hn⟩
  · exact ⟨rfl, e⟩
  · exact absurd rfl (hn q rfl)
theorem send_1 : SendP lk1 := ⟨by decide, by decide, by decide, by intro f hf; simp [lk1] at hf; subst hf; exact tell_4 5⟩
theorem send_2 : SendP lk2 := ⟨by decide, by decide, by decide, by intro f hf; simp [lk2] at hf; rcases hf with rfl | rfl <;> exact tell_4 _⟩
theorem exp_0 {k : Lk} (h : k.ex = 0) (he : k.ea = []) : ExpP k := ⟨by omega, by omega, by rw [he]; simp, fun i e hi => by rw [he] at hi; simp at hi⟩
theorem ok_1 : okLs [lk1] := ok_one ⟨by decide, by decide⟩ send_1 (exp_0 rfl rfl)
theorem ok_2 : okLs [lk2] := ok_one ⟨by decide, by decide⟩ send_2 (exp_0 rfl rfl)
theorem ok_3 : okLs [lk3] := by
  refine ok_one ⟨by decide, by decide⟩ ⟨by decide, by decide, by decide, by intro f hf; simp [lk3] at hf⟩ ⟨by decide, by decide, by decide, fun i e hi => ?_⟩
  cases i with
  | zero => simp only [lk3, List.getElem?_cons_zero, Option.some.injEq] at hi; subst hi; exact ⟨by decide, by decide, tell_4 6⟩
  | succ i => simp [lk3] at hi
theorem taken_A : TakenP pkA := ⟨⟨by decide, by decide⟩, ⟨by decide, by decide⟩, by decide, Or.inr ⟨rfl, by decide, tell_4 5⟩⟩
theorem taken_B : TakenP pkB := ⟨⟨by decide, by decide⟩, ⟨by decide, by decide⟩, by decide, Or.inr ⟨rfl, by decide, tell_4 6⟩⟩
theorem taken_K : TakenP bkB := ⟨⟨by decide, by decide⟩, ⟨by decide, by decide⟩, by decide, Or.inl ⟨rfl, by decide⟩⟩
theorem snd_2 : sndL 0 [lk2] = [pkA, pkB] := rfl
theorem turn_B {q' : Lk} {T : List Fd} (h : TurnP (nlk 0) ⟨1, fdK 4 6⟩ q' T) : q' = lk3 ∧ T = [] := by
  rcases h with ⟨hn, _⟩ | ⟨_, j, hj, _, e1, e2⟩
  · exact absurd (Or.inr ⟨by decide, by decide, by decide, fun i e hi => by simp [nlk] at hi⟩) hn
  · have hj0 : j = 0 := by simpa [nlk] using hj
    subst hj0
    exact ⟨by rw [e1]; rfl, by rw [e2]; rfl⟩
theorem turn_A {q' : Lk} {T : List Fd} (h : TurnP lk3 ⟨0, fdK 4 5⟩ q' T) : q' = lk4 ∧ T = [fdK 4 5, fdK 4 6] := by
  rcases h with ⟨hn, _⟩ | ⟨_, j, hj, hp, e1, e2⟩
  · exact absurd (Or.inl rfl) hn
  · have hj1 : j ≤ 1 := hj
    have hj0 : j = 0 := by
      rcases Nat.eq_zero_or_pos j with c | c
      · exact c
      · obtain rfl : j = 1 := by omega
        have hp2 : ([⟨1, fdK 4 6⟩, ⟨0, fdK 4 5⟩] : List Er).Pairwise (fun a b => a.sq < b.sq) := hp
        simp at hp2
    subst hj0
    exact ⟨by rw [e1]; rfl, by rw [e2]; rfl⟩
end Go.Proofs.Ytgiicendejgklaa

/- What came early is told in order, whatever the order in which it came (QueueOrder, plainly). No walk is in this text. -/
namespace Go.Proofs.Ytgiicendejgklaa
open Go.RowKit Go.Maps
structure OInv (met : Nat → Bool) (q : Lk) (e0 : Nat) : Prop where
  pe : q.pe = 0
  nx : q.nx = 0
  qq : q.q = []
  ex : q.ex = (e0 : Int)
  lo : ∀ i, i < e0 → met i = true
  at0 : met e0 = false
  hi : ∀ i, met i = true → i < 64
  up : q.ea.Pairwise (fun a b => a.sq < b.sq)
  el : ∀ a ∈ q.ea, a.fd = fdK 4 a.sq ∧ ∃ s : Nat, a.sq = (s : Int) ∧ met s = true ∧ e0 < s
  all : ∀ s, e0 < s → met s = true → ∃ a ∈ q.ea, a.sq = (s : Int)
theorem OInv.start (met : Nat → Bool) (h : ∀ i, met i = false) : OInv met (nlk 0) 0 :=
  ⟨rfl, rfl, rfl, rfl, by omega, h 0, fun i hi => (by rw [h i] at hi; cases hi), by simp [nlk], by simp [nlk], fun s _ hs => (by rw [h s] at hs; cases hs)⟩
theorem rise_len : ∀ (l : List Er) (lo : Int), l.Pairwise (fun a b => a.sq < b.sq) → (∀ a ∈ l, lo ≤ a.sq ∧ a.sq < 64) → (l.length : Int) ≤ max 0 (64 - lo) := by
  intro l
  induction l with
  | nil => intro lo _ _; simp; omega
  | cons a m ih =>
    intro lo hp hl
    obtain ⟨p1, p2⟩ := List.pairwise_cons.1 hp
    have h1 := hl a (by simp)
    have h2 := ih (a.sq + 1) p2 (fun b hb => ⟨by have := p1 b hb; omega, (hl b (by simp [hb])).2⟩)
    simp only [List.length_cons]
    omega
theorem OInv.len {met : Nat → Bool} {q : Lk} {e0 : Nat} (h : OInv met q e0) : q.ea.length ≤ 64 := by
  have := rise_len q.ea 0 h.up (fun a ha => by
    obtain ⟨_, s, e, hm, _⟩ := h.el a ha
    have := h.hi s hm
    omega)
  omega
theorem OInv.le {met : Nat → Bool} {q : Lk} {e0 : Nat} (h : OInv met q e0) : e0 ≤ 64 := by
  rcases Nat.eq_zero_or_pos e0 with c | c
  · omega
  · have := h.hi (e0 - 1) (h.lo (e0 - 1) (by omega)); omega
theorem OInv.ok {met : Nat → Bool} {q : Lk} {e0 : Nat} (h : OInv met q e0) : okLs [q] := by
  have hl := h.le
  refine ok_one ⟨by rw [h.pe]; decide, by rw [h.pe]; decide⟩ ⟨by rw [h.nx]; decide, by rw [h.qq]; decide, by rw [h.qq, h.nx]; decide, by rw [h.qq]; simp⟩ ⟨by rw [h.ex]; omega, by rw [h.ex]; omega, by have := h.len; omega, fun i e he => ?_⟩
  have hm : e ∈ q.ea := List.mem_of_getElem? he
  obtain ⟨hf, s, hs, hms, hes⟩ := h.el e hm
  have := h.hi s hms
  refine ⟨?_, by omega, by rw [hf]; exact tell_4 _⟩
  unfold pvE
  by_cases c : i = 0
  · rw [if_pos c, h.ex]; omega
  · rw [if_neg c]
    have hi := (List.getElem?_eq_some_iff.1 he).1
    have hi1 : i - 1 < q.ea.length := by omega
    rw [List.getElem?_eq_getElem hi1]
    have := List.pairwise_iff_getElem.1 h.up (i - 1) i hi1 hi (by omega)
    rw [(List.getElem?_eq_some_iff.1 he).2] at this
    exact this
theorem OInv.turn {met met' : Nat → Bool} {q q' : Lk} {e0 n : Nat} {T : List Fd} (h : OInv met q e0) (hn : n < 64) (hm : ∀ i, met' i = true ↔ (i = n ∨ met i = true)) (ht : TurnP q ⟨(n : Int), fdK 4 (n : Int)⟩ q' T) :
    ∃ e1, e0 ≤ e1 ∧ OInv met' q' e1 ∧ T.length = e1 - e0 ∧ ∀ (i : Nat) f, T[i]? = some f → f = fdK 4 ((e0 + i : Nat) : Int) := by
  rcases ht with ⟨hw, rfl, rfl⟩ | ⟨hw, j, hj, hp, rfl, rfl⟩
  · have hmn : met n = true := by
      rcases Nat.lt_trichotomy n e0 with c | c | c
      · exact h.lo n c
      · exact absurd (Or.inl (by rw [h.ex, c])) hw
      · have hl := h.len
        by_cases d : ∃ a ∈ q'.ea, a.sq = (n : Int)
        · obtain ⟨a, ha, he⟩ := d
          obtain ⟨_, s, e, hms, _⟩ := h.el a ha
          have : s = n := by omega
          rw [← this]; exact hms
        · refine absurd (Or.inr ⟨by show q'.ex < (n : Int); rw [h.ex]; omega, by show (n : Int) - q'.ex ≤ 1024; rw [h.ex]; omega, by omega, fun i a hi he => d ⟨a, List.mem_of_getElem? hi, he⟩⟩) hw
    have e : met' = met := by
      funext i
      have := hm i
      cases h1 : met' i <;> cases h2 : met i <;> simp [h1, h2] at this ⊢
      · rw [this, hmn] at h2; cases h2
    subst e
    exact ⟨e0, Nat.le_refl _, h, by simp, by simp⟩
  · obtain ⟨e, he⟩ : ∃ e : Er, e = ⟨(n : Int), fdK 4 (n : Int)⟩ := ⟨_, rfl⟩
    rw [← he] at hp ⊢
    have hen : e.sq = (n : Int) := by rw [he]
    have hef : e.fd = fdK 4 e.sq := by rw [he]
    have hw : (n : Int) = q.ex ∨ (q.ex < (n : Int) ∧ (n : Int) - q.ex ≤ 1024 ∧ q.ea.length ≠ 1024 ∧ ∀ (i : Nat) a, q.ea[i]? = some a → a.sq ≠ (n : Int)) := hw
    have hne : e0 ≤ n := by rw [h.ex] at hw; rcases hw with c | c <;> omega
    have hge : ∀ a ∈ insAt q.ea j e, q.ex ≤ a.sq := fun a ha => by
      rw [h.ex]
      rcases ins_mem ha with c | c
      · subst c; rw [hen]; omega
      · obtain ⟨_, s, hs, _, hes⟩ := h.el a c; omega
    obtain ⟨R, hR⟩ : ∃ R, R = runE (fun a : Er => a.sq) q.ex (insAt q.ea j e) := ⟨_, rfl⟩
    obtain ⟨k1, k2, k3, k4⟩ := runE_ok (fun a : Er => a.sq) (insAt q.ea j e) q.ex hp hge
    rw [← hR] at k1 k2 k3 k4 ⊢
    have hei : e ∈ insAt q.ea j e := by unfold insAt; simp
    have hai : ∀ a ∈ q.ea, a ∈ insAt q.ea j e := fun a ha => by
      unfold insAt
      rw [← List.take_append_drop j q.ea] at ha
      simp only [List.mem_append, List.mem_cons] at ha ⊢
      rcases ha with c | c
      · exact Or.inl c
      · exact Or.inr (Or.inr c)
    have hex' : R.2.1 = ((e0 + R.1.length : Nat) : Int) := by rw [k2, h.ex]; omega
    -- of what stands in the row: told has numbers below, kept above
    have hside : ∀ a ∈ insAt q.ea j e, (a ∈ R.2.2 ∧ R.2.1 < a.sq) ∨ (a.sq < R.2.1) := fun a ha => by
      rw [k1] at ha
      rcases List.mem_append.1 ha with c | c
      · right
        obtain ⟨i, hi, ei⟩ := List.getElem_of_mem c
        have h4 : a.sq = q.ex + (i : Int) := k4 i a (by rw [← ei]; exact List.getElem?_eq_getElem hi)
        rw [k2]; omega
      · exact Or.inl ⟨c, k3 a c⟩
    have hone : ∀ a ∈ insAt q.ea j e, a.fd = fdK 4 a.sq ∧ ∃ s : Nat, a.sq = (s : Int) ∧ met' s = true := fun a ha => by
      rcases ins_mem ha with c | c
      · subst c; exact ⟨hef, n, hen, (hm n).2 (Or.inl rfl)⟩
      · obtain ⟨hf, s, hs, hms, _⟩ := h.el a c
        exact ⟨hf, s, hs, (hm s).2 (Or.inr hms)⟩
    have hall : ∀ s, e0 ≤ s → met' s = true → ∃ a ∈ insAt q.ea j e, a.sq = (s : Int) := fun s hs hms => by
      rcases (hm s).1 hms with c | c
      · exact ⟨e, hei, by rw [hen, c]⟩
      · rcases Nat.eq_or_lt_of_le hs with d | d
        · rw [← d, h.at0] at c; cases c
        · obtain ⟨a, ha, e1⟩ := h.all s d c
          exact ⟨a, hai a ha, e1⟩
    have hpk : R.2.2.Pairwise (fun a b => a.sq < b.sq) := by
      rw [k1] at hp
      exact (List.pairwise_append.1 hp).2.1
    refine ⟨e0 + R.1.length, by omega, ⟨h.pe, h.nx, h.qq, hex', fun i hi => ?_, ?_, fun i hi => ?_, hpk, fun a ha => ?_, fun s hs hms => ?_⟩, by rw [List.length_map]; omega, fun i f hf => ?_⟩
    · rcases Nat.lt_or_ge i e0 with c | c
      · exact (hm i).2 (Or.inr (h.lo i c))
      · have hil : i - e0 < R.1.length := by omega
        have h4 := k4 (i - e0) _ (List.getElem?_eq_getElem hil)
        have hin : R.1[i - e0] ∈ insAt q.ea j e := by rw [k1]; exact List.mem_append_left _ (List.getElem_mem hil)
        obtain ⟨_, s, hs, hms⟩ := hone _ hin
        have h4 : R.1[i - e0].sq = q.ex + ((i - e0 : Nat) : Int) := h4
        have : s = i := by rw [h.ex] at h4; omega
        rw [← this]; exact hms
    · cases hc : met' (e0 + R.1.length) with
      | false => rfl
      | true =>
        obtain ⟨a, ha, e1⟩ := hall _ (by omega) hc
        rcases hside a ha with ⟨_, d⟩ | d
        · omega
        · omega
    · rcases (hm i).1 hi with c | c
      · omega
      · exact h.hi i c
    · have hin : a ∈ insAt q.ea j e := by rw [k1]; exact List.mem_append_right _ ha
      obtain ⟨hf, s, hs, hms⟩ := hone a hin
      have h3 : R.2.1 < a.sq := k3 a ha
      exact ⟨hf, s, hs, hms, by omega⟩
    · obtain ⟨a, ha, e1⟩ := hall s (by omega) hms
      rcases hside a ha with ⟨d, _⟩ | d
      · exact ⟨a, d, e1⟩
      · omega
    · rw [List.getElem?_map] at hf
      cases hr : R.1[i]? with
      | none => rw [hr] at hf; cases hf
      | some a =>
        rw [hr] at hf
        simp only [Option.map_some, Option.some.injEq] at hf
        have h4 : a.sq = q.ex + (i : Int) := k4 i a hr
        have hin : a ∈ insAt q.ea j e := by rw [k1]; exact List.mem_append_left _ (List.mem_of_getElem? hr)
        rw [← hf, (hone a hin).1, h4, h.ex]
        congr 1
end Go.Proofs.Ytgiicendejgklaa

/- What each call of alive (layer 17) answers. -/
namespace Go.Proofs.Ytgiicendejgklaa
open Go.RowKit Go.Maps
theorem push1_any (W : World) : Calls Try.prog 11 #[.slice none 0 0, .int .i64 1, .agg (fdC (fdK 4 5) fx00).toArray] W fun e w' => ∃ g c, e = .returned (.tuple #[.slice (some ⟨g, 0, none⟩) 1 c, .int .i64 0]) ∧ Hid (∃ xs, RdL kLk w' (.slice (some ⟨g, 0, none⟩) 1 c) [lk1] xs) ∧ Below W.heap.size W w' := by
  refine Calls.mono (push_any (rdl_nil kLk W) (by simp) (fdK_r W 4 5) (fdK_s 4 5) 1) ?_
  rintro e w' ⟨v', er, rfl, hb, hq⟩
  rcases hq with ⟨_, hn, _⟩ | ⟨_, _, _, k, L, q, hL, hk, hq⟩
  · exact absurd ⟨ok_nil, tell_4 5, by decide, by decide⟩ hn
  · obtain ⟨rfl, rfl⟩ := hL.none
    simp only [List.getElem?_cons_zero, Option.some.injEq] at hk
    subst hk
    rcases hq with ⟨_, hn, _⟩ | ⟨rfl, _, _, xs', ho⟩
    · rcases hn with hn | hn
      · simp [nlk] at hn
      · exact absurd hn (by decide)
    · have ho : OwL kLk W.heap.size w' v' [lk1] xs' := ho
      obtain ⟨g, c, hv, _⟩ := own_open ho.row (by simp)
      subst hv
      exact ⟨g, c, rfl, ⟨xs', OwL.lks ho (fun b hb => by
        simp only [List.mem_cons, List.not_mem_nil, or_false] at hb; subst hb
        exact ⟨by decide, by decide, by intro f hf; simp [lk1] at hf; subst hf; exact fdK_s 4 5, by intro f hf; simp [lk1] at hf⟩)⟩, hb⟩
theorem push2_any {W : World} {v : Value} {xs : List Lx} (h : RdL kLk W v [lk1] xs) : Calls Try.prog 11 #[v, .int .i64 1, .agg (fdC (fdK 4 6) fx00).toArray] W fun e w' => ∃ g c, e = .returned (.tuple #[.slice (some ⟨g, 0, none⟩) 1 c, .int .i64 0]) ∧ Hid (∃ xs, RdL kLk w' (.slice (some ⟨g, 0, none⟩) 1 c) [lk2] xs) ∧ Below W.heap.size W w' := by
  refine Calls.mono (push_any h (by simp) (fdK_r W 4 6) (fdK_s 4 6) 1) ?_
  rintro e w' ⟨v', er, rfl, hb, hq⟩
  rcases hq with ⟨_, hn, _⟩ | ⟨_, _, _, k, L, q, hL, hk, hq⟩
  · exact absurd ⟨ok_1, tell_4 6, by decide, by decide⟩ hn
  · obtain ⟨rfl, rfl⟩ := Lnk.one (q := lk1) hL
    simp only [List.getElem?_cons_zero, Option.some.injEq] at hk
    subst hk
    rcases hq with ⟨_, hn, _⟩ | ⟨rfl, _, _, xs', ho⟩
    · rcases hn with hn | hn
      · exact absurd hn (by decide)
      · exact absurd hn (by decide)
    · have ho : OwL kLk W.heap.size w' v' [lk2] xs' := ho
      obtain ⟨g, c, hv, _⟩ := own_open ho.row (by simp)
      subst hv
      exact ⟨g, c, rfl, ⟨xs', OwL.lks ho (fun b hb => by
        simp only [List.mem_cons, List.not_mem_nil, or_false] at hb; subst hb
        exact ⟨by decide, by decide, by intro f hf; simp [lk2] at hf; rcases hf with rfl | rfl <;> exact fdK_s _ _, by intro f hf; simp [lk2] at hf⟩)⟩, hb⟩
theorem sends2_any {W : World} {v : Value} {xs : List Lx} (h : RdL kLk W v [lk2] xs) : Calls Try.prog 16 #[v, .int .i64 0] W fun e w' => ∃ g c, e = .returned (.tuple #[.slice (some ⟨g, 0, none⟩) 2 c, .int .i64 0]) ∧ Hid (∃ ys, OwL kPk W.heap.size w' (.slice (some ⟨g, 0, none⟩) 2 c) [pkA, pkB] ys) ∧ Below W.heap.size W w' := by
  refine Calls.mono (sends_any h (by simp) 0) ?_
  rintro e w' ⟨v', er, rfl, hb, hq⟩
  rcases hq with ⟨_, hn, _⟩ | ⟨rfl, _, _, xs', ho⟩
  · exact absurd ⟨ok_2, by decide, by decide⟩ hn
  · rw [snd_2] at ho
    obtain ⟨g, c, hv, _⟩ := own_open ho.row (by simp)
    subst hv
    exact ⟨g, c, rfl, ⟨xs', ho⟩, hb⟩
theorem rdl_form {α ξ : Type} {K : EK α ξ} {w : World} {v : Value} {a : α} {xs : List ξ} (h : RdL K w v [a] xs) : ∃ g o c x, v = .slice (some ⟨g, o, none⟩) 1 c ∧ w.rangeAt g o (K.C a x) ∧ K.R w a x := by
  obtain ⟨ad, c, rfl⟩ := rdl_slice h
  obtain ⟨a', x, g, o, rfl, h1, _, h3, h4⟩ := rdl_at h (i := 0) (by simp)
  simp only [List.getElem?_cons_zero, Option.some.injEq] at h1
  subst h1
  exact ⟨g, o, c, x, rfl, by simpa using h4, h3⟩
theorem takeB_any {W : World} {y : Fx} (h : FdR W (fdK 4 6) y) : Calls Try.prog 12 #[.slice none 0 0, .agg (ptC pkB y).toArray] W fun e w' => ∃ v1 a2 c2 g o c3, e = .returned (.tuple #[v1, .slice a2 0 c2, .slice (some ⟨g, o, none⟩) 1 c3, .int .i64 0]) ∧ w'.cell? ⟨g, o + 3, none⟩ = some (.int .i64 0) ∧ Hid (∃ xs, RdL kLk w' v1 [lk3] xs) ∧ Below W.heap.size W w' := by
  refine Calls.mono (take_any (p := pkB) (rdl_nil kLk W) (by simp) h (fdK_s 4 6)) ?_
  rintro e w' ⟨v', tv, bv, er, rfl, hb, hq⟩
  rcases hq with ⟨_, hn, _⟩ | ⟨rfl, _, _, k, L, q, hL, hk, hq⟩
  · rcases hn with hn | ⟨_, _, hn, _⟩
    · exact absurd ⟨ok_nil, taken_B⟩ hn
    · exact absurd hn (by decide)
  · obtain ⟨rfl, rfl⟩ := hL.none
    simp only [List.getElem?_cons_zero, Option.some.injEq] at hk
    subst hk
    rcases hq with ⟨hn, _⟩ | ⟨_, q', T, xs', tx, bx, ht, h1, h2, h3⟩
    · exact absurd hn (by decide)
    · replace h1 := h1.rd
      replace h2 := h2.rd
      replace h3 := h3.rd
      obtain ⟨rfl, rfl⟩ := turn_B ht
      obtain ⟨a2, c2, rfl⟩ := rdl_slice h2
      obtain ⟨g, o, c3, x3, rfl, hr, _⟩ := rdl_form h3
      exact ⟨v', a2, c2, g, o, c3, rfl, hr 3 _ rfl, ⟨xs', h1⟩, hb⟩
theorem takeA_any {W : World} {y : Fx} {v : Value} {xs : List Lx} (hl : RdL kLk W v [lk3] xs) (h : FdR W (fdK 4 5) y) : Calls Try.prog 12 #[v, .agg (ptC pkA y).toArray] W fun e w' => ∃ a1 c1 g2 o2 c2 g o c3 y3, e = .returned (.tuple #[.slice a1 1 c1, .slice (some ⟨g2, o2, none⟩) 2 c2, .slice (some ⟨g, o, none⟩) 1 c3, .int .i64 0]) ∧ w'.cell? ⟨g2, o2 + 53 + 1, none⟩ = some (.int .i64 6) ∧ w'.rangeAt g o (ptC bkB y3) ∧ FdR w' (fdK 0 0) y3 ∧ Below W.heap.size W w' := by
  refine Calls.mono (take_any (p := pkA) hl (by simp) h (fdK_s 4 5)) ?_
  rintro e w' ⟨v', tv, bv, er, rfl, hb, hq⟩
  rcases hq with ⟨_, hn, _⟩ | ⟨rfl, _, _, k, L, q, hL, hk, hq⟩
  · rcases hn with hn | ⟨_, _, hn, _⟩
    · exact absurd ⟨ok_3, taken_A⟩ hn
    · exact absurd hn (by decide)
  · obtain ⟨rfl, rfl⟩ := Lnk.one (q := lk3) hL
    simp only [List.getElem?_cons_zero, Option.some.injEq] at hk
    subst hk
    rcases hq with ⟨hn, _⟩ | ⟨_, q', T, xs', tx, bx, ht, h1, h2, h3⟩
    · exact absurd hn (by decide)
    · replace h1 := h1.rd
      replace h2 := h2.rd
      replace h3 := h3.rd
      obtain ⟨rfl, rfl⟩ := turn_A ht
      obtain ⟨a1, c1, rfl⟩ := rdl_slice h1
      obtain ⟨a2, c2, rfl⟩ := rdl_slice h2
      obtain ⟨f, x2, g2, o2, rfl, e2, _, _, r2⟩ := rdl_at h2 (i := 1) (by simp)
      obtain ⟨g, o, c3, x3, rfl, hr, hf3⟩ := rdl_form h3
      have e3 : fdK 4 6 = f := by simpa using e2
      subst e3
      exact ⟨a1, c1, g2, o2, c2, g, o, c3, x3, rfl, by have h4 := r2 1 _ rfl; rw [Nat.one_mul] at h4; exact h4, hr, hf3.1, hb⟩
theorem takeK_any {W : World} {y : Fx} {v : Value} {xs : List Lx} (hl : RdL kLk W v [lk2] xs) (h : FdR W (fdK 0 0) y) : Calls Try.prog 12 #[v, .agg (ptC bkB y).toArray] W fun e w' => ∃ g o c1 a2 c2 v2 v3, e = .returned (.tuple #[.slice (some ⟨g, o, none⟩) 1 c1, v2, v3, .int .i64 0]) ∧ w'.cell? ⟨g, o + 2, none⟩ = some (.slice a2 0 c2) ∧ Below W.heap.size W w' := by
  refine Calls.mono (take_any (p := bkB) hl (by simp) h (fdK_s 0 0)) ?_
  rintro e w' ⟨v', tv, bv, er, rfl, hb, hq⟩
  rcases hq with ⟨_, hn, _⟩ | ⟨rfl, _, _, k, L, q, hL, hk, hq⟩
  · rcases hn with hn | ⟨_, _, _, k, L, q, hL, hk, hn⟩
    · exact absurd ⟨ok_2, taken_K⟩ hn
    · obtain ⟨rfl, rfl⟩ := Lnk.one (q := lk2) hL
      simp only [List.getElem?_cons_zero, Option.some.injEq] at hk
      subst hk
      exact absurd hn (by decide)
  · obtain ⟨rfl, rfl⟩ := Lnk.one (q := lk2) hL
    simp only [List.getElem?_cons_zero, Option.some.injEq] at hk
    subst hk
    rcases hq with ⟨_, _, _, _, xs', h1⟩ | ⟨hn, _⟩
    · have h1 : RdL kLk w' v' [lk5] xs' := h1.rd
      obtain ⟨g, o, c1, x, rfl, hr, hx⟩ := rdl_form h1
      obtain ⟨a2, c2, e2⟩ := rdl_slice hx.1.q
      exact ⟨g, o, c1, a2, c2, _, _, rfl, by have := hr 2 _ rfl; rw [this]; show some x.qv = _; rw [e2]; rfl, hb⟩
    · exact absurd hn (by decide)
end Go.Proofs.Ytgiicendejgklaa

/- A feed of layer 17's alive. -/
namespace Go.Proofs.Ytgiicendejgklaa
open Go.RowKit Go.Maps
set_option maxRecDepth 100000 in
set_option maxHeartbeats 400000 in
theorem feed_any {w : World} (n : Int) : Calls Try.prog 15 #[.int .i64 n] w fun e w' => e = .returned (.agg (fdC (fdK 4 n) fx00).toArray) ∧ Below w.heap.size w w' := by
  obtain ⟨CS, hCS⟩ : ∃ z, z = (fdC (fdK 4 n) fx00).toArray := ⟨_, rfl⟩
  have hsz : CS.size = 53 := by rw [hCS]; rfl
  have h1 : CS.all (·.oneCell') = true := by rw [hCS]; exact all_oneCell_toArray (fd_one (fdK_r w 4 n))
  have hb : Try.prog.built 43 [(0, .int .u8 4), (1, .int .i64 n)] = some CS := by rw [hCS]; exact built_feed n
  have hi : (Try.prog.info? 43).map (·.size) = some CS.size := by rw [hsz]; exact infoFdS3
  have HZ := hide (And.intro hsz (And.intro h1 (And.intro hb hi)))
  rw [← hCS]
  clear hCS hsz h1 hb hi
  go_enter Try.func15, Try.ntmps15
  go_upto_region 1 with fail
  go_step
  go_step
  go_step
  go_step
  refine wpList_buildTo (P := Try.prog) ?_ 43 #[(0, .const (.int .u8 4)), (1, .tmp 3)] ?_ (some 4) ?_ CS ?_ ?_
  · rfl
  · rfl
  · rfl
  · simp only [List.map_toArray, List.map_cons, List.map_nil, List.toList_toArray]
    exact (unhide HZ).2.2.1
  obtain ⟨W1, hW1⟩ : ∃ W, W = w.alloc (.cells fd0 43) := ⟨_, rfl⟩
  have k1 : W1.heap[w.heap.size]? = some (.cells fd0 43 (0, 0)) := by rw [hW1]; exact heap_alloc_new _ _
  have k2 : Below w.heap.size w W1 := by rw [hW1]; exact bwA _ _
  have k3 : Hid (W1 = w.alloc (.cells #[.int .u8 0, .int .i64 0, .int .i64 0, .int .i64 0, .int .i64 0, .int .i64 0, .int .i64 0, .int .i64 0, .bool false, .slice none 0 0, .slice none 0 0, .slice none 0 0, .slice none 0 0, .int .i64 0, .int .i64 0, .slice none 0 0, .int .i64 0, .int .i64 0, .int .u8 0, .int .i64 0, .int .i64 0, .int .i64 0, .int .i64 0, .int .i64 0, .bool false, .slice none 0 0, .slice none 0 0, .slice none 0 0, .slice none 0 0, .int .i64 0, .int .i64 0, .slice none 0 0, .int .i64 0, .int .i64 0, .int .i64 0, .int .i64 0, .int .i64 0, .int .i64 0, .int .i64 0, .int .i64 0, .int .i64 0, .slice none 0 0, .int .i64 0, .int .i64 0, .int .i64 0, .int .i64 0, .int .i64 0, .int .i64 0, .int .i64 0, .int .i64 0, .int .i64 0, .int .i64 0, .int .i64 0] 43)) := hW1
  rw [← unhide k3]
  clear k3 hW1
  refine wpList_store_row (P := Try.prog) ?_ 43 (.tmp 2) (.tmp 4) ?_ w.heap.size CS ?_ ?_ 43 fd0 k1 (unhide HZ).2.2.2 (by rw [(unhide HZ).1]; rfl) (unhide HZ).2.1 ?_
  · rfl
  · rfl
  · rfl
  · rfl
  have g0 : (W1.setRow w.heap.size CS).heap[w.heap.size]? = some (.cells CS 43 (0, 0)) := setRow_heap _ _ _ _ _ _ k1
  have g1 : Below w.heap.size w (W1.setRow w.heap.size CS) := below_setRow' k2 (Nat.le_refl _) _
  generalize W1.setRow w.heap.size CS = W2 at *
  clear k1 k2
  go_wp2_with fail
  exact bodyPost_ret (v := .agg CS) (results_cell_row Try.results15 _ _ w.heap.size 43 CS (0, 0) _ rfl g0 Try.underlying43 rfl (unhide HZ).2.2.2) rfl ⟨rfl, g1⟩
end Go.Proofs.Ytgiicendejgklaa

/- QueueOrder: what stands between two rounds. No walk is in this text. -/
namespace Go.Proofs.Ytgiicendejgklaa
open Go.RowKit Go.Maps
theorem order_taken {n : Nat} (hn : n < 64) : TakenP ⟨0, 1, false, (n : Int), fdK 4 (n : Int)⟩ := ⟨⟨by show (0:Int) ≤ 0; omega, by show (0:Int) < 4; omega⟩, ⟨by show (0:Int) ≤ 1; omega, by show (1:Int) < 4; omega⟩, by show (0:Int) ≤ (n : Int); omega, Or.inr ⟨rfl, by show (n : Int) < 1099511627776; omega, tell_4 (n : Int)⟩⟩
end Go.Proofs.Ytgiicendejgklaa

/- What is so of whoever does something at all (alive of layer 17): it is so. -/
namespace Go.Proofs.Ytgiicendejgklaa
open Go.RowKit Go.Maps
set_option maxRecDepth 100000 in
set_option maxHeartbeats 1000000 in
theorem alive17_any (w : World) : Calls Try.prog 14 #[] w fun e w' => e = .returned (.bool true) ∧ Below w.heap.size w w' := by
  obtain ⟨F5, hF5⟩ : ∃ z, z = (fdC (fdK 4 5) fx00).toArray := ⟨_, rfl⟩
  obtain ⟨F6, hF6⟩ : ∃ z, z = (fdC (fdK 4 6) fx00).toArray := ⟨_, rfl⟩
  have K1 : Hid (Calls Try.prog 15 #[.int .i64 5] w fun e w' => e = .returned (.agg F5) ∧ Below w.heap.size w w') := by rw [hF5]; exact feed_any 5
  have K2 : Hid (∀ W, Calls Try.prog 11 #[.slice none 0 0, .int .i64 1, .agg F5] W fun e w' => ∃ g c, e = .returned (.tuple #[.slice (some ⟨g, 0, none⟩) 1 c, .int .i64 0]) ∧ Hid (∃ xs, RdL kLk w' (.slice (some ⟨g, 0, none⟩) 1 c) [lk1] xs) ∧ Below W.heap.size W w') := fun W => by rw [hF5]; exact push1_any W
  have K3 : Hid (∀ W, Calls Try.prog 15 #[.int .i64 6] W fun e w' => e = .returned (.agg F6) ∧ Below W.heap.size W w') := fun W => by rw [hF6]; exact feed_any 6
  have K4 : Hid (∀ W v xs, RdL kLk W v [lk1] xs → Calls Try.prog 11 #[v, .int .i64 1, .agg F6] W fun e w' => ∃ g c, e = .returned (.tuple #[.slice (some ⟨g, 0, none⟩) 1 c, .int .i64 0]) ∧ Hid (∃ xs, RdL kLk w' (.slice (some ⟨g, 0, none⟩) 1 c) [lk2] xs) ∧ Below W.heap.size W w') := fun W v xs h => by rw [hF6]; exact push2_any h
  clear hF5 hF6
  go_enter Try.func14, Try.ntmps14
  go_wp2_with fail
  refine (unhide K1).mono ?_
  rintro e w1 ⟨rfl, b1⟩
  have HB1 := hide b1
  clear K1 b1
  go_wp2_with fail
  refine (unhide K2 w1).mono ?_
  rintro e w2 ⟨ga, ca, rfl, ha, b2⟩
  have HB2 := hide (bw_tr (unhide HB1) b2)
  clear K2 b2 HB1
  go_wp2_with fail
  refine (unhide K3 w2).mono ?_
  rintro e w3 ⟨rfl, b3⟩
  have HB3 := hide (bw_tr (unhide HB2) b3)
  obtain ⟨xa, ha2⟩ := unhide ha
  have KP := hide (unhide K4 w3 _ xa (ha2.bw b3))
  clear K3 K4 b3 HB2 ha ha2
  go_wp2_with fail
  refine (unhide KP).mono ?_
  rintro e w4 ⟨gb, cb, rfl, hb, b4⟩
  have HB4 := hide (bw_tr (unhide HB3) b4)
  have HLB := hb
  have KS : Hid (Calls Try.prog 16 #[.slice (some ⟨gb, 0, none⟩) 1 cb, .int .i64 0] w4 fun e w' => ∃ g c, e = .returned (.tuple #[.slice (some ⟨g, 0, none⟩) 2 c, .int .i64 0]) ∧ Hid (∃ ys, OwL kPk w4.heap.size w' (.slice (some ⟨g, 0, none⟩) 2 c) [pkA, pkB] ys) ∧ Below w4.heap.size w4 w') := by
    obtain ⟨xs, h⟩ := unhide hb
    exact sends2_any h
  clear KP b4 HB3 hb
  go_wp2_with fail
  refine (unhide KS).mono ?_
  rintro e w5 ⟨gp, cp, rfl, hp, b5⟩
  have HB5 := hide (bw_tr (unhide HB4) b5)
  obtain ⟨ys, hp2⟩ := unhide hp
  have hyl : ys.length = 2 := hp2.xl
  obtain ⟨yA, yB, rfl⟩ : ∃ a b, ys = [a, b] := by
    match ys, hyl with
    | [a, b], _ => exact ⟨a, b, rfl⟩
  have hrA : w5.rangeAt gp 0 (ptC pkA yA) := fun j u hj => by
    rw [Nat.zero_add]
    exact own_cell hp2.row rfl (by have := cellK_get (K := kPk) (l := [pkA, pkB]) (xs := [yA, yB]) (i := 0) rfl rfl hj; simpa using this)
  have hrB : w5.rangeAt gp 57 (ptC pkB yB) := fun j u hj => by
    exact own_cell hp2.row rfl (by have := cellK_get (K := kPk) (l := [pkA, pkB]) (xs := [yA, yB]) (i := 1) rfl rfl hj; rw [Nat.one_mul] at this; exact this)
  have hfA : FdR w5 (fdK 4 5) yA := OF.rd (hp2.el 0 pkA yA rfl rfl) (fdK_s 4 5)
  have hfB : FdR w5 (fdK 4 6) yB := OF.rd (hp2.el 1 pkB yB rfl rfl) (fdK_s 4 6)
  have d1 : w5.cell? ⟨gp, 60, none⟩ = some (.int .i64 1) := hrB 3 _ rfl
  have d2 : w5.cell? ⟨gp, 62, none⟩ = some (.int .i64 6) := hrB 5 _ rfl
  obtain ⟨PA, hPA⟩ : ∃ z, z = ptC pkA yA := ⟨_, rfl⟩
  obtain ⟨PB, hPB⟩ : ∃ z, z = ptC pkB yB := ⟨_, rfl⟩
  have HLB5 : Hid (∃ xs, RdL kLk w5 (.slice (some ⟨gb, 0, none⟩) 1 cb) [lk2] xs) := by
    obtain ⟨xs, h⟩ := unhide HLB
    exact ⟨xs, h.bw b5⟩
  have HRA : Hid (∀ W, Below w5.heap.size w5 W → W.rangeAt gp 0 PA) := fun W hW => by rw [hPA]; exact rng_bw hrA hW
  have HRB : Hid (w5.rangeAt gp 57 PB) := by rw [hPB]; exact hrB
  have HIA : Hid ((Try.prog.info? 45).map (·.size) = some PA.length) := by rw [hPA]; exact infoPkS
  have HIB : Hid ((Try.prog.info? 45).map (·.size) = some PB.length) := by rw [hPB]; exact infoPkS
  have KB : Hid (Calls Try.prog 12 #[.slice none 0 0, .agg PB.toArray] w5 fun e w' => ∃ v1 a2 c2 g o c3, e = .returned (.tuple #[v1, .slice a2 0 c2, .slice (some ⟨g, o, none⟩) 1 c3, .int .i64 0]) ∧ w'.cell? ⟨g, o + 3, none⟩ = some (.int .i64 0) ∧ Hid (∃ xs, RdL kLk w' v1 [lk3] xs) ∧ Below w5.heap.size w5 w') := by
    rw [hPB]; exact takeB_any hfB
  have KA : Hid (∀ W v xs, Below w5.heap.size w5 W → RdL kLk W v [lk3] xs → Calls Try.prog 12 #[v, .agg PA.toArray] W fun e w' => ∃ a1 c1 g2 o2 c2 g o c3 y3, e = .returned (.tuple #[.slice a1 1 c1, .slice (some ⟨g2, o2, none⟩) 2 c2, .slice (some ⟨g, o, none⟩) 1 c3, .int .i64 0]) ∧ w'.cell? ⟨g2, o2 + 53 + 1, none⟩ = some (.int .i64 6) ∧ w'.rangeAt g o (ptC bkB y3) ∧ FdR w' (fdK 0 0) y3 ∧ Below W.heap.size W w') := fun W v xs hW h => by
    rw [hPA]; exact takeA_any h (hfA.bw hW)
  clear KS b5 HB4 HLB hp hp2 hyl hrA hrB hfA hfB hPA hPB
  go_wp2_with (refine wpList_load_mid rfl 45 (.tmp 67) rfl gp 57 (by simp [Act.eval]) PB _ (unhide HRB) Try.underlying45 rfl (unhide HIB) ?_)
  refine (unhide KB).mono ?_
  rintro e w6 ⟨v1, a2, c2, g3, o3, c3, rfl, e1, hx, b6⟩
  have HB6 := hide b6
  obtain ⟨xx, hx2⟩ := unhide hx
  have KA2 := hide (unhide KA w6 v1 xx b6 hx2)
  have HRA6 := hide (unhide HRA w6 b6)
  have HLB6 : Hid (∃ xs, RdL kLk w6 (.slice (some ⟨gb, 0, none⟩) 1 cb) [lk2] xs) := by
    obtain ⟨xs, h⟩ := unhide HLB5
    exact ⟨xs, h.bw b6⟩
  have HB6W := hide (bw_tr (unhide HB5) b6)
  clear KB KA HRA HRB HIB b6 HB6 hx hx2 HLB5 d1 d2 HB5
  go_wp2_with (refine wpList_load_mid rfl 45 (.tmp 77) rfl gp 0 (by simp [Act.eval]) PA _ (unhide HRA6) Try.underlying45 rfl (unhide HIA) ?_)
  refine (unhide KA2).mono ?_
  rintro e w7 ⟨a4, c4, g5, o5, c5, g6, o6, c6, y3, rfl, m1, m2, m3, b7⟩
  have e17 : w7.cell? ⟨g3, o3 + 3, none⟩ = some (.int .i64 0) := by rw [b7.cell (lt_of_cell e1)]; exact e1
  have m4 : w7.cell? ⟨g6, o6 + 3, none⟩ = some (.int .i64 2) := m2 3 _ rfl
  have HLB7 : Hid (∃ xs, RdL kLk w7 (.slice (some ⟨gb, 0, none⟩) 1 cb) [lk2] xs) := by
    obtain ⟨xs, h⟩ := unhide HLB6
    exact ⟨xs, h.bw b7⟩
  have HB7W := hide (bw_tr (unhide HB6W) b7)
  obtain ⟨PK, hPK⟩ : ∃ z, z = ptC bkB y3 := ⟨_, rfl⟩
  have HRK : Hid (w7.rangeAt g6 o6 PK) := by rw [hPK]; exact m2
  have HIK : Hid ((Try.prog.info? 45).map (·.size) = some PK.length) := by rw [hPK]; exact infoPkS
  have KK : Hid (Calls Try.prog 12 #[.slice (some ⟨gb, 0, none⟩) 1 cb, .agg PK.toArray] w7 fun e w' => ∃ g o c1 a2 c2 v2 v3, e = .returned (.tuple #[.slice (some ⟨g, o, none⟩) 1 c1, v2, v3, .int .i64 0]) ∧ w'.cell? ⟨g, o + 2, none⟩ = some (.slice a2 0 c2) ∧ Below w7.heap.size w7 w') := by
    obtain ⟨xs, h⟩ := unhide HLB7
    rw [hPK]; exact takeK_any h m3
  clear KA2 HRA6 HIA e1 m2 m3 b7 HLB6 HLB7 HB6W hPK
  go_wp2_with (refine wpList_load_mid rfl 45 (.tmp 139) rfl g6 o6 (by simp [Act.eval]) PK _ (unhide HRK) Try.underlying45 rfl (unhide HIK) ?_)
  refine (unhide KK).mono ?_
  rintro e w8 ⟨g8, o8, c8, a9, c9, v2, v3, rfl, n1, b8⟩
  have HB8W := hide (bw_tr (unhide HB7W) b8)
  clear KK HRK HIK b8 HB7W e17 m1 m4
  go_wp2_with fail
  go_ret
  exact ⟨rfl, unhide HB8W⟩
end Go.Proofs.Ytgiicendejgklaa
