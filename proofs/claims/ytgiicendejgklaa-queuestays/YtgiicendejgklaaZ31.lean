/- Texts joined: QuSt QuLv QuLw QuLx QuLy QuLawStays. -/
import Derived.Test.YtgiicendejgklaaZ29
import Derived.Test.YtgiicendejgklaaQuTa
import Derived.Test.YtgiicendejgklaaQuR
import Derived.Test.YtgiicendejgklaaZ28
import Derived.Great.BuildSlice
import Derived.Deep.RegionHeld3
/- Links that something was told to, or a packet came to, may be (QueueStays, plainly). No walk is in this text. -/
namespace Go.Proofs.Ytgiicendejgklaa
open Go.RowKit Go.Maps
theorem push_ok {l L : List Lk} {k : Nat} {q : Lk} {f : Fd} {peer : Int} (hm : okLs l) (ht : tellP f) (hp : 0 ≤ peer ∧ peer < 4) (hL : Lnk l peer k L) (hq : L[k]? = some q) (h1 : q.q.length ≠ 1024) (h2 : q.nx ≠ 1099511627776) : okLs (L.set k { q with q := q.q ++ [f], nx := q.nx + 1 }) := by
  have hok := hL.ok hm hp
  obtain ⟨⟨_, hs, he⟩, _⟩ := hok k q hq
  refine okLs_set (q' := { q with q := q.q ++ [f], nx := q.nx + 1 }) hok hq rfl ⟨?_, ?_, ?_, fun x hx => ?_⟩ he
  · show q.nx + 1 ≤ _; have := hs.1; omega
  · show (q.q ++ [f]).length ≤ 1024; rw [List.length_append, List.length_singleton]; have := hs.2.1; omega
  · show ((q.q ++ [f]).length : Int) ≤ q.nx + 1; rw [List.length_append, List.length_singleton]; have := hs.2.2.1; omega
  · have hx : x ∈ q.q ++ [f] := hx
    rcases List.mem_append.1 hx with c | c
    · exact hs.2.2.2 x c
    · simp only [List.mem_cons, List.not_mem_nil, or_false] at c; subst c; exact ht
theorem ack_ok {l L : List Lk} {k : Nat} {q : Lk} {sq peer : Int} (hm : okLs l) (hp : 0 ≤ peer ∧ peer < 4) (hL : Lnk l peer k L) (hq : L[k]? = some q) : okLs (L.set k (ackL q sq)) := by
  have hok := hL.ok hm hp
  obtain ⟨⟨_, hs, he⟩, _⟩ := hok k q hq
  refine okLs_set (q' := ackL q sq) hok hq rfl ⟨hs.1, ?_, ?_, fun x hx => hs.2.2.2 x (List.mem_of_mem_drop hx)⟩ he
  · show (q.q.drop _).length ≤ 1024; rw [List.length_drop]; have := hs.2.1; omega
  · show ((q.q.drop _).length : Int) ≤ q.nx; rw [List.length_drop]; have := hs.2.2.1; omega
theorem turn_exp {q q' : Lk} {e : Er} {T : List Fd} (he : ExpP q) (h : TurnP q e q' T) (hs0 : 0 ≤ e.sq) (hs1 : e.sq < 1099511627776) (ht : tellP e.fd) : ExpP q' := by
  rcases h with ⟨_, rfl, _⟩ | ⟨hw, j, hj, hp, rfl, _⟩
  · exact he
  · obtain ⟨x0, x1, xl, xe⟩ := he
    obtain ⟨r1, r2⟩ := exp_rise q.ea (fun i a ha => (xe i a ha).1)
    have hmem : ∀ a ∈ insAt q.ea j e, q.ex ≤ a.sq ∧ a.sq < 1099511627776 ∧ tellP a.fd := fun a ha => by
      rcases ins_mem ha with c | c
      · subst c
        refine ⟨?_, hs1, ht⟩
        rcases hw with d | d
        · omega
        · omega
      · obtain ⟨i, hi, ei⟩ := List.getElem_of_mem c
        have := xe i a (by rw [← ei]; exact List.getElem?_eq_getElem hi)
        exact ⟨by have := r2 a c; omega, this.2.1, this.2.2⟩
    obtain ⟨R, hR⟩ : ∃ R, R = runE (fun a : Er => a.sq) q.ex (insAt q.ea j e) := ⟨_, rfl⟩
    obtain ⟨k1, k2, k3, k4⟩ := runE_ok (fun a : Er => a.sq) (insAt q.ea j e) q.ex hp (fun a ha => (hmem a ha).1)
    rw [← hR] at k1 k2 k3 k4
    have hlen : R.1.length + R.2.2.length = q.ea.length + 1 := by
      rw [← List.length_append, ← k1, insAt_len]
    have hkm : ∀ a ∈ R.2.2, a ∈ insAt q.ea j e := fun a ha => by rw [k1]; exact List.mem_append_right _ ha
    have hei : e ∈ insAt q.ea j e := by unfold insAt; simp
    rw [← hR]
    show ExpP { q with ex := R.2.1, ea := R.2.2 }
    have hx' : R.2.1 ≤ 1099511627776 := by
      rcases Nat.eq_zero_or_pos R.1.length with c | c
      · rw [k2, c]; simpa using x1
      · have hl : R.1.length - 1 < R.1.length := by omega
        have h4 := k4 (R.1.length - 1) _ (List.getElem?_eq_getElem hl)
        have h5 := (hmem R.1[R.1.length - 1] (by rw [k1]; exact List.mem_append_left _ (List.getElem_mem hl))).2.1
        have h6 : R.1[R.1.length - 1].sq = q.ex + ((R.1.length - 1 : Nat) : Int) := h4
        omega
    refine ⟨by show 0 ≤ R.2.1; omega, hx', ?_, fun i a ha => ?_⟩
    · show R.2.2.length ≤ 1024
      rcases hw with d | d
      · have : R.1.length ≠ 0 := fun c => by
          have c2 : R.1 = [] := List.eq_nil_of_length_eq_zero c
          rw [c2, List.nil_append] at k1
          rw [k1] at hei
          have h7 : R.2.1 < e.sq := k3 e hei
          rw [k2, c] at h7
          simp at h7
          omega
        omega
      · have := d.2.2.1
        omega
    · have ha : R.2.2[i]? = some a := ha
      have hm := hmem a (hkm a (List.mem_of_getElem? ha))
      refine ⟨?_, hm.2.1, hm.2.2⟩
      show pvE R.2.1 R.2.2 i < a.sq
      unfold pvE
      by_cases c : i = 0
      · rw [if_pos c]; exact k3 a (List.mem_of_getElem? ha)
      · rw [if_neg c]
        have hi := (List.getElem?_eq_some_iff.1 ha).1
        have hi1 : i - 1 < R.2.2.length := by omega
        rw [List.getElem?_eq_getElem hi1]
        have hpk : R.2.2.Pairwise (fun a b => a.sq < b.sq) := by
          rw [k1] at hp
          exact (List.pairwise_append.1 hp).2.1
        have := List.pairwise_iff_getElem.1 hpk (i - 1) i hi1 hi (by omega)
        rw [(List.getElem?_eq_some_iff.1 ha).2] at this
        exact this
theorem turn_pe {q q' : Lk} {e : Er} {T : List Fd} (h : TurnP q e q' T) : q'.pe = q.pe ∧ q'.q = q.q ∧ q'.nx = q.nx := by
  rcases h with ⟨_, rfl, _⟩ | ⟨_, _, _, _, rfl, _⟩ <;> exact ⟨rfl, rfl, rfl⟩
theorem turn_ok {l L : List Lk} {k : Nat} {q q' : Lk} {e : Er} {T : List Fd} {peer : Int} (hm : okLs l) (hp : 0 ≤ peer ∧ peer < 4) (hL : Lnk l peer k L) (hq : L[k]? = some q) (h : TurnP q e q' T) (hs0 : 0 ≤ e.sq) (hs1 : e.sq < 1099511627776) (ht : tellP e.fd) : okLs (L.set k q') := by
  have hok := hL.ok hm hp
  obtain ⟨⟨_, hs, he⟩, _⟩ := hok k q hq
  obtain ⟨e1, e2, e3⟩ := turn_pe h
  exact okLs_set hok hq e1 (by unfold SendP; rw [e2, e3]; exact hs) (turn_exp he h hs0 hs1 ht)
theorem mem_sumQ {α : Type} {f : α → Nat} {l : List α} {a : α} (h : a ∈ l) : f a ≤ (l.map f).foldr (· + ·) 0 := by
  induction l with
  | nil => cases h
  | cons b m ih =>
    simp only [List.map_cons, List.foldr_cons]
    rcases List.mem_cons.1 h with c | c
    · subst c; omega
    · have := ih c; omega
theorem lks_of {w : World} {v : Value} {l : List Lk} {xs : List Lx} (h : RdL kLw w v l xs) (hn : l.length + lsN17 l ≤ 262144) : RdL kLk w v l xs := by
  refine ⟨h.xl, fun i b x hb hx => ?_, h.form⟩
  have hw : LkW w b x := h.el i b x hb hx
  have h1 : lkN b ≤ lsN17 l := mem_sumQ (f := lkN) (List.mem_of_getElem? hb)
  unfold lkN at h1
  have sq : ∀ f ∈ b.q, fdN f ≤ 1048576 := fun f hf => by have : fdN f ≤ fsN b.q := mem_sumQ (f := fdN) hf; omega
  have se : ∀ f ∈ b.ea, fdN f.fd ≤ 1048576 := fun f hf => by have : fdN f.fd ≤ esN b.ea := mem_sumQ (f := fun e : Er => fdN e.fd) hf; omega
  have rq : ∀ (i : Nat) f y, b.q[i]? = some f → x.qx[i]? = some y → FdR w f y ∧ SmF f := fun i f y hf hy => by
    have h2 : FdR w f y ∧ fdB f := hw.q.el i f y hf hy
    exact ⟨h2.1, smF_of h2 (sq f (List.mem_of_getElem? hf))⟩
  have re : ∀ (i : Nat) f y, b.ea[i]? = some f → x.ex[i]? = some y → FdR w f.fd y ∧ SmF f.fd := fun i f y hf hy => by
    have h2 : FdR w f.fd y ∧ fdB f.fd := hw.e.el i f y hf hy
    exact ⟨h2.1, smF_of h2 (se f (List.mem_of_getElem? hf))⟩
  refine ⟨⟨⟨hw.q.xl, rq, hw.q.form⟩, ⟨hw.e.xl, re, hw.e.form⟩⟩, by omega, by omega, fun f hf => ?_, fun f hf => ?_⟩
  · obtain ⟨i, hi, e⟩ := List.getElem_of_mem hf
    have hx2 : i < x.qx.length := by rw [hw.q.xl]; exact hi
    exact (rq i f _ (by rw [← e]; exact List.getElem?_eq_getElem hi) (List.getElem?_eq_getElem hx2)).2
  · obtain ⟨i, hi, e⟩ := List.getElem_of_mem hf
    have hx2 : i < x.ex.length := by rw [hw.e.xl]; exact hi
    exact (re i f _ (by rw [← e]; exact List.getElem?_eq_getElem hi) (List.getElem?_eq_getElem hx2)).2
theorem check0_any {w : World} {v : Value} {l : List Lk} {xs : List Lx} (h : RdL kLk w v l xs) (ho : okLs l) (hl : l.length ≤ 1073741824) : Calls Try.prog 13 #[v] w fun e w' => e = .returned (.int .i64 0) ∧ Below w.heap.size w w' := by
  refine Calls.mono (quCheck_any h hl (r := true) ⟨fun _ => ho, fun _ => rfl⟩) ?_
  rintro e w' ⟨rfl, hb⟩
  exact ⟨rfl, hb⟩
end Go.Proofs.Ytgiicendejgklaa

/- What is so of whoever does something at all (alive of layer 17): its feeds, and what comes of them, plainly. -/
namespace Go.Proofs.Ytgiicendejgklaa
open Go.RowKit Go.Maps
theorem built_feed (n : Int) : Try.prog.built 43 [(0, .int .u8 4), (1, .int .i64 n)] = some (fdC (fdK 4 n) fx00).toArray := by kernel_rfl
def lk1 : Lk := ⟨1, 1, [fdK 4 5], 0, []⟩
def lk2 : Lk := ⟨1, 2, [fdK 4 5, fdK 4 6], 0, []⟩
def lk3 : Lk := ⟨0, 0, [], 0, [⟨1, fdK 4 6⟩]⟩
def lk4 : Lk := ⟨0, 0, [], 2, []⟩
def lk5 : Lk := ⟨1, 2, [], 0, []⟩
def pkA : Pt := ⟨0, 1, false, 0, fdK 4 5⟩
def pkB : Pt := ⟨0, 1, false, 1, fdK 4 6⟩
def bkB : Pt := ⟨1, 0, true, 2, fdK 0 0⟩
theorem tell_4 (n : Int) : tellP (fdK 4 n) := ⟨by show (1 : Int) ≤ 4; decide, by show (4 : Int) ≤ 6; decide⟩
theorem ok_nil : okLs [] := fun j k hk => by simp at hk
theorem ok_one {k : Lk} (h1 : 0 ≤ k.pe ∧ k.pe < 4) (h2 : SendP k) (h3 : ExpP k) : okLs [k] := fun j q hq => by
  cases j with
  | zero => simp only [List.getElem?_cons_zero, Option.some.injEq] at hq; subst hq; exact ⟨⟨h1, h2, h3⟩, fun _ _ hi => by omega⟩
  | succ j => simp at hq
theorem Lnk.none {p : Int} {k : Nat} {L : List Lk} (h : Lnk [] p k L) : k = 0 ∧ L = [nlk p] := by
  have hk : k = 0 := by have := h.1.le; simpa using this
  subst hk
  rcases h.2 with ⟨_, q, hq, _⟩ | ⟨e, _⟩
  · simp at hq
  · exact ⟨rfl, by rw [e]; rfl⟩
theorem Lnk.one {q : Lk} {k : Nat} {L : List Lk} (h : Lnk [q] q.pe k L) : k = 0 ∧ L = [q] := by
  have hk : k = 0 := by
    rcases Nat.eq_zero_or_pos k with c | c
    · exact c
    · have := h.1.lo 0 q c rfl; omega
  subst hk
  rcases h.2 with ⟨e, _⟩ | ⟨_, hn⟩
  · exact ⟨rfl, e⟩
  · exact absurd rfl (hn q rfl)
theorem send_1 : SendP lk1 := ⟨by decide, by decide, by decide, by intro f hf; simp [lk1] at hf; subst hf; exact tell_4 5⟩
theorem send_2 : SendP lk2 := ⟨by decide, by decide, by decide, by intro f hf; simp [lk2] at hf; rcases hf with rfl | rfl <;> exact tell_4 _⟩
theorem exp_0 {k : Lk} (h : k.ex = 0) (he : k.ea = []) : ExpP k := ⟨by omega, by omega, by rw [he]; simp, fun i e hi => by rw [he] at hi; simp at hi⟩
theorem ok_1 : okLs [lk1] := ok_one ⟨by decide, by decide⟩ send_1 (exp_0 rfl rfl)
theorem ok_2 : okLs [lk2] := ok_one ⟨by decide, by decide⟩ send_2 (exp_0 rfl rfl)
theorem ok_3 : okLs [lk3] := by
  refine ok_one ⟨by decide, by decide⟩ ⟨by decide, by decide, by decide, by intro f hf; simp [lk3] at hf⟩ ⟨by decide, by decide, by decide, fun i e hi => ?_⟩
  cases i with
  | zero => simp only [lk3, List.getElem?_cons_zero, Option.some.injEq] at hi; subst hi; exact ⟨by decide, by decide, tell_4 6⟩
  | succ i => simp [lk3] at hi
theorem taken_A : TakenP pkA := ⟨⟨by decide, by decide⟩, ⟨by decide, by decide⟩, by decide, Or.inr ⟨rfl, by decide, tell_4 5⟩⟩
theorem taken_B : TakenP pkB := ⟨⟨by decide, by decide⟩, ⟨by decide, by decide⟩, by decide, Or.inr ⟨rfl, by decide, tell_4 6⟩⟩
theorem taken_K : TakenP bkB := ⟨⟨by decide, by decide⟩, ⟨by decide, by decide⟩, by decide, Or.inl ⟨rfl, by decide⟩⟩
theorem snd_2 : sndL 0 [lk2] = [pkA, pkB] := rfl
theorem turn_B {q' : Lk} {T : List Fd} (h : TurnP (nlk 0) ⟨1, fdK 4 6⟩ q' T) : q' = lk3 ∧ T = [] := by
  rcases h with ⟨hn, _⟩ | ⟨_, j, hj, _, e1, e2⟩
  · exact absurd (Or.inr ⟨by decide, by decide, by decide, fun i e hi => by simp [nlk] at hi⟩) hn
  · have hj0 : j = 0 := by simpa [nlk] using hj
    subst hj0
    exact ⟨by rw [e1]; rfl, by rw [e2]; rfl⟩
theorem turn_A {q' : Lk} {T : List Fd} (h : TurnP lk3 ⟨0, fdK 4 5⟩ q' T) : q' = lk4 ∧ T = [fdK 4 5, fdK 4 6] := by
  rcases h with ⟨hn, _⟩ | ⟨_, j, hj, hp, e1, e2⟩
  · exact absurd (Or.inl rfl) hn
  · have hj1 : j ≤ 1 := hj
    have hj0 : j = 0 := by
      rcases Nat.eq_zero_or_pos j with c | c
      · exact c
      · obtain rfl : j = 1 := by omega
        have hp2 : ([⟨1, fdK 4 6⟩, ⟨0, fdK 4 5⟩] : List Er).Pairwise (fun a b => a.sq < b.sq) := hp
        simp at hp2
    subst hj0
    exact ⟨by rw [e1]; rfl, by rw [e2]; rfl⟩
end Go.Proofs.Ytgiicendejgklaa

/- What each call of alive (layer 17) answers. -/
namespace Go.Proofs.Ytgiicendejgklaa
open Go.RowKit Go.Maps
theorem push1_any (W : World) : Calls Try.prog 11 #[.slice none 0 0, .int .i64 1, .agg (fdC (fdK 4 5) fx00).toArray] W fun e w' => ∃ g c, e = .returned (.tuple #[.slice (some ⟨g, 0, none⟩) 1 c, .int .i64 0]) ∧ Hid (∃ xs, RdL kLk w' (.slice (some ⟨g, 0, none⟩) 1 c) [lk1] xs) ∧ Below W.heap.size W w' := by
  refine Calls.mono (push_any (rdl_nil kLk W) (by simp) (fdK_r W 4 5) (fdK_s 4 5) 1) ?_
  rintro e w' ⟨v', er, rfl, hb, hq⟩
  rcases hq with ⟨_, hn, _⟩ | ⟨_, _, _, k, L, q, hL, hk, hq⟩
  · exact absurd ⟨ok_nil, tell_4 5, by decide, by decide⟩ hn
  · obtain ⟨rfl, rfl⟩ := hL.none
    simp only [List.getElem?_cons_zero, Option.some.injEq] at hk
    subst hk
    rcases hq with ⟨_, hn, _⟩ | ⟨rfl, _, _, xs', ho⟩
    · rcases hn with hn | hn
      · simp [nlk] at hn
      · exact absurd hn (by decide)
    · have ho : OwL kLk W.heap.size w' v' [lk1] xs' := ho
      obtain ⟨g, c, hv, _⟩ := own_open ho.row (by simp)
      subst hv
      exact ⟨g, c, rfl, ⟨xs', OwL.lks ho (fun b hb => by
        simp only [List.mem_cons, List.not_mem_nil, or_false] at hb; subst hb
        exact ⟨by decide, by decide, by intro f hf; simp [lk1] at hf; subst hf; exact fdK_s 4 5, by intro f hf; simp [lk1] at hf⟩)⟩, hb⟩
theorem push2_any {W : World} {v : Value} {xs : List Lx} (h : RdL kLk W v [lk1] xs) : Calls Try.prog 11 #[v, .int .i64 1, .agg (fdC (fdK 4 6) fx00).toArray] W fun e w' => ∃ g c, e = .returned (.tuple #[.slice (some ⟨g, 0, none⟩) 1 c, .int .i64 0]) ∧ Hid (∃ xs, RdL kLk w' (.slice (some ⟨g, 0, none⟩) 1 c) [lk2] xs) ∧ Below W.heap.size W w' := by
  refine Calls.mono (push_any h (by simp) (fdK_r W 4 6) (fdK_s 4 6) 1) ?_
  rintro e w' ⟨v', er, rfl, hb, hq⟩
  rcases hq with ⟨_, hn, _⟩ | ⟨_, _, _, k, L, q, hL, hk, hq⟩
  · exact absurd ⟨ok_1, tell_4 6, by decide, by decide⟩ hn
  · obtain ⟨rfl, rfl⟩ := Lnk.one (q := lk1) hL
    simp only [List.getElem?_cons_zero, Option.some.injEq] at hk
    subst hk
    rcases hq with ⟨_, hn, _⟩ | ⟨rfl, _, _, xs', ho⟩
    · rcases hn with hn | hn
      · exact absurd hn (by decide)
      · exact absurd hn (by decide)
    · have ho : OwL kLk W.heap.size w' v' [lk2] xs' := ho
      obtain ⟨g, c, hv, _⟩ := own_open ho.row (by simp)
      subst hv
      exact ⟨g, c, rfl, ⟨xs', OwL.lks ho (fun b hb => by
        simp only [List.mem_cons, List.not_mem_nil, or_false] at hb; subst hb
        exact ⟨by decide, by decide, by intro f hf; simp [lk2] at hf; rcases hf with rfl | rfl <;> exact fdK_s _ _, by intro f hf; simp [lk2] at hf⟩)⟩, hb⟩
theorem sends2_any {W : World} {v : Value} {xs : List Lx} (h : RdL kLk W v [lk2] xs) : Calls Try.prog 16 #[v, .int .i64 0] W fun e w' => ∃ g c, e = .returned (.tuple #[.slice (some ⟨g, 0, none⟩) 2 c, .int .i64 0]) ∧ Hid (∃ ys, OwL kPk W.heap.size w' (.slice (some ⟨g, 0, none⟩) 2 c) [pkA, pkB] ys) ∧ Below W.heap.size W w' := by
  refine Calls.mono (sends_any h (by simp) 0) ?_
  rintro e w' ⟨v', er, rfl, hb, hq⟩
  rcases hq with ⟨_, hn, _⟩ | ⟨rfl, _, _, xs', ho⟩
  · exact absurd ⟨ok_2, by decide, by decide⟩ hn
  · rw [snd_2] at ho
    obtain ⟨g, c, hv, _⟩ := own_open ho.row (by simp)
    subst hv
    exact ⟨g, c, rfl, ⟨xs', ho⟩, hb⟩
theorem rdl_form {α ξ : Type} {K : EK α ξ} {w : World} {v : Value} {a : α} {xs : List ξ} (h : RdL K w v [a] xs) : ∃ g o c x, v = .slice (some ⟨g, o, none⟩) 1 c ∧ w.rangeAt g o (K.C a x) ∧ K.R w a x := by
  obtain ⟨ad, c, rfl⟩ := rdl_slice h
  obtain ⟨a', x, g, o, rfl, h1, _, h3, h4⟩ := rdl_at h (i := 0) (by simp)
  simp only [List.getElem?_cons_zero, Option.some.injEq] at h1
  subst h1
  exact ⟨g, o, c, x, rfl, by simpa using h4, h3⟩
theorem takeB_any {W : World} {y : Fx} (h : FdR W (fdK 4 6) y) : Calls Try.prog 12 #[.slice none 0 0, .agg (ptC pkB y).toArray] W fun e w' => ∃ v1 a2 c2 g o c3, e = .returned (.tuple #[v1, .slice a2 0 c2, .slice (some ⟨g, o, none⟩) 1 c3, .int .i64 0]) ∧ w'.cell? ⟨g, o + 3, none⟩ = some (.int .i64 0) ∧ Hid (∃ xs, RdL kLk w' v1 [lk3] xs) ∧ Below W.heap.size W w' := by
  refine Calls.mono (take_any (p := pkB) (rdl_nil kLk W) (by simp) h (fdK_s 4 6)) ?_
  rintro e w' ⟨v', tv, bv, er, rfl, hb, hq⟩
  rcases hq with ⟨_, hn, _⟩ | ⟨rfl, _, _, k, L, q, hL, hk, hq⟩
  · rcases hn with hn | ⟨_, _, hn, _⟩
    · exact absurd ⟨ok_nil, taken_B⟩ hn
    · exact absurd hn (by decide)
  · obtain ⟨rfl, rfl⟩ := hL.none
    simp only [List.getElem?_cons_zero, Option.some.injEq] at hk
    subst hk
    rcases hq with ⟨hn, _⟩ | ⟨_, q', T, xs', tx, bx, ht, h1, h2, h3⟩
    · exact absurd hn (by decide)
    · replace h1 := h1.rd
      replace h2 := h2.rd
      replace h3 := h3.rd
      obtain ⟨rfl, rfl⟩ := turn_B ht
      obtain ⟨a2, c2, rfl⟩ := rdl_slice h2
      obtain ⟨g, o, c3, x3, rfl, hr, _⟩ := rdl_form h3
      exact ⟨v', a2, c2, g, o, c3, rfl, hr 3 _ rfl, ⟨xs', h1⟩, hb⟩
theorem takeA_any {W : World} {y : Fx} {v : Value} {xs : List Lx} (hl : RdL kLk W v [lk3] xs) (h : FdR W (fdK 4 5) y) : Calls Try.prog 12 #[v, .agg (ptC pkA y).toArray] W fun e w' => ∃ a1 c1 g2 o2 c2 g o c3 y3, e = .returned (.tuple #[.slice a1 1 c1, .slice (some ⟨g2, o2, none⟩) 2 c2, .slice (some ⟨g, o, none⟩) 1 c3, .int .i64 0]) ∧ w'.cell? ⟨g2, o2 + 53 + 1, none⟩ = some (.int .i64 6) ∧ w'.rangeAt g o (ptC bkB y3) ∧ FdR w' (fdK 0 0) y3 ∧ Below W.heap.size W w' := by
  refine Calls.mono (take_any (p := pkA) hl (by simp) h (fdK_s 4 5)) ?_
  rintro e w' ⟨v', tv, bv, er, rfl, hb, hq⟩
  rcases hq with ⟨_, hn, _⟩ | ⟨rfl, _, _, k, L, q, hL, hk, hq⟩
  · rcases hn with hn | ⟨_, _, hn, _⟩
    · exact absurd ⟨ok_3, taken_A⟩ hn
    · exact absurd hn (by decide)
  · obtain ⟨rfl, rfl⟩ := Lnk.one (q := lk3) hL
    simp only [List.getElem?_cons_zero, Option.some.injEq] at hk
    subst hk
    rcases hq with ⟨hn, _⟩ | ⟨_, q', T, xs', tx, bx, ht, h1, h2, h3⟩
    · exact absurd hn (by decide)
    · replace h1 := h1.rd
      replace h2 := h2.rd
      replace h3 := h3.rd
      obtain ⟨rfl, rfl⟩ := turn_A ht
      obtain ⟨a1, c1, rfl⟩ := rdl_slice h1
      obtain ⟨a2, c2, rfl⟩ := rdl_slice h2
      obtain ⟨f, x2, g2, o2, rfl, e2, _, _, r2⟩ := rdl_at h2 (i := 1) (by simp)
      obtain ⟨g, o, c3, x3, rfl, hr, hf3⟩ := rdl_form h3
      have e3 : fdK 4 6 = f := by simpa using e2
      subst e3
      exact ⟨a1, c1, g2, o2, c2, g, o, c3, x3, rfl, by have h4 := r2 1 _ rfl; rw [Nat.one_mul] at h4; exact h4, hr, hf3.1, hb⟩
theorem takeK_any {W : World} {y : Fx} {v : Value} {xs : List Lx} (hl : RdL kLk W v [lk2] xs) (h : FdR W (fdK 0 0) y) : Calls Try.prog 12 #[v, .agg (ptC bkB y).toArray] W fun e w' => ∃ g o c1 a2 c2 v2 v3, e = .returned (.tuple #[.slice (some ⟨g, o, none⟩) 1 c1, v2, v3, .int .i64 0]) ∧ w'.cell? ⟨g, o + 2, none⟩ = some (.slice a2 0 c2) ∧ Below W.heap.size W w' := by
  refine Calls.mono (take_any (p := bkB) hl (by simp) h (fdK_s 0 0)) ?_
  rintro e w' ⟨v', tv, bv, er, rfl, hb, hq⟩
  rcases hq with ⟨_, hn, _⟩ | ⟨rfl, _, _, k, L, q, hL, hk, hq⟩
  · rcases hn with hn | ⟨_, _, _, k, L, q, hL, hk, hn⟩
    · exact absurd ⟨ok_2, taken_K⟩ hn
    · obtain ⟨rfl, rfl⟩ := Lnk.one (q := lk2) hL
      simp only [List.getElem?_cons_zero, Option.some.injEq] at hk
      subst hk
      exact absurd hn (by decide)
  · obtain ⟨rfl, rfl⟩ := Lnk.one (q := lk2) hL
    simp only [List.getElem?_cons_zero, Option.some.injEq] at hk
    subst hk
    rcases hq with ⟨_, _, _, _, xs', h1⟩ | ⟨hn, _⟩
    · have h1 : RdL kLk w' v' [lk5] xs' := h1.rd
      obtain ⟨g, o, c1, x, rfl, hr, hx⟩ := rdl_form h1
      obtain ⟨a2, c2, e2⟩ := rdl_slice hx.1.q
      exact ⟨g, o, c1, a2, c2, _, _, rfl, by have := hr 2 _ rfl; rw [this]; show some x.qv = _; rw [e2]; rfl, hb⟩
    · exact absurd hn (by decide)
end Go.Proofs.Ytgiicendejgklaa

/- A feed of layer 17's alive. -/
namespace Go.Proofs.Ytgiicendejgklaa
open Go.RowKit Go.Maps
set_option maxRecDepth 100000 in
set_option maxHeartbeats 400000 in
theorem feed_any {w : World} (n : Int) : Calls Try.prog 15 #[.int .i64 n] w fun e w' => e = .returned (.agg (fdC (fdK 4 n) fx00).toArray) ∧ Below w.heap.size w w' := by
  obtain ⟨CS, hCS⟩ : ∃ z, z = (fdC (fdK 4 n) fx00).toArray := ⟨_, rfl⟩
  have hsz : CS.size = 53 := by rw [hCS]; rfl
  have h1 : CS.all (·.oneCell') = true := by rw [hCS]; exact all_oneCell_toArray (fd_one (fdK_r w 4 n))
  have hb : Try.prog.built 43 [(0, .int .u8 4), (1, .int .i64 n)] = some CS := by rw [hCS]; exact built_feed n
  have hi : (Try.prog.info? 43).map (·.size) = some CS.size := by rw [hsz]; exact infoFdS3
  have HZ := hide (And.intro hsz (And.intro h1 (And.intro hb hi)))
  rw [← hCS]
  clear hCS hsz h1 hb hi
  go_enter Try.func15, Try.ntmps15
  go_upto_region 1 with fail
  go_step
  go_step
  go_step
  go_step
  refine wpList_buildTo (P := Try.prog) ?_ 43 #[(0, .const (.int .u8 4)), (1, .tmp 3)] ?_ (some 4) ?_ CS ?_ ?_
  · rfl
  · rfl
  · rfl
  · simp only [List.map_toArray, List.map_cons, List.map_nil, List.toList_toArray]
    exact (unhide HZ).2.2.1
  obtain ⟨W1, hW1⟩ : ∃ W, W = w.alloc (.cells fd0 43) := ⟨_, rfl⟩
  have k1 : W1.heap[w.heap.size]? = some (.cells fd0 43 (0, 0)) := by rw [hW1]; exact heap_alloc_new _ _
  have k2 : Below w.heap.size w W1 := by rw [hW1]; exact bwA _ _
  have k3 : Hid (W1 = w.alloc (.cells #[.int .u8 0, .int .i64 0, .int .i64 0, .int .i64 0, .int .i64 0, .int .i64 0, .int .i64 0, .int .i64 0, .bool false, .slice none 0 0, .slice none 0 0, .slice none 0 0, .slice none 0 0, .int .i64 0, .int .i64 0, .slice none 0 0, .int .i64 0, .int .i64 0, .int .u8 0, .int .i64 0, .int .i64 0, .int .i64 0, .int .i64 0, .int .i64 0, .bool false, .slice none 0 0, .slice none 0 0, .slice none 0 0, .slice none 0 0, .int .i64 0, .int .i64 0, .slice none 0 0, .int .i64 0, .int .i64 0, .int .i64 0, .int .i64 0, .int .i64 0, .int .i64 0, .int .i64 0, .int .i64 0, .int .i64 0, .slice none 0 0, .int .i64 0, .int .i64 0, .int .i64 0, .int .i64 0, .int .i64 0, .int .i64 0, .int .i64 0, .int .i64 0, .int .i64 0, .int .i64 0, .int .i64 0] 43)) := hW1
  rw [← unhide k3]
  clear k3 hW1
  refine wpList_store_row (P := Try.prog) ?_ 43 (.tmp 2) (.tmp 4) ?_ w.heap.size CS ?_ ?_ 43 fd0 k1 (unhide HZ).2.2.2 (by rw [(unhide HZ).1]; rfl) (unhide HZ).2.1 ?_
  · rfl
  · rfl
  · rfl
  · rfl
  have g0 : (W1.setRow w.heap.size CS).heap[w.heap.size]? = some (.cells CS 43 (0, 0)) := setRow_heap _ _ _ _ _ _ k1
  have g1 : Below w.heap.size w (W1.setRow w.heap.size CS) := below_setRow' k2 (Nat.le_refl _) _
  generalize W1.setRow w.heap.size CS = W2 at *
  clear k1 k2
  go_wp2_with fail
  exact bodyPost_ret (v := .agg CS) (results_cell_row Try.results15 _ _ w.heap.size 43 CS (0, 0) _ rfl g0 Try.underlying43 rfl (unhide HZ).2.2.2) rfl ⟨rfl, g1⟩
end Go.Proofs.Ytgiicendejgklaa

/- What is so of whoever does something at all (alive of layer 17): it is so. -/
namespace Go.Proofs.Ytgiicendejgklaa
open Go.RowKit Go.Maps
set_option maxRecDepth 100000 in
set_option maxHeartbeats 1000000 in
theorem alive17_any (w : World) : Calls Try.prog 14 #[] w fun e w' => e = .returned (.bool true) ∧ Below w.heap.size w w' := by
  obtain ⟨F5, hF5⟩ : ∃ z, z = (fdC (fdK 4 5) fx00).toArray := ⟨_, rfl⟩
  obtain ⟨F6, hF6⟩ : ∃ z, z = (fdC (fdK 4 6) fx00).toArray := ⟨_, rfl⟩
  have K1 : Hid (Calls Try.prog 15 #[.int .i64 5] w fun e w' => e = .returned (.agg F5) ∧ Below w.heap.size w w') := by rw [hF5]; exact feed_any 5
  have K2 : Hid (∀ W, Calls Try.prog 11 #[.slice none 0 0, .int .i64 1, .agg F5] W fun e w' => ∃ g c, e = .returned (.tuple #[.slice (some ⟨g, 0, none⟩) 1 c, .int .i64 0]) ∧ Hid (∃ xs, RdL kLk w' (.slice (some ⟨g, 0, none⟩) 1 c) [lk1] xs) ∧ Below W.heap.size W w') := fun W => by rw [hF5]; exact push1_any W
  have K3 : Hid (∀ W, Calls Try.prog 15 #[.int .i64 6] W fun e w' => e = .returned (.agg F6) ∧ Below W.heap.size W w') := fun W => by rw [hF6]; exact feed_any 6
  have K4 : Hid (∀ W v xs, RdL kLk W v [lk1] xs → Calls Try.prog 11 #[v, .int .i64 1, .agg F6] W fun e w' => ∃ g c, e = .returned (.tuple #[.slice (some ⟨g, 0, none⟩) 1 c, .int .i64 0]) ∧ Hid (∃ xs, RdL kLk w' (.slice (some ⟨g, 0, none⟩) 1 c) [lk2] xs) ∧ Below W.heap.size W w') := fun W v xs h => by rw [hF6]; exact push2_any h
  clear hF5 hF6
  go_enter Try.func14, Try.ntmps14
  go_wp2_with fail
  refine (unhide K1).mono ?_
  rintro e w1 ⟨rfl, b1⟩
  have HB1 := hide b1
  clear K1 b1
  go_wp2_with fail
  refine (unhide K2 w1).mono ?_
  rintro e w2 ⟨ga, ca, rfl, ha, b2⟩
  have HB2 := hide (bw_tr (unhide HB1) b2)
  clear K2 b2 HB1
  go_wp2_with fail
  refine (unhide K3 w2).mono ?_
  rintro e w3 ⟨rfl, b3⟩
  have HB3 := hide (bw_tr (unhide HB2) b3)
  obtain ⟨xa, ha2⟩ := unhide ha
  have KP := hide (unhide K4 w3 _ xa (ha2.bw b3))
  clear K3 K4 b3 HB2 ha ha2
  go_wp2_with fail
  refine (unhide KP).mono ?_
  rintro e w4 ⟨gb, cb, rfl, hb, b4⟩
  have HB4 := hide (bw_tr (unhide HB3) b4)
  have HLB := hb
  have KS : Hid (Calls Try.prog 16 #[.slice (some ⟨gb, 0, none⟩) 1 cb, .int .i64 0] w4 fun e w' => ∃ g c, e = .returned (.tuple #[.slice (some ⟨g, 0, none⟩) 2 c, .int .i64 0]) ∧ Hid (∃ ys, OwL kPk w4.heap.size w' (.slice (some ⟨g, 0, none⟩) 2 c) [pkA, pkB] ys) ∧ Below w4.heap.size w4 w') := by
    obtain ⟨xs, h⟩ := unhide hb
    exact sends2_any h
  clear KP b4 HB3 hb
  go_wp2_with fail
  refine (unhide KS).mono ?_
  rintro e w5 ⟨gp, cp, rfl, hp, b5⟩
  have HB5 := hide (bw_tr (unhide HB4) b5)
  obtain ⟨ys, hp2⟩ := unhide hp
  have hyl : ys.length = 2 := hp2.xl
  obtain ⟨yA, yB, rfl⟩ : ∃ a b, ys = [a, b] := by
    match ys, hyl with
    | [a, b], _ => exact ⟨a, b, rfl⟩
  have hrA : w5.rangeAt gp 0 (ptC pkA yA) := fun j u hj => by
    rw [Nat.zero_add]
    exact own_cell hp2.row rfl (by have := cellK_get (K := kPk) (l := [pkA, pkB]) (xs := [yA, yB]) (i := 0) rfl rfl hj; simpa using this)
  have hrB : w5.rangeAt gp 57 (ptC pkB yB) := fun j u hj => by
    exact own_cell hp2.row rfl (by have := cellK_get (K := kPk) (l := [pkA, pkB]) (xs := [yA, yB]) (i := 1) rfl rfl hj; rw [Nat.one_mul] at this; exact this)
  have hfA : FdR w5 (fdK 4 5) yA := OF.rd (hp2.el 0 pkA yA rfl rfl) (fdK_s 4 5)
  have hfB : FdR w5 (fdK 4 6) yB := OF.rd (hp2.el 1 pkB yB rfl rfl) (fdK_s 4 6)
  have d1 : w5.cell? ⟨gp, 60, none⟩ = some (.int .i64 1) := hrB 3 _ rfl
  have d2 : w5.cell? ⟨gp, 62, none⟩ = some (.int .i64 6) := hrB 5 _ rfl
  obtain ⟨PA, hPA⟩ : ∃ z, z = ptC pkA yA := ⟨_, rfl⟩
  obtain ⟨PB, hPB⟩ : ∃ z, z = ptC pkB yB := ⟨_, rfl⟩
  have HLB5 : Hid (∃ xs, RdL kLk w5 (.slice (some ⟨gb, 0, none⟩) 1 cb) [lk2] xs) := by
    obtain ⟨xs, h⟩ := unhide HLB
    exact ⟨xs, h.bw b5⟩
  have HRA : Hid (∀ W, Below w5.heap.size w5 W → W.rangeAt gp 0 PA) := fun W hW => by rw [hPA]; exact rng_bw hrA hW
  have HRB : Hid (w5.rangeAt gp 57 PB) := by rw [hPB]; exact hrB
  have HIA : Hid ((Try.prog.info? 45).map (·.size) = some PA.length) := by rw [hPA]; exact infoPkS
  have HIB : Hid ((Try.prog.info? 45).map (·.size) = some PB.length) := by rw [hPB]; exact infoPkS
  have KB : Hid (Calls Try.prog 12 #[.slice none 0 0, .agg PB.toArray] w5 fun e w' => ∃ v1 a2 c2 g o c3, e = .returned (.tuple #[v1, .slice a2 0 c2, .slice (some ⟨g, o, none⟩) 1 c3, .int .i64 0]) ∧ w'.cell? ⟨g, o + 3, none⟩ = some (.int .i64 0) ∧ Hid (∃ xs, RdL kLk w' v1 [lk3] xs) ∧ Below w5.heap.size w5 w') := by
    rw [hPB]; exact takeB_any hfB
  have KA : Hid (∀ W v xs, Below w5.heap.size w5 W → RdL kLk W v [lk3] xs → Calls Try.prog 12 #[v, .agg PA.toArray] W fun e w' => ∃ a1 c1 g2 o2 c2 g o c3 y3, e = .returned (.tuple #[.slice a1 1 c1, .slice (some ⟨g2, o2, none⟩) 2 c2, .slice (some ⟨g, o, none⟩) 1 c3, .int .i64 0]) ∧ w'.cell? ⟨g2, o2 + 53 + 1, none⟩ = some (.int .i64 6) ∧ w'.rangeAt g o (ptC bkB y3) ∧ FdR w' (fdK 0 0) y3 ∧ Below W.heap.size W w') := fun W v xs hW h => by
    rw [hPA]; exact takeA_any h (hfA.bw hW)
  clear KS b5 HB4 HLB hp hp2 hyl hrA hrB hfA hfB hPA hPB
  go_wp2_with (refine wpList_load_mid rfl 45 (.tmp 67) rfl gp 57 (by simp [Act.eval]) PB _ (unhide HRB) Try.underlying45 rfl (unhide HIB) ?_)
  refine (unhide KB).mono ?_
  rintro e w6 ⟨v1, a2, c2, g3, o3, c3, rfl, e1, hx, b6⟩
  have HB6 := hide b6
  obtain ⟨xx, hx2⟩ := unhide hx
  have KA2 := hide (unhide KA w6 v1 xx b6 hx2)
  have HRA6 := hide (unhide HRA w6 b6)
  have HLB6 : Hid (∃ xs, RdL kLk w6 (.slice (some ⟨gb, 0, none⟩) 1 cb) [lk2] xs) := by
    obtain ⟨xs, h⟩ := unhide HLB5
    exact ⟨xs, h.bw b6⟩
  have HB6W := hide (bw_tr (unhide HB5) b6)
  clear KB KA HRA HRB HIB b6 HB6 hx hx2 HLB5 d1 d2 HB5
  go_wp2_with (refine wpList_load_mid rfl 45 (.tmp 77) rfl gp 0 (by simp [Act.eval]) PA _ (unhide HRA6) Try.underlying45 rfl (unhide HIA) ?_)
  refine (unhide KA2).mono ?_
  rintro e w7 ⟨a4, c4, g5, o5, c5, g6, o6, c6, y3, rfl, m1, m2, m3, b7⟩
  have e17 : w7.cell? ⟨g3, o3 + 3, none⟩ = some (.int .i64 0) := by rw [b7.cell (lt_of_cell e1)]; exact e1
  have m4 : w7.cell? ⟨g6, o6 + 3, none⟩ = some (.int .i64 2) := m2 3 _ rfl
  have HLB7 : Hid (∃ xs, RdL kLk w7 (.slice (some ⟨gb, 0, none⟩) 1 cb) [lk2] xs) := by
    obtain ⟨xs, h⟩ := unhide HLB6
    exact ⟨xs, h.bw b7⟩
  have HB7W := hide (bw_tr (unhide HB6W) b7)
  obtain ⟨PK, hPK⟩ : ∃ z, z = ptC bkB y3 := ⟨_, rfl⟩
  have HRK : Hid (w7.rangeAt g6 o6 PK) := by rw [hPK]; exact m2
  have HIK : Hid ((Try.prog.info? 45).map (·.size) = some PK.length) := by rw [hPK]; exact infoPkS
  have KK : Hid (Calls Try.prog 12 #[.slice (some ⟨gb, 0, none⟩) 1 cb, .agg PK.toArray] w7 fun e w' => ∃ g o c1 a2 c2 v2 v3, e = .returned (.tuple #[.slice (some ⟨g, o, none⟩) 1 c1, v2, v3, .int .i64 0]) ∧ w'.cell? ⟨g, o + 2, none⟩ = some (.slice a2 0 c2) ∧ Below w7.heap.size w7 w') := by
    obtain ⟨xs, h⟩ := unhide HLB7
    rw [hPK]; exact takeK_any h m3
  clear KA2 HRA6 HIA e1 m2 m3 b7 HLB6 HLB7 HB6W hPK
  go_wp2_with (refine wpList_load_mid rfl 45 (.tmp 139) rfl g6 o6 (by simp [Act.eval]) PK _ (unhide HRK) Try.underlying45 rfl (unhide HIK) ?_)
  refine (unhide KK).mono ?_
  rintro e w8 ⟨g8, o8, c8, a9, c9, v2, v3, rfl, n1, b8⟩
  have HB8W := hide (bw_tr (unhide HB7W) b8)
  clear KK HRK HIK b8 HB7W e17 m1 m4
  go_wp2_with fail
  go_ret
  exact ⟨rfl, unhide HB8W⟩
end Go.Proofs.Ytgiicendejgklaa

/- QueueStays: what is made of links that may be may be. mkQuLaw.py writes it. -/
namespace Go.Proofs.Ytgiicendejgklaa
open Go.RowKit Go.Maps
set_option maxRecDepth 100000 in
set_option maxHeartbeats 1000000 in
theorem stays_any {w : World} {v : Value} {l : List Lk} {xs : List Lx} {f : Fd} {y : Fx} {p : Pt} {y2 : Fx} (h : RdL kLw w v l xs) (hl : l.length ≤ 140737488355328) (hf : FdR w f y ∧ fdB f) (hp : FdR w p.fd y2 ∧ fdB p.fd) :
    Calls Try.prog 3 #[v, .agg (fdC f y).toArray, .agg (ptC p y2).toArray] w fun e w' => e = .returned (.bool true) ∧ Below w.heap.size w w' := by
  obtain ⟨FS, hFS⟩ : ∃ z, z = fdC f y := ⟨_, rfl⟩
  obtain ⟨PF, hPF⟩ : ∃ z, z = fdC p.fd y2 := ⟨_, rfl⟩
  obtain ⟨PS, hPS⟩ : ∃ z, z = ptC p y2 := ⟨_, rfl⟩
  rw [← hFS, ← hPS]
  obtain ⟨w0, hw0⟩ : ∃ w0, w0 = (w.alloc (.cells FS.toArray 43)).alloc (.cells PS.toArray 45) := ⟨_, rfl⟩
  have bl : Below w.heap.size w w0 := by rw [hw0]; exact bw_tr (bwA _ _) (bwA _ _)
  have k2 : w0.heap[w.heap.size + 1]? = some (.cells PS.toArray 45 (0, 0)) := by
    rw [hw0]
    have := heap_alloc_new (w.alloc (.cells FS.toArray 43)) (.cells PS.toArray 45)
    simpa using this
  have k1 : w0.heap[w.heap.size]? = some (.cells FS.toArray 43 (0, 0)) := by
    rw [hw0]
    exact kept_b (heap_alloc_new _ _) (by simp) (bwA _ _)
  have HS : Hid (∀ V, Below w0.heap.size w0 V → (V.rangeAt w.heap.size 0 FS ∧ V.rangeAt (w.heap.size + 1) 4 PF) ∧ V.cell? ⟨w.heap.size + 1, 0, none⟩ = some (.int .i64 p.fr) ∧ V.rangeAt (w.heap.size + 1) 0 PS) := fun V hV => by
    have q1 := kept_b k1 (lt_of_blk k1) hV
    have q2 := kept_b k2 (lt_of_blk k2) hV
    have hcf : PS = .int .i64 p.fr :: .int .i64 p.tu :: .bool p.ack :: .int .i64 p.sq :: PF := by rw [hPS, hPF]; rfl
    refine ⟨⟨blk_rngQ q1 (fun j u hj => by rw [Nat.zero_add]; simpa using hj), ?_⟩, ?_, blk_rngQ q2 (fun j u hj => by rw [Nat.zero_add]; simpa using hj)⟩
    · rw [hcf] at q2
      exact blk_rngQ q2 (fun j u hj => by rw [show 4 + j = j + 1 + 1 + 1 + 1 by omega]; simpa using hj)
    · rw [hcf] at q2; exact blk_c q2 rfl
  obtain ⟨W, hWd⟩ : ∃ z, z = w0.drew := ⟨_, rfl⟩
  have bW : Below w0.heap.size w0 W := by rw [hWd]; exact (Below.refl _ _).drew
  have S0 := (unhide HS W bW).1
  have KZ : Hid (Calls Try.prog 9 #[v] W fun e w' => ∃ n : Nat, e = .returned (.int .i64 (n : Int)) ∧ n ≤ 9007199254740992 ∧ (n ≤ 262144 → n = l.length + lsN17 l) ∧ Below W.heap.size W w') := size17_any (h.bw (bw_tr bl bW)) hl
  have KF : Hid (∀ V, Below W.heap.size W V → Calls Try.prog 10 #[.agg FS.toArray] V fun e w' => ∃ n : Nat, e = .returned (.int .i64 (n : Int)) ∧ n ≤ 5700000000000000 ∧ (n ≤ 262144 → n = fdN f) ∧ Below V.heap.size V w') := fun V hV => by
    rw [hFS]; exact fdsize_any (hf.1.bw (bw_tr (bw_tr bl bW) hV))
  have KP : Hid (∀ V, Below W.heap.size W V → Calls Try.prog 10 #[.agg PF.toArray] V fun e w' => ∃ n : Nat, e = .returned (.int .i64 (n : Int)) ∧ n ≤ 5700000000000000 ∧ (n ≤ 262144 → n = fdN p.fd) ∧ Below V.heap.size V w') := fun V hV => by
    rw [hPF]; exact fdsize_any (hp.1.bw (bw_tr (bw_tr bl bW) hV))
  have HIF : Hid ((Try.prog.info? 43).map (·.size) = some FS.length) := by rw [hFS]; exact infoFdS3
  have HIP : Hid ((Try.prog.info? 43).map (·.size) = some PF.length) := by rw [hPF]; exact infoFdS3
  have HIK : Hid ((Try.prog.info? 45).map (·.size) = some PS.length) := by rw [hPS]; exact infoPkS
  have HIN := hide (And.intro h (And.intro hf (And.intro hp (And.intro hFS hPS))))
  have HW := hide hw0
  have HWD := hide hWd
  have HBL := hide bl
  have HBW := hide bW
  obtain ⟨av, cv, rfl⟩ := rdl_slice h
  obtain ⟨N, hN⟩ : ∃ z, z = l.length := ⟨_, rfl⟩
  rw [← hN] at KZ HIN ⊢
  have HN := hide hN
  clear h hl hf hp hFS hPF hPS hw0 bl k2 k1 hWd bW hN
  go_enter Try.func3, Try.ntmps3
  go_upto_region 1 with fail
  rw [← unhide HW]
  clear HW
  refine wp_region_held_drew (S := fun w' : World => (w').rangeAt w.heap.size 0 FS ∧ (w').rangeAt (w.heap.size + 1) 4 PF) (by kernel_rfl) (by rw [← unhide HWD]; exact S0) (fun hHeld => ?_)
  revert hHeld
  rw [← unhide HWD]
  intro hHeld
  refine wpAnyH_take (i := 0) (oi := { dst := some 13, op := Op.move (Operand.tmp 0), type := 22, pos := "law.go:71", after := #[], guard := none }) (v := ?v0r1) rfl (by kernel_rfl) (by kernel_rfl) (by kernel_rfl) (fun _ _ _ h => h) (Or.inl ⟨by rfl, ?hy0r1⟩) (by exact hHeld) ?_
  case hy0r1 => (intro w hSw; (try dsimp only at hSw); go_simp; try (with_reducible rfl))
  try simp only [Act.put, List.setIfInBounds_toArray, List.set_cons_zero, List.set_cons_succ]
  refine wpAnyH_take (i := 4) (oi := { dst := some 17, op := Op.fieldAddr 45 (Operand.tmp 5) 4, type := 0, pos := "law.go:71", after := #[], guard := none }) (v := ?v4r1) rfl (by kernel_rfl) (by kernel_rfl) (by kernel_rfl) (fun _ _ _ h => h) (Or.inl ⟨by rfl, ?hy4r1⟩) (by exact hHeld) ?_
  case hy4r1 => (intro w hSw; (try dsimp only at hSw); go_simp; try (with_reducible rfl))
  try simp only [Act.put, List.setIfInBounds_toArray, List.set_cons_zero, List.set_cons_succ]
  refine wpAnyH_take (i := 2) (oi := { dst := some 15, op := Op.load 43 (Operand.tmp 4), type := 43, pos := "law.go:71", after := #[], guard := none }) (v := .agg FS.toArray) rfl (by kernel_rfl) (by kernel_rfl) (by kernel_rfl) (fun _ _ _ h => h) (yieldsIf_load_mid (by rfl) 43 (.tmp 4) rfl w.heap.size 0 (by rfl) FS _ (fun _ h => h.1) Try.underlying43 rfl (unhide HIF)) (by exact hHeld) ?_
  try simp only [Act.put, List.setIfInBounds_toArray, List.set_cons_zero, List.set_cons_succ]
  refine wpAnyH_take (i := 5) (oi := { dst := some 18, op := Op.load 43 (Operand.tmp 17), type := 43, pos := "law.go:71", after := #[{ on := 4, ground := Ground.data }], guard := none }) (v := .agg PF.toArray) rfl (by kernel_rfl) (by kernel_rfl) (by kernel_rfl) (fun _ _ _ h => h) (yieldsIf_load_mid (by rfl) 43 (.tmp 17) rfl (w.heap.size + 1) 4 (by rfl) PF _ (fun _ h => h.2) Try.underlying43 rfl (unhide HIP)) (by exact hHeld) ?_
  try simp only [Act.put, List.setIfInBounds_toArray, List.set_cons_zero, List.set_cons_succ]
  refine wpAnyH_ready (rs := [1]) (by kernel_rfl) (by simp) ?_
  refine AllReadyH.cons (o := { dst := some 14, op := Op.call { callee := Callee.value (Operand.func 9), args := #[Operand.tmp 13], argTypes := #[22] }, type := 3, pos := "law.go:71", after := #[{ on := 0, ground := Ground.data }], guard := none }) rfl (fun K hK => ?_) AllReadyH.nil
  go_simp
  go_at_call 9
  refine (unhide KZ).mono ?_
  rintro e_ z1 ⟨n1, rfl, hn1, hm1, b1_⟩
  have SZ1 := (unhide HS z1 (bw_tr (unhide HBW) b1_)).1
  have HX1 := hide b1_
  have KF2 := hide (unhide KF z1 b1_)
  have HM1 := hide hm1
  clear KZ KF b1_ hm1
  go_wp2_with fail
  refine hK.out _ _ SZ1 (fun _ => ?_)
  clear hK K
  try simp only [Act.put, List.setIfInBounds_toArray, List.set_cons_zero, List.set_cons_succ]
  refine wpAnyH_ready (rs := [3]) (by kernel_rfl) (by simp) ?_
  refine AllReadyH.cons (o := { dst := some 16, op := Op.call { callee := Callee.value (Operand.func 10), args := #[Operand.tmp 15], argTypes := #[43] }, type := 3, pos := "law.go:71", after := #[{ on := 2, ground := Ground.data }, { on := 1, ground := Ground.chain }], guard := none }) rfl (fun K hK => ?_) AllReadyH.nil
  go_simp
  go_at_call 10
  refine (unhide KF2).mono ?_
  rintro e_ z2 ⟨n2, rfl, hn2, hm2, b2_⟩
  have SZ2 := (unhide HS z2 (bw_tr (unhide HBW) (bw_tr (unhide HX1) b2_))).1
  have HX2 := hide (bw_tr (unhide HX1) b2_)
  have KP2 := hide (unhide KP z2 (bw_tr (unhide HX1) b2_))
  have HM2 := hide hm2
  clear KF2 KP b2_ hm2 HX1
  go_wp2_with fail
  refine hK.out _ _ SZ2 (fun _ => ?_)
  clear hK K
  try simp only [Act.put, List.setIfInBounds_toArray, List.set_cons_zero, List.set_cons_succ]
  refine wpAnyH_ready (rs := [6]) (by kernel_rfl) (by simp) ?_
  refine AllReadyH.cons (o := { dst := some 19, op := Op.call { callee := Callee.value (Operand.func 10), args := #[Operand.tmp 18], argTypes := #[43] }, type := 3, pos := "law.go:71", after := #[{ on := 5, ground := Ground.data }, { on := 3, ground := Ground.chain }], guard := none }) rfl (fun K hK => ?_) AllReadyH.nil
  go_simp
  go_at_call 10
  refine (unhide KP2).mono ?_
  rintro e_ z3 ⟨n3, rfl, hn3, hm3, b3_⟩
  have SZ3 := (unhide HS z3 (bw_tr (unhide HBW) (bw_tr (unhide HX2) b3_))).1
  have HX3 := hide (bw_tr (unhide HBW) (bw_tr (unhide HX2) b3_))
  have SZ4 : ∀ o, (z3.alloc o).rangeAt w.heap.size 0 FS ∧ (z3.alloc o).rangeAt (w.heap.size + 1) 4 PF := fun o => (unhide HS (z3.alloc o) (bw_tr (unhide HX3) (bwA z3 o))).1
  have HM3 := hide hm3
  clear KP2 b3_ hm3 HX2
  go_wp2_with fail
  refine hK.out _ _ SZ3 (fun _ => ?_)
  clear hK K
  try simp only [Act.put, List.setIfInBounds_toArray, List.set_cons_zero, List.set_cons_succ]
  refine wpAnyH_ready (rs := [7]) (by kernel_rfl) (by simp) ?_
  refine AllReadyH.cons (o := { dst := some 20, op := Op.buildSlice 25 3 #[(0, Operand.tmp 14), (1, Operand.tmp 16), (2, Operand.tmp 19)], type := 25, pos := "law.go:71", after := #[{ on := 1, ground := Ground.data }, { on := 3, ground := Ground.data }, { on := 6, ground := Ground.data }], guard := none }) rfl (fun K hK => ?_) AllReadyH.nil
  go_simp
  refine hK.out _ _ (SZ4 _) (fun _ => ?_)
  clear hK K
  try simp only [Act.put, List.setIfInBounds_toArray, List.set_cons_zero, List.set_cons_succ]
  refine wpAnyH_ready (rs := [8]) (by kernel_rfl) (by simp) ?_
  refine AllReadyH.cons (o := { dst := some 21, op := Op.call { callee := Callee.value (Operand.func 8), args := #[Operand.tmp 20], argTypes := #[25] }, type := 4, pos := "law.go:71", after := #[{ on := 7, ground := Ground.data }, { on := 6, ground := Ground.chain }], guard := none }) rfl (fun K hK => ?_) AllReadyH.nil
  go_simp
  go_at_call 8
  refine (beyond17c z3.heap.size n1 n2 n3 3 _ (by omega) (by omega) (by omega) (blk_c (heap_alloc_new _ _) rfl) (blk_c (heap_alloc_new _ _) rfl) (blk_c (heap_alloc_new _ _) rfl)).mono ?_
  rintro e_ z4 ⟨z, rfl, rfl, hz⟩
  have HZZ := hide hz
  clear hz
  go_wp2_with fail
  refine hK.out _ _ (SZ4 _) (fun _ => ?_)
  clear hK K
  try simp only [Act.put, List.setIfInBounds_toArray, List.set_cons_zero, List.set_cons_succ]
  refine wpAnyH_done (by kernel_rfl) ?_ _
  generalize hV : World.alloc z3 _ = V
  have HXV : Hid (Below w0.heap.size w0 V) := (by rw [← hV]; exact bw_tr (unhide HX3) (bwA z3 _))
  clear hV S0 SZ1 SZ2 SZ3 SZ4 HX3 HIF HIP hHeld
  cases z with
  | true =>
    have HB := hide (bw_tr (unhide HBL) (unhide HXV))
    clear HS HIN HZZ HM1 HM2 HM3 HXV HBL HBW
    go_wp2_with fail
    go_ret
    exact ⟨rfl, unhide HB⟩
  | false =>
    have HSZ : Hid (l.length + lsN17 l ≤ 262144 ∧ fdN f ≤ 262144 ∧ fdN p.fd ≤ 262144) := (by
      have e0 := unhide HZZ rfl
      have e1 := unhide HM1 (by omega)
      have e2 := unhide HM2 (by omega)
      have e3 := unhide HM3 (by omega)
      have e4 := unhide HN
      exact ⟨by omega, by omega, by omega⟩)
    have HKL : Hid (RdL kLk w (.slice av N cv) l xs ∧ SmF f ∧ SmF p.fd) := ⟨lks_of (unhide HIN).1 (unhide HSZ).1, smF_of (unhide HIN).2.1 (by have := (unhide HSZ).2.1; omega), smF_of (unhide HIN).2.2.1 (by have := (unhide HSZ).2.2; omega)⟩
    have HBV := hide (bw_tr (unhide HBL) (unhide HXV))
    have hl6 : Hid (l.length ≤ 1000000) := (by have := (unhide HSZ).1; unfold Hid; omega)
    have KPu : Hid (Calls Try.prog 11 #[.slice av N cv, .int .i64 p.fr, .agg FS.toArray] V fun e w' => ∃ va ea, e = .returned (.tuple #[va, .int .i64 ea]) ∧ Below V.heap.size V w' ∧ Hid (ea = 0 → ∃ l2 xs2, RdL kLk w' va l2 xs2 ∧ okLs l2 ∧ l2.length ≤ 1000001)) := (by
      rw [(unhide HIN).2.2.2.1]
      refine Calls.mono (push_any ((unhide HKL).1.bw (unhide HBV)) (unhide hl6) ((unhide HIN).2.1.1.bw (unhide HBV)) (unhide HKL).2.1 p.fr) ?_
      rintro e w' ⟨va, ea, rfl, hb, hq⟩
      refine ⟨va, ea, rfl, hb, fun h0 => ?_⟩
      rcases hq with ⟨c, _⟩ | ⟨ho, ht, hpr, k, L, q, hL, hk, hq⟩
      · omega
      · rcases hq with ⟨c, _⟩ | ⟨_, h1, h2, xs', hO⟩
        · omega
        · refine ⟨_, _, OwL.lks hO (fun b hb => ?_), push_ok ho ht hpr hL hk h1 h2, ?_⟩
          · rcases List.mem_or_eq_of_mem_set hb with c | c
            · exact hL.sm (unhide HKL).1.sms b c
            · have hq0 := hL.sm (unhide HKL).1.sms q (List.mem_of_getElem? hk)
              subst c
              refine ⟨?_, hq0.en, fun x hx => ?_, hq0.es⟩
              · show (q.q ++ [f]).length ≤ _
                rw [List.length_append, List.length_singleton]
                have := ((hL.ok ho hpr) k q hk).1.2.1.2.1
                omega
              · have hx : x ∈ q.q ++ [f] := hx
                rcases List.mem_append.1 hx with d | d
                · exact hq0.qs x d
                · simp only [List.mem_cons, List.not_mem_nil, or_false] at d; subst d; exact (unhide HKL).2.1
          · rw [List.length_set]
            rcases hL.2 with ⟨rfl, _⟩ | ⟨rfl, _⟩
            · have := unhide hl6; omega
            · rw [insAt_len]; have := unhide hl6; omega)
    have KTa : Hid (∀ V2, Below V.heap.size V V2 → Calls Try.prog 12 #[.slice av N cv, .agg PS.toArray] V2 fun e w' => ∃ va tv bv ea, e = .returned (.tuple #[va, tv, bv, .int .i64 ea]) ∧ Below V2.heap.size V2 w' ∧ Hid (ea = 0 → ∃ l2 xs2, RdL kLk w' va l2 xs2 ∧ okLs l2 ∧ l2.length ≤ 1000001)) := fun V2 hV2 => (by
      rw [(unhide HIN).2.2.2.2]
      have hb0 := bw_tr (unhide HBV) hV2
      refine Calls.mono (take_any ((unhide HKL).1.bw hb0) (unhide hl6) ((unhide HIN).2.2.1.1.bw hb0) (unhide HKL).2.2) ?_
      rintro e w' ⟨va, tv, bv, ea, rfl, hb, hq⟩
      refine ⟨va, tv, bv, ea, rfl, hb, fun h0 => ?_⟩
      rcases hq with ⟨c, _⟩ | ⟨_, ho, ht, k, L, q, hL, hk, hq⟩
      · omega
      · have hlen : ∀ q' : Lk, (L.set k q').length ≤ 1000001 := fun q' => (by
          rw [List.length_set]
          rcases hL.2 with ⟨rfl, _⟩ | ⟨rfl, _⟩
          · have := unhide hl6; omega
          · rw [insAt_len]; have := unhide hl6; omega)
        rcases hq with ⟨_, _, _, _, xs', hO⟩ | ⟨hak, q', T, xs', tx, bx, hT, hO, _⟩
        · exact ⟨_, _, hO.rd, ack_ok ho ht.1 hL hk, hlen _⟩
        · have ht3 : p.sq < 1099511627776 ∧ tellP p.fd := (by
            rcases ht.2.2.2 with ⟨c, _⟩ | ⟨_, c1, c2⟩
            · rw [hak] at c; cases c
            · exact ⟨c1, c2⟩)
          exact ⟨_, _, hO.rd, turn_ok ho ht.1 hL hk hT ht.2.2.1 ht3.1 ht3.2, hlen _⟩)
    have d0 := (unhide HS V (unhide HXV)).2.1
    have HRV := hide (unhide HS V (unhide HXV)).1.1
    have HIF2 : Hid ((Try.prog.info? 43).map (·.size) = some FS.length) := (by rw [(unhide HIN).2.2.2.1]; exact infoFdS3)
    clear HZZ HM1 HM2 HM3 HSZ hn1 hn2 hn3 HBW
    go_wp2_with (refine wpList_load_mid rfl 43 (.tmp 4) rfl w.heap.size 0 (by simp [Act.eval]) FS _ (unhide HRV) Try.underlying43 rfl (unhide HIF2) ?_)
    refine (unhide KPu).mono ?_
    rintro e w5 ⟨va, ea, rfl, b5, HA⟩
    have HRP := hide (unhide HS w5 (bw_tr (unhide HXV) b5)).2.2
    have KT2 := hide (unhide KTa w5 b5)
    have HB5 := hide (bw_tr (unhide HBV) b5)
    clear KPu KTa HRV HIF2 HS HXV HIN HKL HBL b5 d0
    go_wp2_with (refine wpList_load_mid rfl 45 (.tmp 5) rfl (w.heap.size + 1) 0 (by simp [Act.eval]) PS _ (unhide HRP) Try.underlying45 rfl (unhide HIK) ?_)
    refine (unhide KT2).mono ?_
    rintro e w6 ⟨vc, tv, bv, ec, rfl, b6, HC⟩
    have HB6 := hide (bw_tr (unhide HB5) b6)
    have HA6 : Hid (ea = 0 → ∃ l2 xs2, RdL kLk w6 va l2 xs2 ∧ okLs l2 ∧ l2.length ≤ 1000001) := fun h0 => (by
      obtain ⟨l2, xs2, q1, q2, q3⟩ := unhide HA h0
      exact ⟨l2, xs2, q1.bw b6, q2, q3⟩)
    have KAL : Hid (∀ V2, Calls Try.prog 14 #[] V2 fun e w' => e = .returned (.bool true) ∧ Below V2.heap.size V2 w') := fun V2 => alive17_any V2
    have KC1 : Hid (ea = 0 → Calls Try.prog 13 #[va] w6 fun e w' => e = .returned (.int .i64 0) ∧ Below w6.heap.size w6 w') := fun h0 => (by
      obtain ⟨l2, xs2, q1, q2, q3⟩ := unhide HA6 h0
      exact check0_any q1 q2 (by omega))
    have KC2 : Hid (ec = 0 → ∀ V2, Below w6.heap.size w6 V2 → Calls Try.prog 13 #[vc] V2 fun e w' => e = .returned (.int .i64 0) ∧ Below V2.heap.size V2 w') := fun h0 V2 hV2 => (by
      obtain ⟨l2, xs2, q1, q2, q3⟩ := unhide HC h0
      exact check0_any (q1.bw hV2) q2 (by omega))
    clear KT2 HRP HIK HA HA6 HC b6 HB5
    by_cases h1 : ea = 0
    · subst h1
      have KCa := hide (unhide KC1 rfl)
      clear KC1
      go_wp2_with fail
      refine (unhide KCa).mono ?_
      rintro e w7 ⟨rfl, b7⟩
      have HB7 := hide (bw_tr (unhide HB6) b7)
      have HB67 := hide b7
      clear KCa b7
      by_cases h2 : ec = 0
      · subst h2
        have KCb := hide (unhide KC2 rfl w7 (unhide HB67))
        clear KC2
        go_wp2_with fail
        refine (unhide KCb).mono ?_
        rintro e w8 ⟨rfl, b8⟩
        have HB8 := hide (bw_tr (unhide HB7) b8)
        clear KCb b8
        go_wp2_with fail
        refine (unhide KAL w8).mono ?_
        rintro e w9 ⟨rfl, b9⟩
        have HB9 := hide (bw_tr (unhide HB8) b9)
        clear KAL b9
        go_wp2_with fail
        go_ret
        exact ⟨rfl, unhide HB9⟩
      · have q1 : (ec == 0) = false := (by simp; exact h2)
        have q2 : decide (ec = 0) = false := decide_eq_false h2
        clear KC2
        go_wp2_with fail
        refine (unhide KAL w7).mono ?_
        rintro e w9 ⟨rfl, b9⟩
        have HB9 := hide (bw_tr (unhide HB7) b9)
        clear KAL b9
        go_wp2_with fail
        go_ret
        exact ⟨rfl, unhide HB9⟩
    · have p1 : (ea == 0) = false := (by simp; exact h1)
      have p2 : decide (ea = 0) = false := decide_eq_false h1
      clear KC1
      by_cases h2 : ec = 0
      · subst h2
        have KCb := hide (unhide KC2 rfl w6 (Below.refl _ _))
        clear KC2
        go_wp2_with fail
        refine (unhide KCb).mono ?_
        rintro e w8 ⟨rfl, b8⟩
        have HB8 := hide (bw_tr (unhide HB6) b8)
        clear KCb b8
        go_wp2_with fail
        refine (unhide KAL w8).mono ?_
        rintro e w9 ⟨rfl, b9⟩
        have HB9 := hide (bw_tr (unhide HB8) b9)
        clear KAL b9
        go_wp2_with fail
        go_ret
        exact ⟨rfl, unhide HB9⟩
      · have q1 : (ec == 0) = false := (by simp; exact h2)
        have q2 : decide (ec = 0) = false := decide_eq_false h2
        clear KC2
        go_wp2_with fail
        refine (unhide KAL w6).mono ?_
        rintro e w9 ⟨rfl, b9⟩
        have HB9 := hide (bw_tr (unhide HB6) b9)
        clear KAL b9
        go_wp2_with fail
        go_ret
        exact ⟨rfl, unhide HB9⟩
end Go.Proofs.Ytgiicendejgklaa
