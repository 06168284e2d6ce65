/- Texts joined: ChO ChLawForgets. -/
import Derived.Test.YtkaioidneknmjaaZ11
import Derived.Test.YtkaioidneknmjaaNDdK
import Derived.BigQuiet
/- A chain beside rows of numbers; what is known of what it has. -/
namespace Go.Proofs.Ytkaioidneknmjaa.Tn
open Go.RowKit Go.Maps

theorem Env.growN {w W W5 : World} {v v' : Value} {l : List Nat} {x : Nat} {rs : List Res} {ob : Obj} (h : Env w W (resN v l :: rs)) (hown : W5.ownsRow 0 3 1 v' (l.length + 1) (l.map (fun m => .int .i64 ((m : Nat) : Int)) ++ [.int .i64 (x : Int)])) (hg : (W.alloc ob).grownBy W5 v.ownBlock) (hat : v'.ownBlock = v.ownBlock ∨ v'.ownBlock = some (W.alloc ob).heap.size) : Env w W5 (resN v' (l ++ [x]) :: rs) := by
  have k := Nw.grown (x := [x]) (show NRow 0 W v l from h.hd) (Below.refl _ _) hown hg (by simpa using hat)
  exact h.step (r' := resN v' (l ++ [x])) ⟨k.fr, fun y hy => (k.pl y (by simpa [resN] using hy)).imp (fun c => by simpa [resN] using c) id⟩ k.row
section
variable {w W W' W5 : World} {c b mb : Nat} {s : Cst} {rs : List Res} {v v' : Value} {l : List Nat} {x : Nat} {ob : Obj}
theorem ECh.bel (h : ECh w W c b mb s rs) : Below w.heap.size w W := by obtain ⟨lm, sv, e⟩ := h; exact e.bel
theorem ECh.new (h : ECh w W c b mb s rs) (hb : Below W.heap.size W W') : ECh w W' c b mb s rs := by obtain ⟨lm, sv, e⟩ := h; exact ⟨lm, sv, e.new hb⟩
theorem ECh.row (h : ECh w W c b mb s rs) (hr : resN v l ∈ rs) : NRow 0 W v l := by obtain ⟨lm, sv, e⟩ := h; exact e.hold (resN v l) (List.mem_cons_of_mem _ hr)
theorem ECh.grow (h : ECh w W c b mb s (resN v l :: rs)) (hown : W5.ownsRow 0 3 1 v' (l.length + 1) (l.map (fun m => .int .i64 ((m : Nat) : Int)) ++ [.int .i64 (x : Int)])) (hg : (W.alloc ob).grownBy W5 v.ownBlock) (hat : v'.ownBlock = v.ownBlock ∨ v'.ownBlock = some (W.alloc ob).heap.size) : ECh w W5 c b mb s (resN v' (l ++ [x]) :: rs) := by
  obtain ⟨lm, sv, e⟩ := h
  exact ⟨lm, sv, (e.swap.growN hown hg hat).swap⟩
theorem ECh.addRow (h : ECh w W c b mb s rs) : ECh w W c b mb s (resN (.slice none 0 0) [] :: rs) := by
  obtain ⟨lm, sv, e⟩ := h
  exact ⟨lm, sv, (e.add (resN (.slice none 0 0) []) (Below.refl _ _) (World.ownsRow_nil _ _ _ _) (by simp [resN, Value.ownBlock])).swap⟩
end
/-- What is known, beside the store and rows. -/
def EKn (w W : World) (kb b mb : Nat) (s : Cst) (rs : List Res) : Prop := ∃ sv Z, Env w W (resK kb b s.L (fun m => (m : Int) ∈ (cK s).map fun (k : Nat) => (k : Int)) Z :: resS b sv mb s.L :: rs)
theorem EKn.bel {w W : World} {kb b mb : Nat} {s : Cst} {rs : List Res} (h : EKn w W kb b mb s rs) : Below w.heap.size w W := by obtain ⟨sv, Z, e⟩ := h; exact e.bel
theorem EKn.new {w W W' : World} {kb b mb : Nat} {s : Cst} {rs : List Res} (h : EKn w W kb b mb s rs) (hb : Below W.heap.size W W') : EKn w W' kb b mb s rs := by obtain ⟨sv, Z, e⟩ := h; exact ⟨sv, Z, e.new hb⟩
theorem EKn.row {w W : World} {kb b mb : Nat} {s : Cst} {rs : List Res} {v : Value} {l : List Nat} (h : EKn w W kb b mb s rs) (hr : resN v l ∈ rs) : NRow 0 W v l := by obtain ⟨sv, Z, e⟩ := h; exact e.hold (resN v l) (List.mem_cons_of_mem _ (List.mem_cons_of_mem _ hr))
theorem EKn.has {w W : World} {kb b mb : Nat} {s : Cst} {rs : List Res} (h : EKn w W kb b mb s rs) (x : Int) :
    Calls Try.prog 16 #[.pointer (some ⟨kb, 0, none⟩), .int .i64 x] W fun e W' => e = .returned (.bool (hasB s.L (fun m => (m : Int) ∈ (cK s).map fun (k : Nat) => (k : Int)) x)) ∧ EKn w W' kb b mb s rs := by
  obtain ⟨sv, Z, e⟩ := h
  refine (env_has e x).mono ?_
  rintro e' W' ⟨h1, Z', h2⟩
  exact ⟨h1, sv, Z', h2⟩
theorem nis_of {W : World} {B : Nat} {a : Option Addr} {m cap : Nat} {l : List Nat} (h : NRow B W (.slice a m cap) l) (hl : l.length ≤ 100000) (hz : ∀ k ∈ l, k ≤ 1048577) : NIs W (.slice a (l.map fun (k : Nat) => (k : Int)).length cap) (l.map fun (k : Nat) => (k : Int)) := by
  refine ⟨a, cap, rfl, by simp; omega, fun z hz' => ?_, ?_⟩
  · obtain ⟨k, hk, rfl⟩ := List.mem_map.1 hz'
    have := hz k hk
    omega
  · rcases Nat.eq_zero_or_pos l.length with h0 | h0
    · left; rw [List.eq_nil_of_length_eq_zero h0]; rfl
    · right
      obtain ⟨g, c, e, -⟩ := own_open h h0
      simp only [Value.slice.injEq] at e
      refine ⟨g, 0, e.1, fun i z hi => ?_⟩
      rw [List.getElem?_map] at hi
      cases hk : l[i]? with
      | none => rw [hk] at hi; cases hi
      | some k =>
        rw [hk] at hi
        simp at hi
        subst hi
        rw [Nat.zero_add]
        exact h.at (by rw [e.1]; rfl) hk
theorem ech_know {w W : World} {c b mb : Nat} {s : Cst} {rs : List Res} {B : Nat} {a : Option Addr} {m cap : Nat} (h : ECh w W c b mb s rs) (hr : NRow B W (.slice a m cap) (cK s)) (hm : m = (cK s).length) (hl : (cK s).length ≤ 200) (hz : ∀ k ∈ cK s, 1 ≤ k ∧ k ≤ s.L.length) (hL : s.L.length ≤ 1000000) :
    Calls Try.prog 14 #[.pointer (some ⟨b, 0, none⟩), .slice a m cap] W fun e W' => ∃ kb, e = .returned (.tuple #[.pointer (some ⟨kb, 0, none⟩), .int .i64 0]) ∧ EKn w W' kb b mb s rs := by
  obtain ⟨lm, sv, e⟩ := h
  have e2 : Env w W (resS b sv mb s.L :: rs) := e.step (r' := resS b sv mb s.L) ⟨Fr.refl _ _, fun x hx => Or.inl (by simp [resCh]; right; right; exact hx)⟩ e.hd.1
  have hv := nis_of hr (by omega) (fun k hk => by have := hz k hk; omega)
  have K := env_new e2 a cap ((cK s).map fun (k : Nat) => (k : Int)) hv (by simp; omega)
  have hE : newE s.L ((cK s).map fun (k : Nat) => (k : Int)) = 0 := newE_ok (fun x hx => by
    obtain ⟨k, hk, rfl⟩ := List.mem_map.1 hx
    have := hz k hk
    exact thr_iff.2 (by omega))
  rw [List.length_map, ← hm] at K
  refine K.mono ?_
  rintro e' W' ⟨p, h1, h2⟩
  rw [hE] at h1 h2
  rcases h2 with ⟨c, -⟩ | ⟨-, kb, Z, rfl, h3⟩
  · cases c
  · exact ⟨kb, h1, sv, Z, h3⟩
theorem Cok.grow {s : Cst} {m m' : Nat} (h : Cok s m) {L : List Tm} (hp : Pre s.L L) (hl : L.length ≤ m') (hm : m ≤ m') : Cok { s with L := L } m' :=
  ⟨⟨h.g.1, Nat.le_trans h.g.2 hp.len⟩, hl, Nat.le_trans h.nx hm, h.ll, h.lf⟩
end Go.Proofs.Ytkaioidneknmjaa.Tn

/- ChainForgets, the walk. -/
namespace Go.Proofs.Ytkaioidneknmjaa.Tn
open Go.RowKit Go.Maps

/-- Where the law stands while keys are taken. -/
structure FA (w W : World) (c b mb : Nat) (snd n : Int) (gv : Value) (gk : List Nat) (i : Nat) (s : Cst) (rs : List Res) : Prop where
  e : ECh w W c b mb s (resN gv gk :: rs)
  v : Inv s snd n gk
  k : Cok s (200 * i + 200)
  g : gk.length ≤ i
/-- Where it stands while keys are asked for. -/
structure FB (w W : World) (c b mb : Nat) (snd n : Int) (gv : Value) (gk : List Nat) (kv : Value) (ks : List Nat) (i : Nat) (s : Cst) (rs : List Res) : Prop where
  e : ECh w W c b mb s (resN kv ks :: resN gv gk :: rs)
  v : Inv s snd n gk
  k : Cok s (110 * i + 20000)
  l : ks.length = i
  a : ∀ j k, ks[j]? = some k → IsKey s.L 1 snd j k
theorem FA.take {w W : World} {c b mb : Nat} {snd n : Int} {gv : Value} {gk : List Nat} {i : Nat} {s : Cst} {rs : List Res} (h : FA w W c b mb snd n gv gk i s rs) (hi : i ≤ 60) (t : Int) (ht : i64r t) :
    Calls Try.prog 13 #[.pointer (some ⟨c, 0, none⟩), .int .i64 t] W fun e W' => (∃ k : Nat, k ∉ gk ∧ e = .returned (.tuple #[.int .i64 (k : Int), .int .i64 0]) ∧ ECh w W' c b mb (s.take t) (resN gv gk :: rs) ∧ Inv (s.take t) snd n (gk ++ [k]) ∧ Cok (s.take t) (200 * (i + 1) + 200)) ∨ (∃ a E : Int, E ≠ 0 ∧ e = .returned (.tuple #[.int .i64 a, .int .i64 E]) ∧ FA w W' c b mb snd n gv gk (i + 1) (s.take t) rs) := by
  have hk : Cok s 900000 := h.k.mono (by omega)
  have hk2 : Cok (s.take t) (200 * (i + 1) + 200) := (h.k.take (by omega) t).mono (by omega)
  obtain ⟨h1, h2⟩ := h.v.take hk t
  refine (env_take h.e (h.k.mono (by omega)) t ht).mono ?_
  rintro e W' ⟨rfl, e2⟩
  by_cases hE : tkE s.l s.nx t = 0
  · obtain ⟨k, q1, q2, q3⟩ := h1 hE
    left
    exact ⟨k, q2, by rw [q1, hE], e2, q3, hk2⟩
  · right
    exact ⟨_, _, hE, rfl, e2, h2 hE, hk2, by have := h.g; omega⟩
theorem FA.push {w W W5 : World} {c b mb : Nat} {snd n : Int} {gv v' : Value} {gk : List Nat} {i k : Nat} {s : Cst} {rs : List Res} {ob : Obj} (he : ECh w W c b mb s (resN gv gk :: rs)) (hv : Inv s snd n (gk ++ [k])) (hk : Cok s (200 * (i + 1) + 200)) (hl : gk.length ≤ i)
    (hown : W5.ownsRow 0 3 1 v' (gk.length + 1) (gk.map (fun m => .int .i64 ((m : Nat) : Int)) ++ [.int .i64 (k : Int)])) (hg : (W.alloc ob).grownBy W5 gv.ownBlock) (hat : v'.ownBlock = gv.ownBlock ∨ v'.ownBlock = some (W.alloc ob).heap.size) : FA w W5 c b mb snd n v' (gk ++ [k]) (i + 1) s rs :=
  ⟨he.grow hown hg hat, hv, hk, by simp; omega⟩
theorem FB.key {w W : World} {c b mb : Nat} {snd n : Int} {gv : Value} {gk : List Nat} {kv : Value} {ks : List Nat} {i : Nat} {s : Cst} {rs : List Res} (h : FB w W c b mb snd n gv gk kv ks i s rs) (hi : i ≤ 102) (hs : i64r snd) :
    Calls Try.prog 7 #[.pointer (some ⟨b, 0, none⟩), .int .i64 1, .int .i64 snd, .int .i64 (i : Int)] W fun e W' => ∃ (k : Nat) (L : List Tm), e = .returned (.tuple #[.int .i64 (k : Int), .int .i64 0]) ∧ ECh w W' c b mb { s with L := L } (resN kv ks :: resN gv gk :: rs) ∧ Inv { s with L := L } snd n gk ∧ Cok { s with L := L } (110 * (i + 1) + 20000) ∧ IsKey L 1 snd i k ∧ ∀ j k, ks[j]? = some k → IsKey L 1 snd j k := by
  have hlen := h.k.len
  obtain ⟨q1, q2, q3, q4, q5⟩ := h.v.key i hi (by omega)
  refine (env_ckey h.e 1 snd i hs (by omega)).mono ?_
  rintro e W' ⟨rfl, e2⟩
  exact ⟨_, _, by rw [q1], e2, q2, h.k.grow q4 (by omega) (by omega), q3, fun j k hj => (h.a j k hj).pre q4⟩
theorem FB.push {w W W5 : World} {c b mb : Nat} {snd n : Int} {gv : Value} {gk : List Nat} {kv v' : Value} {ks : List Nat} {i k : Nat} {s : Cst} {rs : List Res} {ob : Obj} (he : ECh w W c b mb s (resN kv ks :: resN gv gk :: rs)) (hv : Inv s snd n gk) (hk : Cok s (110 * (i + 1) + 20000)) (hl : ks.length = i) (hkey : IsKey s.L 1 snd i k) (ha : ∀ j k, ks[j]? = some k → IsKey s.L 1 snd j k)
    (hown : W5.ownsRow 0 3 1 v' (ks.length + 1) (ks.map (fun m => .int .i64 ((m : Nat) : Int)) ++ [.int .i64 (k : Int)])) (hg : (W.alloc ob).grownBy W5 kv.ownBlock) (hat : v'.ownBlock = kv.ownBlock ∨ v'.ownBlock = some (W.alloc ob).heap.size) : FB w W5 c b mb snd n gv gk v' (ks ++ [k]) (i + 1) s rs := by
  refine ⟨he.grow hown hg hat, hv, hk, by simp; omega, fun j q hj => ?_⟩
  by_cases c : j < ks.length
  · rw [List.getElem?_append_left c] at hj; exact ha j q hj
  · rw [List.getElem?_append_right (by omega)] at hj
    have : j - ks.length = 0 := by
      cases h0 : j - ks.length with
      | zero => rfl
      | succ m => rw [h0] at hj; simp at hj
    rw [this] at hj
    simp at hj
    subst hj
    have e : j = i := by omega
    rw [e]; exact hkey
/-- What comes of it. -/
theorem FB.has {w W : World} {c b mb : Nat} {snd n : Int} {gv : Value} {gk : List Nat} {kv : Value} {ks : List Nat} {i : Nat} {s : Cst} {rs : List Res} (h : FB w W c b mb snd n gv gk kv ks i s rs) (hi : i ≤ 103) :
    Calls Try.prog 15 #[.pointer (some ⟨c, 0, none⟩)] W fun e W' => ∃ a m cap, e = .returned (.slice a m cap) ∧ Calls Try.prog 14 #[.pointer (some ⟨b, 0, none⟩), .slice a m cap] W' fun e W2 => ∃ kb, e = .returned (.tuple #[.pointer (some ⟨kb, 0, none⟩), .int .i64 0]) ∧ EKn w W2 kb b mb s (resN kv ks :: resN gv gk :: rs) := by
  have hll := h.k.ll
  have hlen := h.k.len
  refine (env_chas h.e (by omega) (by have := h.k.nx; omega)).mono ?_
  rintro e W' ⟨v, rfl, h2, h3, h4⟩
  obtain ⟨a, cap, hv⟩ := own_slice h2
  have hcl : (cK s).length = s.l.length + 1 := by simp [cK]
  refine ⟨a, _, cap, by rw [hv]; rfl, ech_know h4 (by rw [hv] at h2; exact h2) rfl (by omega) (cK_rng h.v) (by omega)⟩

set_option maxRecDepth 100000 in
set_option maxHeartbeats 20000000 in
theorem ChainForgets_walk (w : World) (n : Int) (_n1 : -9223372036854775808 ≤ n) (n2 : n ≤ 9223372036854775807) (snd : Int) (s1 : -9223372036854775808 ≤ snd) (s2 : snd ≤ 9223372036854775807) (ta : Option Addr) (tc : Nat) (ts : List Int) (ht : NIs w (.slice ta ts.length tc) ts) :
    Calls Try.prog 4 #[.int .i64 n, .int .i64 snd, .slice ta ts.length tc] w fun e w' => e = .returned (.bool true) ∧ Below w.heap.size w w' := by
  clear _n1
  obtain ⟨j0, hj, hy0, hy1, hy2⟩ := info_parts Try.infoInt
  obtain ⟨N, hN⟩ : ∃ N, N = ts.length := ⟨_, rfl⟩
  have hNb : (N : Int) ≤ 140737488355328 := by obtain ⟨a, c, e, h, -⟩ := ht; omega
  have HT : Hid (∀ W, Below w.heap.size w W → ∀ (i : Nat) (z : Int), ts[i]? = some z → i64r z ∧ ∃ g o, ta = some ⟨g, o, none⟩ ∧ W.cell? ⟨g, o + i, none⟩ = some (.int .i64 z)) := fun W hb i z hz => by
    obtain ⟨a, c, e, h1, h2, h3⟩ := ht.bw hb
    refine ⟨h2 z (List.mem_of_getElem? hz), ?_⟩
    rcases h3 with h3 | ⟨g, o, h4, h5⟩
    · rw [h3] at hz; cases hz
    · simp only [Value.slice.injEq] at e
      exact ⟨g, o, by rw [e.1, h4], h5 i z hz⟩
  rw [← hN]
  by_cases n0 : n < 0
  · have n0' : decide (n < 0) = true := decide_eq_true n0
    clear HT ht hN s1 s2 n2
    go_enter Try.func4, Try.ntmps4
    go_wp2
    go_ret
    exact ⟨rfl, Below.refl _ _⟩
  have n0' : decide (n < 0) = false := decide_eq_false n0
  by_cases hbig : 60 < N
  · have hbI : (60 : Int) < (N : Int) := by omega
    clear HT ht hN s1 s2 n2
    go_enter Try.func4, Try.ntmps4
    go_wp2
    go_ret
    exact ⟨rfl, Below.refl _ _⟩
  have hsm : (N : Int) ≤ 60 := by omega
  have HNN := hide (And.intro hN (show N ≤ 60 by omega))
  have KB := hide (build1 w n (by omega) n2)
  have KN : Hid (∀ W b sv mb rb rv, Env w W [resS b sv mb (lvL n), resR rb rv (lvL n)] → Calls Try.prog 12 #[.pointer (some ⟨b, 0, none⟩), .int .i64 1, .int .i64 snd] W fun e W' => ∃ c, e = .returned (.tuple #[.pointer (some ⟨c, 0, none⟩), .int .i64 0]) ∧ FA w W' c b mb snd n (.slice none 0 0) [] 0 ⟨(beg (lvL n) 1 snd).1, [], 0, (beg (lvL n) 1 snd).2⟩ [resR rb rv (lvL n)]) := fun W b sv mb rb rv h => by
    refine (env_cnew h 1 snd (thr_iff.2 (by simp [lvL])) ⟨s1, s2⟩ (by simp [lvL])).mono ?_
    rintro e W' ⟨c, h1, h2⟩
    exact ⟨c, h1, h2.addRow, inv_new (by omega), (cok_new (thr_iff.2 (by simp [lvL])) (by simp [lvL])).mono (by simp [lvL]), by simp⟩
  have KE : Hid (∀ W, Below w.heap.size w W → Calls Try.prog 11 #[] W fun e w' => e = .returned (.bool true) ∧ Below w.heap.size w w') := fun W hW => lives11 hW
  have HS := hide (show i64r snd from ⟨s1, s2⟩)
  clear ht hN s1 s2 n2 hbig
  generalize (⟨(beg (lvL n) 1 snd).1, [], 0, (beg (lvL n) 1 snd).2⟩ : Cst) = s0 at *
  go_enter Try.func4, Try.ntmps4
  go_wp2_with fail
  refine (unhide KB).mono ?_
  rintro e w1 ⟨b, sv, mb, rb, rv, rfl, E1⟩
  have Q1 := hide (unhide KN _ _ _ _ _ _ E1)
  clear E1 KB KN
  go_wp2_with fail
  refine (unhide Q1).mono ?_
  rintro e w2 ⟨c, rfl, F2⟩
  have A0 := hide F2
  clear F2 Q1
  generalize [resR rb rv (lvL n)] = rs at *
  go_wp2_with fail
  go_loopw [12, 13] (fun gv iv wr => ∃ (i m : Nat) (a : Option Addr) (cap : Nat) (gk : List Nat) (s : Cst), gv = .slice a m cap ∧ iv = .int .i64 (i : Int) ∧ i ≤ N ∧ Hid (m = gk.length ∧ FA w wr c b mb snd n (.slice a m cap) gk i s rs)) (fun _ iv _ => (N - intOf iv).toNat)
  case atStart => exact ⟨0, 0, none, 0, [], s0, rfl, rfl, by omega, ⟨rfl, unhide A0⟩⟩
  case round =>
    clear A0
    obtain ⟨i, m, ga, gc, gk, s, rfl, rfl, hi, HF⟩ := hrel
    by_cases hlt : i < N
    · obtain ⟨z, hz⟩ : ∃ z, ts[i]? = some z := ⟨_, List.getElem?_eq_getElem (by rw [← (unhide HNN).1]; exact hlt)⟩
      obtain ⟨hzr, g, o, rfl, dz⟩ := unhide HT wr (unhide HF).2.e.bel i z hz
      have q1 : (i : Int) < (N : Int) := by omega
      have q0 : (0 : Int) ≤ (i : Int) := by omega
      have hi60 : i ≤ 60 := by have := (unhide HNN).2; omega
      by_cases hz9 : 100 < z
      · have hz9' : decide (100 < z) = true := decide_eq_true hz9
        have HF2 : Hid (m = gk.length ∧ FA w wr c b mb snd n (.slice ga m gc) gk (i + 1) s rs) := by
          obtain ⟨h0, h1⟩ := unhide HF
          exact ⟨h0, h1.e, h1.v, h1.k.mono (by omega), by have := h1.g; omega⟩
        clear HF hzr hz
        go_wp2_with fail
        go_roundw
        case rel => exact ⟨i + 1, m, ga, gc, gk, s, rfl, by go_num, by omega, HF2⟩
        case measure => simp only [intOf]; omega
      · have hz9' : decide (100 < z) = false := decide_eq_false hz9
        have KT := hide ((unhide HF).2.take hi60 z hzr)
        have HG := hide (And.intro (unhide HF).1 (unhide HF).2.g)
        clear HF hzr hz
        go_wp2_with fail
        refine (unhide KT).mono ?_
        rintro e w3 (⟨k, hk, rfl, e3, v3, k3⟩ | ⟨av, E, hE, rfl, F3⟩)
        · have HK := hide (And.intro hk (And.intro e3 (And.intro v3 k3)))
          have hrow : NRow 0 w3 (.slice ga m gc) gk := e3.row (by simp)
          have HRW := hide hrow
          clear hk e3 v3 k3 KT dz hrow
          go_wp2_with fail
          go_loopw [16] (fun jv wq => ∃ j : Nat, jv = .int .i64 (j : Int) ∧ j ≤ m ∧ wq = w3) (fun jv _ => (m - intOf jv).toNat)
          case atStart => exact ⟨0, rfl, by omega, rfl⟩
          case round =>
            obtain ⟨j, rfl, hj, rfl⟩ := hrel
            by_cases hjm : j < m
            · obtain ⟨x, hx⟩ : ∃ x, gk[j]? = some x := ⟨_, List.getElem?_eq_getElem (by rw [← (unhide HG).1]; exact hjm)⟩
              obtain ⟨gg, cc, ee, -⟩ := own_open (unhide HRW) (by rw [← (unhide HG).1]; omega)
              simp only [Value.slice.injEq] at ee
              obtain ⟨ee1, -, -⟩ := ee
              subst ee1
              have dx := (unhide HRW).at (g := gg) rfl hx
              have hxk : (x : Int) ≠ (k : Int) := fun c => (unhide HK).1 (by have : x = k := by omega
                                                                             subst this; exact List.mem_of_getElem? hx)
              have x1 : decide ((x : Int) = (k : Int)) = false := decide_eq_false hxk
              have x2 : ((x : Int) == (k : Int)) = false := by simpa using hxk
              have r1 : (j : Int) < (m : Int) := by omega
              have r0 : (0 : Int) ≤ (j : Int) := by omega
              have m60 : (m : Int) ≤ 100 := by have := unhide HG; omega
              clear hxk hx
              go_wp2_with fail
              go_roundw
              case rel => exact ⟨j + 1, by go_num, by omega, by first | rfl | trivial⟩
              case measure => simp only [intOf]; omega
            · obtain rfl : j = m := by omega
              have hrow : wr.ownsRow 0 3 1 (.slice ga j gc) j (gk.map (fun m => .int .i64 ((m : Nat) : Int))) := by have := unhide HRW; unfold NRow at this; rw [← (unhide HG).1] at this; exact this
              have hjb : j ≤ 100 := by have := unhide HG; omega
              clear hjm hj
              go_wp2_with (at_builtin; refine wpList_append_own_at _ rfl (.tmp 91) (.tmp 93) 37 rfl 0 3 j0 (.int .i64 0) 1 8 Try.underlying37 hj hy0 hy1 hy2 rfl (by decide) _ j _ rfl (World.ownsRow.alloc hrow _) ⟨wr.heap.size, 0, none⟩ 1 1 [_] rfl rfl (cell_one_new _ _ _) ?c2 ?c3 ?c4 ?c5 ?nx)
              case c2 => intro u hu; simp at hu; subst hu; rfl
              case c3 => unfold maxLen; omega
              case c4 => omega
              case c5 => simp
              case nx =>
                intro v' w4 hown' hgrow _ hpl
                obtain ⟨hkk, e3, v3, k3⟩ := unhide HK
                have hgl := unhide HG
                have P := FA.push (i := i) e3 v3 k3 hgl.2 (by rw [← hgl.1]; exact hown') hgrow (by simpa using hpl)
                obtain ⟨a4, c4, rfl⟩ : ∃ a4 c4, v' = .slice a4 (j + 1) c4 := own_slice hown'
                have HP : Hid (j + 1 = (gk ++ [k]).length ∧ FA w w4 c b mb snd n (.slice a4 (j + 1) c4) (gk ++ [k]) (i + 1) (s.take z) rs) := ⟨by simp; omega, P⟩
                clear P hown' hgrow hpl hkk e3 v3 k3 hgl HK HG HRW hrow
                go_wp2_with fail
                go_roundw
                case rel => exact ⟨i + 1, j + 1, a4, c4, gk ++ [k], s.take z, rfl, by go_num, by omega, HP⟩
                case measure => simp only [intOf]; omega
        · have HF3 : Hid (m = gk.length ∧ FA w w3 c b mb snd n (.slice ga m gc) gk (i + 1) (s.take z) rs) := ⟨(unhide HG).1, F3⟩
          have E1 : decide (E = 0) = false := decide_eq_false hE
          have E2 : (E == 0) = false := by simpa using hE
          clear F3 KT hE HG dz
          go_wp2_with fail
          go_roundw
          case rel => exact ⟨i + 1, m, ga, gc, gk, s.take z, rfl, by go_num, by omega, HF3⟩
          case measure => simp only [intOf]; omega
    · have B0 : Hid (FB w wr c b mb snd n (.slice ga m gc) gk (.slice none 0 0) [] 0 s rs) := by
        have h1 := (unhide HF).2
        exact ⟨h1.e.addRow, h1.v, h1.k.mono (by have := (unhide HNN).2; omega), rfl, fun j k hj => by cases hj⟩
      have hm60 : Hid (m = gk.length ∧ m ≤ 60) := by have h1 := unhide HF; have := h1.2.g; have := (unhide HNN).2; exact ⟨h1.1, by omega⟩
      have hie : i = N := by omega
      subst hie
      clear HF HT hlt hi
      go_wp2_with fail
      go_loopw [17, 18] (fun kv iv wq => ∃ (q : Nat) (a : Option Addr) (cap : Nat) (ks : List Nat) (s : Cst), kv = .slice a q cap ∧ iv = .int .i64 (q : Int) ∧ q ≤ 103 ∧ Hid (FB w wq c b mb snd n (.slice ga m gc) gk (.slice a q cap) ks q s rs)) (fun _ iv _ => (103 - intOf iv).toNat)
      case atStart => exact ⟨0, none, 0, [], s, rfl, rfl, by omega, B0⟩
      case round =>
        clear B0
        obtain ⟨q, ka, kc, ks, s, rfl, rfl, hq, HB⟩ := hrel
        by_cases hq3 : q < 103
        · have r1 : (q : Int) ≤ 102 := by omega
          have r0 : (0 : Int) ≤ (q : Int) := by omega
          have KK := hide ((unhide HB).key (by omega) (unhide HS))
          have HKL := hide (unhide HB).l
          clear HB
          go_wp2_with fail
          refine (unhide KK).mono ?_
          rintro e w3 ⟨k, L, rfl, e3, v3, k3, y3, a3⟩
          have hrow : w3.ownsRow 0 3 1 (.slice ka q kc) q (ks.map (fun m => .int .i64 ((m : Nat) : Int))) := by have := e3.row (v := .slice ka q kc) (l := ks) (by simp); unfold NRow at this; rw [unhide HKL] at this; exact this
          have HK := hide (And.intro e3 (And.intro v3 (And.intro k3 (And.intro y3 a3))))
          clear e3 v3 k3 y3 a3 KK
          go_wp2_with (at_builtin; refine wpList_append_own_at _ rfl (.tmp 108) (.tmp 110) 37 rfl 0 3 j0 (.int .i64 0) 1 8 Try.underlying37 hj hy0 hy1 hy2 rfl (by decide) _ q _ rfl (World.ownsRow.alloc hrow _) ⟨w3.heap.size, 0, none⟩ 1 1 [_] rfl rfl (cell_one_new _ _ _) ?c2 ?c3 ?c4 ?c5 ?nx)
          case c2 => intro u hu; simp at hu; subst hu; rfl
          case c3 => unfold maxLen; omega
          case c4 => omega
          case c5 => simp
          case nx =>
            intro v' w4 hown' hgrow _ hpl
            obtain ⟨e3, v3, k3, y3, a3⟩ := unhide HK
            have P := FB.push e3 v3 k3 (unhide HKL) y3 a3 (by rw [unhide HKL]; exact hown') hgrow (by simpa using hpl)
            obtain ⟨a4, c4, rfl⟩ : ∃ a4 c4, v' = .slice a4 (q + 1) c4 := own_slice hown'
            have HP := hide P
            clear P hown' hgrow hpl e3 v3 k3 y3 a3 HK hrow HKL
            go_wp2_with fail
            go_roundw
            case rel => exact ⟨q + 1, a4, c4, ks ++ [k], _, rfl, by go_num, by omega, HP⟩
            case measure => simp only [intOf]; omega
        · obtain rfl : q = 103 := by omega
          clear hq3 hq
          have KH := hide ((unhide HB).has (by omega))
          have hv := (unhide HB).v
          have hck : Cok s 900000 := (unhide HB).k.mono (by omega)
          have HV : Hid (∀ (j k : Nat), ks[j]? = some k → hasB s.L (fun m => (m : Int) ∈ (cK s).map fun (k : Nat) => (k : Int)) (k : Int) = !decide (k ∈ gk)) := fun j k hj => has_key hv hck ((unhide HB).a j k hj)
          have hv1 := has_one hv hck
          have HKL := hide (unhide HB).l
          clear HB hv hck HS
          go_wp2_with fail
          refine (unhide KH).mono ?_
          rintro e w3 ⟨na, nm, nc, rfl, KN⟩
          have KN2 := hide KN
          clear KN KH
          go_wp2_with fail
          refine (unhide KN2).mono ?_
          rintro e w4 ⟨kb, rfl, E4⟩
          have HE := hide E4
          clear E4 KN2
          have KH1 : Hid (∀ W, EKn w W kb b mb s (resN (.slice ka 103 kc) ks :: resN (.slice ga m gc) gk :: rs) → Calls Try.prog 16 #[.pointer (some ⟨kb, 0, none⟩), .int .i64 1] W fun e W' => e = .returned (.bool false) ∧ EKn w W' kb b mb s (resN (.slice ka 103 kc) ks :: resN (.slice ga m gc) gk :: rs)) := fun W h => by
            have := h.has 1
            rw [hv1] at this
            exact this
          have KHk : Hid (∀ W (j k : Nat), ks[j]? = some k → EKn w W kb b mb s (resN (.slice ka 103 kc) ks :: resN (.slice ga m gc) gk :: rs) → Calls Try.prog 16 #[.pointer (some ⟨kb, 0, none⟩), .int .i64 (k : Int)] W fun e W' => e = .returned (.bool (!decide (k ∈ gk))) ∧ EKn w W' kb b mb s (resN (.slice ka 103 kc) ks :: resN (.slice ga m gc) gk :: rs)) := fun W j k hj h => by
            have := h.has (k : Int)
            rw [unhide HV j k hj] at this
            exact this
          have KRow : Hid (∀ W, EKn w W kb b mb s (resN (.slice ka 103 kc) ks :: resN (.slice ga m gc) gk :: rs) → NRow 0 W (.slice ka 103 kc) ks ∧ NRow 0 W (.slice ga m gc) gk) := fun W h => ⟨h.row (by simp), h.row (by simp)⟩
          clear hv1 HV
          generalize hrs : (resN (.slice ka 103 kc) ks :: resN (.slice ga m gc) gk :: rs) = rs2 at HE KH1 KHk KRow
          clear hrs
          go_wp2_with fail
          go_loopw [23] (fun iv wq => ∃ q : Nat, iv = .int .i64 (q : Int) ∧ q ≤ 103 ∧ Hid (EKn w wq kb b mb s rs2)) (fun iv _ => (103 - intOf iv).toNat)
          case atStart => exact ⟨0, rfl, by omega, HE⟩
          case round =>
            clear HE
            obtain ⟨q, rfl, hq, HE⟩ := hrel
            by_cases hq3 : q < 103
            · obtain ⟨k, hk⟩ : ∃ k, ks[q]? = some k := ⟨_, List.getElem?_eq_getElem (by rw [unhide HKL]; exact hq3)⟩
              have r1 : (q : Int) < 103 := by omega
              have r0 : (0 : Int) ≤ (q : Int) := by omega
              have HKq := hide (unhide KHk · q k hk)
              obtain ⟨gg, cc, ee, -⟩ := own_open (unhide KRow _ (unhide HE)).1 (by rw [unhide HKL]; omega)
              simp only [Value.slice.injEq] at ee
              obtain ⟨ee1, -, -⟩ := ee
              subst ee1
              have HCk : Hid (∀ W, EKn w W kb b mb s rs2 → W.cell? ⟨gg, q, none⟩ = some (.int .i64 (k : Int))) := fun W h => (unhide KRow W h).1.at rfl hk
              clear hk KHk
              go_wp2_with fail
              go_loopw [24, 25] (fun tv jv wq => ∃ j : Nat, tv = .bool (decide (k ∈ gk.take j)) ∧ jv = .int .i64 (j : Int) ∧ j ≤ m ∧ Hid (EKn w wq kb b mb s rs2)) (fun _ jv _ => (m - intOf jv).toNat)
              case atStart => exact ⟨0, by simp, rfl, by omega, HE⟩
              case round =>
                clear HE
                obtain ⟨j, rfl, rfl, hjm, HE⟩ := hrel
                by_cases hjlt : j < m
                · obtain ⟨x, hx⟩ : ∃ x, gk[j]? = some x := ⟨_, List.getElem?_eq_getElem (by rw [← (unhide hm60).1]; exact hjlt)⟩
                  obtain ⟨g2, c2, e2, -⟩ := own_open (unhide KRow _ (unhide HE)).2 (by rw [← (unhide hm60).1]; omega)
                  simp only [Value.slice.injEq] at e2
                  obtain ⟨e21, -, -⟩ := e2
                  subst e21
                  have dx := (unhide KRow _ (unhide HE)).2.at (g := g2) rfl hx
                  have dk := unhide HCk _ (unhide HE)
                  have t1 : (j : Int) < (m : Int) := by omega
                  have t0 : (0 : Int) ≤ (j : Int) := by omega
                  have t9 : (m : Int) ≤ 60 := by have := (unhide hm60).2; omega
                  have hsn : gk.take (j + 1) = gk.take j ++ [x] := by rw [List.take_add_one, hx]; rfl
                  have HEn : Hid (∀ W, Below wr.heap.size wr W → EKn w W kb b mb s rs2) := fun W hb => (unhide HE).new hb
                  cases ht : decide (k ∈ gk.take j)
                  · by_cases hxk : x = k
                    · have hm1 : decide (k ∈ gk.take (j + 1)) = true := by rw [hsn]; simp [hxk]
                      subst hxk
                      clear hsn ht HE hx HKq HCk
                      go_wp2_with fail
                      go_quiet (fail)
                      go_wp2_with fail
                      go_roundw
                      case rel => exact ⟨j + 1, by rw [hm1], by go_num, by omega, unhide HEn _ (below_drewN (Below.refl _ _) _)⟩
                      case measure => simp only [intOf]; omega
                    · have hm1 : decide (k ∈ gk.take (j + 1)) = false := by
                        rw [hsn]
                        have := of_decide_eq_false ht
                        simp only [List.mem_append, List.mem_singleton, decide_eq_false_iff_not, not_or]
                        exact ⟨this, fun c => hxk c.symm⟩
                      have x1 : decide ((x : Int) = (k : Int)) = false := decide_eq_false (by omega)
                      have x2 : ((x : Int) == (k : Int)) = false := by simp; omega
                      clear hsn ht HE hx HKq HCk hxk
                      go_wp2_with fail
                      go_quiet (fail)
                      go_wp2_with fail
                      go_roundw
                      case rel => exact ⟨j + 1, by rw [hm1], by go_num, by omega, unhide HEn _ (below_drewN (Below.refl _ _) _)⟩
                      case measure => simp only [intOf]; omega
                  · have hm1 : decide (k ∈ gk.take (j + 1)) = true := by
                      rw [hsn]
                      have := of_decide_eq_true ht
                      simp [this]
                    clear hsn ht HE hx HKq HCk dx dk
                    go_wp2_with fail
                    go_quiet (fail)
                    go_wp2_with fail
                    go_roundw
                    case rel => exact ⟨j + 1, by rw [hm1], by go_num, by omega, unhide HEn _ (below_drewN (Below.refl _ _) _)⟩
                    case measure => simp only [intOf]; omega
                · have hje : j = m := by omega
                  subst hje
                  have e9 : gk.take j = gk := List.take_of_length_le (by rw [(unhide hm60).1]; exact Nat.le_refl _)
                  rw [e9]
                  have dk := unhide HCk _ (unhide HE)
                  have K1 := hide (unhide HKq _ (unhide HE))
                  generalize decide (k ∈ gk) = dd at *
                  clear e9 HE HKq HCk hjlt hjm
                  go_wp2_with fail
                  refine (unhide K1).mono ?_
                  rintro e w6 ⟨rfl, E6⟩
                  have HE6 := hide E6
                  clear E6 K1 dk
                  cases dd
                  all_goals
                    go_wp2_with fail
                    go_roundw
                    case rel => exact ⟨q + 1, by go_num, by omega, HE6⟩
                    case measure => simp only [intOf]; omega
            · obtain rfl : q = 103 := by omega
              clear hq3 hq
              have K1 := hide (unhide KH1 _ (unhide HE))
              clear HE KHk KRow
              go_wp2_with fail
              refine (unhide K1).mono ?_
              rintro e w6 ⟨rfl, E6⟩
              have K2 := hide (unhide KE _ E6.bel)
              clear E6 K1
              go_wp2_with fail
              refine (unhide K2).mono ?_
              rintro e w7 ⟨rfl, b7⟩
              go_wp2
              go_ret
              exact ⟨rfl, b7⟩
end Go.Proofs.Ytkaioidneknmjaa.Tn
