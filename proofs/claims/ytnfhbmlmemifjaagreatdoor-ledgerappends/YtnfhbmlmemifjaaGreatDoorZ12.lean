/- Texts joined: TrS TtF LgA LgPk LgH LgB LgC. -/
import Derived.Test.YtnfhbmlmemifjaaGreatDoorZ11
import Derived.Test.YtnfhbmlmemifjaaGreatDoorZ03
import Derived.Test.YtnfhbmlmemifjaaGreatDoorZ04
import Derived.Deep.RegionHeld3
import Derived.Test.YtnfhbmlmemifjaaGreatDoorZ05
import Derived.Test.YtnfhbmlmemifjaaGreatDoorZ06
/- What the laws of layer 8 ask besides: TreeSize, Beyond, SameNode, has, names. -/
namespace Go.Proofs.YtnfhbmlmemifjaaGreatDoor
open Go.RowKit Go.Maps
set_option maxHeartbeats 2000000 in
theorem sameNode_eq {w : World} {u u' : Value} {n : Nd} (h : Nums w u n.un) (h' : Nums w u' n.un) :
    Calls Tryz.prog 294 #[.agg #[.int .i64 n.pub, .int .i64 n.mem, .int .i64 n.ep, u], .agg #[.int .i64 n.pub, .int .i64 n.mem, .int .i64 n.ep, u']] w fun e w' => e = .returned (.bool true) ∧ Below w.heap.size w w' := by
  obtain ⟨a, c, rfl⟩ := nums_slice h
  obtain ⟨a', c', rfl⟩ := nums_slice h'
  have hb : Below w.heap.size w ((w.alloc (.cells #[.int .i64 n.pub, .int .i64 n.mem, .int .i64 n.ep, .slice a n.un.length c] 256)).alloc (.cells #[.int .i64 n.pub, .int .i64 n.mem, .int .i64 n.ep, .slice a' n.un.length c'] 256)) := (bwA _ _).alloc (by simp) _
  have K := hide (same_any _ _ _ _ _ (h.bw hb) (h'.bw hb))
  rw [decide_eq_true rfl] at K
  clear h h'
  generalize n.un.length = L at *
  go_enter Tryz.func294, Tryz.ntmps294
  go_wp2_with fail
  refine (unhide K).mono ?_
  rintro e w1 ⟨rfl, b1⟩
  have b2 := bw_tr hb b1
  go_wp2
  go_ret
  exact ⟨rfl, b2⟩
end Go.Proofs.YtnfhbmlmemifjaaGreatDoor

/- The contract of TreeSize: what it answers where it is not beyond. -/
namespace Go.Proofs.YtnfhbmlmemifjaaGreatDoor
open Go.RowKit Go.Maps
def usum (T : List Nd) : Nat := (T.map (·.un.length)).sum
theorem usum_mem {T : List Nd} {n : Nd} (h : n ∈ T) : n.un.length ≤ usum T := by
  unfold usum
  induction T with
  | nil => cases h
  | cons a T ih =>
    simp only [List.map_cons, List.sum_cons]
    rcases List.mem_cons.1 h with rfl | h
    · omega
    · have := ih h; omega
theorem usum_take {T : List Nd} {i : Nat} (h : i < T.length) : usum (T.take (i + 1)) = usum (T.take i) + (ndAt T i).un.length := by
  unfold usum
  rw [List.take_add_one, ndAt_of h]
  simp
set_option maxRecDepth 100000 in
set_option maxHeartbeats 2000000 in
theorem treeSize2_any {w : World} {v : Value} {T : List Nd} (h : Trd w v T) :
    Calls Tryz.prog 159 #[.agg #[v]] w fun e w' => ∃ n : Nat, e = .returned (.int .i64 (n : Int)) ∧ n ≤ 1125899906842624 ∧ (n ≤ 262144 → n = T.length + usum T) ∧ Below w.heap.size w w' := by
  obtain ⟨a, c, rfl⟩ := h.slice
  have hl := h.len
  obtain ⟨-, h2⟩ := h.at
  have HC : Hid (∀ i, i < T.length → ∃ b o ua ul uc, a = some ⟨b, o, none⟩ ∧ ul = (ndAt T i).un.length ∧ ul ≤ 140737488355328 ∧ ∀ W, Below w.heap.size w W → W.cell? ⟨b, o + i * 4 + 3, none⟩ = some (.slice ua ul uc)) := fun i hi => by
    obtain ⟨b, o, e, h3⟩ := h2 (by omega)
    obtain ⟨u, k1, k2⟩ := h3 w (Below.refl _ _) i hi
    obtain ⟨ua, uc, rfl⟩ := nums_slice k2
    have hB : b < w.heap.size := lt_of_cell k1.c3
    exact ⟨b, o, ua, _, uc, e, rfl, h.unl _ (ndAt_mem hi), fun W hW => (k1.bw hB hW).c3⟩
  obtain ⟨W0, hW0⟩ : ∃ W0, W0 = bxw w (.slice a T.length c) := ⟨_, rfl⟩
  have hb0 : Below w.heap.size w W0 := by rw [hW0]; exact bwA _ _
  have c0 : W0.cell? ⟨w.heap.size, 0, none⟩ = some (.slice a T.length c) := by rw [hW0]; exact bx_cell (Below.refl _ _)
  have HW : Hid (W0 = w.alloc (.cells #[.slice a T.length c] 32)) := hW0
  have hlI : (T.length : Int) ≤ 140737488355328 := by omega
  have HL := hide hl
  obtain ⟨N, hN⟩ : ∃ N, N = T.length := ⟨_, rfl⟩
  rw [← hN] at HC c0 HW hlI HL ⊢
  have HN := hide hN
  clear h h2 hW0 hl hN
  go_enter Tryz.func159, Tryz.ntmps159
  go_upto_region 2 with fail
  rw [← unhide HW]
  go_wp2_with fail
  go_loopw [3, 4] (fun nv iv wr => ∃ (n i : Nat), nv = .int .i64 (n : Int) ∧ iv = .int .i64 (i : Int) ∧ i ≤ N ∧ Hid (n ≤ 281474976710656 ∧ n = N + usum (T.take i)) ∧ wr = W0) (fun _ iv _ => (N - (intOf iv)).toNat)
  case atStart => exact ⟨N, 0, rfl, rfl, by omega, ⟨by have := unhide HL; omega, by simp [usum]⟩, rfl⟩
  case round =>
    obtain ⟨n, i, rfl, rfl, hiN, hn, rfl⟩ := hrel
    by_cases hlt : i < N
    · have q1 : (i : Int) < (N : Int) := by omega
      have q0 : (0 : Int) ≤ (i : Int) := by omega
      by_cases hs : n ≤ 262144
      · have hs1 : (n : Int) ≤ 262144 := by omega
        obtain ⟨b, o, ua, ul, uc, rfl, hue, hul, hc⟩ := unhide HC i hlt
        have c3 := hc _ hb0
        have hul1 : (ul : Int) ≤ 140737488355328 := by omega
        have HX : Hid (n + ul ≤ 281474976710656 ∧ n + ul = N + usum (T.take (i + 1))) := by
          refine ⟨by omega, ?_⟩
          rw [usum_take (by rw [← unhide HN]; exact hlt), ← hue, (unhide hn).2]
          omega
        clear hs hul hc hue hn
        go_wp2_with fail
        go_roundw
        case rel => exact ⟨n + ul, i + 1, by go_num, by go_num, by omega, HX, by trivial⟩
        case measure => simp [intOf]; omega
      · have hs1 : decide ((n : Int) ≤ 262144) = false := decide_eq_false (by omega)
        have HS := hide hs
        clear hs
        go_wp2_with fail
        go_ret
        exact ⟨n, rfl, by have := unhide hn; omega, fun q => absurd q (unhide HS), hb0⟩
    · obtain rfl : i = N := by omega
      go_wp2_with fail
      go_ret
      refine ⟨n, rfl, by have := unhide hn; omega, fun _ => ?_, hb0⟩
      have := (unhide hn).2
      rw [List.take_of_length_le (by have := unhide HN; omega)] at this
      exact this
end Go.Proofs.YtnfhbmlmemifjaaGreatDoor

/- How great a commit, a log, logs are: CommitSize, LogSize, size. -/
namespace Go.Proofs.YtnfhbmlmemifjaaGreatDoor
open Go.RowKit Go.Maps
def cmN (c : Cm) : Nat := 1 + c.adds.length + c.rem.length + c.seals.length + c.joins.length + (c.next.length + usum c.next)
theorem blk_c {W : World} {k i : Nat} {cs : Array Value} {t : TypeId} {v : Value} (hk : W.heap[k]? = some (.cells cs t (0, 0))) (h : cs[i]? = some v) : W.cell? ⟨k, i, none⟩ = some v := by
  simp [World.cell?, hk, h]
theorem kept_b {w w' : World} {k : Nat} {o : Obj} (h : w.heap[k]? = some o) (hk : k < w.heap.size) (hb : Below w.heap.size w w') : w'.heap[k]? = some o := by rw [hb.block k hk]; exact h
theorem wrap_id {z : Int} (h : -9223372036854775808 ≤ z ∧ z ≤ 9223372036854775807) : IntKind.i64.wrap z = z := by rw [IntKind.wrap_i64]; omega
set_option maxRecDepth 100000 in
set_option maxHeartbeats 4000000 in
theorem cmsize_any {w : World} {c : Cm} {x : Cv} (h : CmR w c x) :
    Calls Tryz.prog 26 #[cmV c x] w fun e w' => ∃ n : Nat, e = .returned (.int .i64 (n : Int)) ∧ n ≤ 2251799813685248 ∧ (n ≤ 262144 → n = cmN c) ∧ Below w.heap.size w w' := by
  obtain ⟨a1, k1, e1⟩ := h.adds.slice
  obtain ⟨a2, k2, e2⟩ := nums_slice h.rem
  obtain ⟨a3, k3, e3⟩ := h.seals.slice
  obtain ⟨a4, k4, e4⟩ := h.joins.slice
  have b1 := h.adds.len
  have b2 := h.rlen
  have b3 := h.seals.len
  have b4 := h.joins.len
  have hN := h.next
  obtain ⟨A, hA⟩ : ∃ A, A = c.adds.length := ⟨_, rfl⟩
  obtain ⟨R, hR⟩ : ∃ A, A = c.rem.length := ⟨_, rfl⟩
  obtain ⟨Q, hQ⟩ : ∃ A, A = c.seals.length := ⟨_, rfl⟩
  obtain ⟨J, hJ⟩ : ∃ A, A = c.joins.length := ⟨_, rfl⟩
  rw [← hA] at e1 b1
  rw [← hR] at e2 b2
  rw [← hQ] at e3 b3
  rw [← hJ] at e4 b4
  have hcn : cmN c = 1 + A + R + Q + J + (c.next.length + usum c.next) := by unfold cmN; rw [hA, hR, hQ, hJ]
  obtain ⟨CN, hCN⟩ : ∃ CN, CN = cmN c := ⟨_, rfl⟩
  obtain ⟨TN, hTN⟩ : ∃ TN, TN = c.next.length + usum c.next := ⟨_, rfl⟩
  rw [← hCN] at hcn ⊢
  rw [← hTN] at hcn
  obtain ⟨w0, hw0⟩ : ∃ w0, w0 = w.alloc (.cells (cmC c x).toArray 34) := ⟨_, rfl⟩
  have bl : Below w.heap.size w w0 := by rw [hw0]; exact bwA _ _
  have kk : w0.heap[w.heap.size]? = some (.cells (cmC c x).toArray 34 (0, 0)) := by rw [hw0]; exact heap_alloc_new _ _
  obtain ⟨g0, g1, g2, g3, g4, g5, adds, rem, seals, joins, g10, g11, next, g13, g14⟩ := c
  obtain ⟨av, rv, qv, jv, nv⟩ := x
  simp only at e1 e2 e3 e4 hN hTN
  subst e1 e2 e3 e4
  have HS : Hid (∀ W, Below w0.heap.size w0 W → (W.cell? ⟨w.heap.size, 6, none⟩ = some (.slice a1 A k1) ∧ W.cell? ⟨w.heap.size, 7, none⟩ = some (.slice a2 R k2) ∧ W.cell? ⟨w.heap.size, 8, none⟩ = some (.slice a3 Q k3) ∧ W.cell? ⟨w.heap.size, 9, none⟩ = some (.slice a4 J k4) ∧ W.cell? ⟨w.heap.size, 12, none⟩ = some nv) ∧ Below w.heap.size w W) := fun W hW => by
    have k := kept_b kk (lt_of_blk kk) hW
    exact ⟨⟨blk_c k rfl, blk_c k rfl, blk_c k rfl, blk_c k rfl, blk_c k rfl⟩, bw_tr bl hW⟩
  have KT : Hid (Calls Tryz.prog 159 #[.agg #[nv]] w0.drew fun e w' => ∃ n : Nat, e = .returned (.int .i64 (n : Int)) ∧ n ≤ 1125899906842624 ∧ (n ≤ 262144 → n = TN) ∧ Below w0.heap.size w0 w') := by
    have bd : Below w0.heap.size w0 w0.drew := (Below.refl _ _).drew
    have := treeSize2_any (hN.bw (bw_tr bl bd))
    rw [← hTN] at this
    refine Calls.mono this ?_
    rintro e w' ⟨n, q1, q2, q3, q4⟩
    exact ⟨n, q1, q2, q3, bw_tr bd q4⟩
  have S0 := (unhide HS w0 (Below.refl _ _)).1
  have S00 : w0.drew.cell? ⟨w.heap.size, 6, none⟩ = some (.slice a1 A k1) ∧ w0.drew.cell? ⟨w.heap.size, 7, none⟩ = some (.slice a2 R k2) ∧ w0.drew.cell? ⟨w.heap.size, 8, none⟩ = some (.slice a3 Q k3) ∧ w0.drew.cell? ⟨w.heap.size, 9, none⟩ = some (.slice a4 J k4) ∧ w0.drew.cell? ⟨w.heap.size, 12, none⟩ = some nv := S0
  have HW : Hid (w0 = w.alloc (.cells #[.int .i64 g0, .int .i64 g1, .int .i64 g2, .int .i64 g3, .int .i64 g4, .bool g5, .slice a1 A k1, .slice a2 R k2, .slice a3 Q k3, .slice a4 J k4, .int .i64 g10, .int .i64 g11, nv, .int .i64 g13, .int .i64 g14] 34)) := hw0
  obtain ⟨z1, y1⟩ : ∃ z : Nat, z = 1 + A := ⟨_, rfl⟩
  obtain ⟨z2, y2⟩ : ∃ z : Nat, z = z1 + R := ⟨_, rfl⟩
  obtain ⟨z3, y3⟩ : ∃ z : Nat, z = z2 + Q := ⟨_, rfl⟩
  obtain ⟨z4, y4⟩ : ∃ z : Nat, z = z3 + J := ⟨_, rfl⟩
  have v1 : (1 : Int) + (A : Int) = (z1 : Int) := by omega
  have v2 : (z1 : Int) + (R : Int) = (z2 : Int) := by omega
  have v3 : (z2 : Int) + (Q : Int) = (z3 : Int) := by omega
  have v4 : (z3 : Int) + (J : Int) = (z4 : Int) := by omega
  have u1 : IntKind.i64.wrap (z1 : Int) = (z1 : Int) := wrap_id (by omega)
  have u2 : IntKind.i64.wrap (z2 : Int) = (z2 : Int) := wrap_id (by omega)
  have u3 : IntKind.i64.wrap (z3 : Int) = (z3 : Int) := wrap_id (by omega)
  have u4 : IntKind.i64.wrap (z4 : Int) = (z4 : Int) := wrap_id (by omega)
  have HF : Hid (CN = z4 + TN ∧ z4 ≤ 1 + 4 * 140737488355328) := by unfold Hid; omega
  have HV : Hid (∀ n : Nat, n ≤ 1125899906842624 → IntKind.i64.wrap ((z4 : Int) + (n : Int)) = ((z4 + n : Nat) : Int)) := fun n hn => by rw [wrap_id (by omega)]; omega
  unfold cmV cmC
  clear h b1 b2 b3 b4 hN hA hR hQ hJ hcn hCN hTN hw0 bl kk y1 y2 y3 y4
  go_enter Tryz.func26, Tryz.ntmps26
  go_upto_region 1 with fail
  rw [← unhide HW]
  clear HW
  go_region_held3 (fun w' : World => w'.cell? ⟨w.heap.size, 6, none⟩ = some (.slice a1 A k1) ∧ w'.cell? ⟨w.heap.size, 7, none⟩ = some (.slice a2 R k2) ∧ w'.cell? ⟨w.heap.size, 8, none⟩ = some (.slice a3 Q k3) ∧ w'.cell? ⟨w.heap.size, 9, none⟩ = some (.slice a4 J k4) ∧ w'.cell? ⟨w.heap.size, 12, none⟩ = some nv) (first | with_reducible exact S0 | with_reducible exact S00 | with_reducible exact S1) (first
    | (go_at_call 159; refine (unhide KT).mono ?_; rintro e z1 ⟨n, rfl, hn1, hn2, b1⟩; obtain ⟨S1, B1⟩ := unhide HS z1 b1; have hv := unhide HV n hn1)
    | fail)
  all_goals
    go_wp2_with fail
    go_ret
    refine ⟨z4 + n, ?_, ?_, ?_, B1⟩
    · first | rfl | (simp [hv])
    · have := (unhide HF).2; omega
    · intro hq
      have := hn2 (by omega)
      have := (unhide HF).1
      omega
end Go.Proofs.YtnfhbmlmemifjaaGreatDoor

/- A struct's cells stored one by one; rows of structs as one list of cells. No walk is in this text. -/
namespace Go.Proofs.YtnfhbmlmemifjaaGreatDoor
open Go.RowKit Go.Maps
def cm0 : Array Value := #[.int .i64 0, .int .i64 0, .int .i64 0, .int .i64 0, .int .i64 0, .bool false, .slice none 0 0, .slice none 0 0, .slice none 0 0, .slice none 0 0, .int .i64 0, .int .i64 0, .slice none 0 0, .int .i64 0, .int .i64 0]
theorem other_c {W : World} {k j i : Nat} {v : Value} (h : k ≠ j) : (W.setCell ⟨j, i, none⟩ v).heap[k]? = W.heap[k]? := Below.heap_setCell _ _ _ _ (fun c => h (by simpa using c))
theorem poke_b {W : World} {k i : Nat} {cs : Array Value} {t : TypeId} (hk : W.heap[k]? = some (.cells cs t (0, 0))) (v : Value) : (W.setCell ⟨k, i, none⟩ v).heap[k]? = some (.cells (cs.setIfInBounds i v) t (0, 0)) := by
  simp [World.setCell, Array.getElem?_modify, hk]
def pokes (W : World) (b i : Nat) : List Value → World
  | [] => W
  | v :: r => pokes (W.setCell ⟨b, i, none⟩ v) b (i + 1) r
def pk (cs : Array Value) (i : Nat) : List Value → Array Value
  | [] => cs
  | v :: r => pk (cs.setIfInBounds i v) (i + 1) r
theorem pk_get (vs : List Value) : ∀ (cs : Array Value) (i : Nat), i + vs.length ≤ cs.size → ∀ k, (pk cs i vs)[k]? = if i ≤ k ∧ k < i + vs.length then vs[k - i]? else cs[k]? := by
  induction vs with
  | nil => intro cs i _ k; simp [pk]; omega
  | cons v r ih =>
    intro cs i h k
    simp only [List.length_cons] at h
    rw [pk, ih _ _ (by simp; omega), Array.getElem?_setIfInBounds]
    simp only [List.length_cons]
    rcases Nat.lt_trichotomy k i with c | c | c
    · rw [if_neg (by omega), if_neg (by omega), if_neg (by omega)]
    · subst c
      rw [if_neg (by omega), if_pos rfl, if_pos (by omega), if_pos (by omega), Nat.sub_self]
      rfl
    · by_cases d : k < i + 1 + r.length
      · rw [if_pos (by omega), if_pos (by omega)]
        have : k - i = (k - (i + 1)) + 1 := by omega
        rw [this, List.getElem?_cons_succ]
      · rw [if_neg (by omega), if_neg (by omega), if_neg (by omega)]
theorem pk_all {cs : Array Value} {vs : List Value} (h : vs.length = cs.size) : pk cs 0 vs = vs.toArray := by
  apply Array.ext_getElem?
  intro k
  rw [pk_get vs cs 0 (by omega)]
  by_cases d : k < vs.length
  · rw [if_pos (by omega), Nat.sub_zero]; simp
  · rw [if_neg (by omega), Array.getElem?_eq_none (by omega)]
    simp; omega
theorem pokes_at {b : Nat} {t : TypeId} (vs : List Value) : ∀ (W : World) (i : Nat) (cs : Array Value), W.heap[b]? = some (.cells cs t (0, 0)) → (pokes W b i vs).heap[b]? = some (.cells (pk cs i vs) t (0, 0)) := by
  induction vs with
  | nil => intro W i cs h; exact h
  | cons v r ih => intro W i cs h; exact ih _ _ _ (poke_b h v)
theorem pokes_other {b k : Nat} (hk : k ≠ b) (vs : List Value) : ∀ (W : World) (i : Nat), (pokes W b i vs).heap[k]? = W.heap[k]? := by
  induction vs with
  | nil => intro W i; rfl
  | cons v r ih => intro W i; rw [pokes, ih]; exact other_c hk
theorem pokes_below {b n : Nat} {w : World} (hb : n ≤ b) (vs : List Value) : ∀ (W : World) (i : Nat), Below n w W → Below n w (pokes W b i vs) := by
  induction vs with
  | nil => intro W i h; exact h
  | cons v r ih => intro W i h; exact ih _ _ (h.setCell hb v)
theorem fl_len {c : Nat} {R : List (List Value)} (h : ∀ r ∈ R, r.length = c) : R.flatten.length = R.length * c := by
  induction R with
  | nil => simp
  | cons a r ih =>
    rw [List.flatten_cons, List.length_append, ih (fun x hx => h x (by simp [hx])), h a (by simp), List.length_cons, Nat.add_mul, Nat.one_mul, Nat.add_comm]
theorem fl_get {c : Nat} {R : List (List Value)} (h : ∀ r ∈ R, r.length = c) {i j : Nat} (hj : j < c) : R.flatten[i * c + j]? = (R[i]?).bind (fun r => r[j]?) := by
  induction R generalizing i with
  | nil => simp
  | cons a r ih =>
    have h1 := h a (by simp)
    rw [List.flatten_cons]
    cases i with
    | zero =>
      rw [Nat.zero_mul, Nat.zero_add, List.getElem?_append_left (by omega)]
      simp
    | succ k =>
      have e : (k + 1) * c + j = c + (k * c + j) := by rw [Nat.add_mul]; omega
      rw [e, List.getElem?_append_right (by omega), h1, Nat.add_sub_cancel_left, List.getElem?_cons_succ]
      exact ih (fun x hx => h x (by simp [hx]))
theorem fl_set {c : Nat} (hc : 0 < c) {R : List (List Value)} (h : ∀ r ∈ R, r.length = c) {i : Nat} (hi : i < R.length) {vs : List Value} (hv : vs.length = c) : pk R.flatten.toArray (i * c) vs = (R.set i vs).flatten.toArray := by
  have h' : ∀ r ∈ R.set i vs, r.length = c := fun r hr => by
    rcases List.mem_or_eq_of_mem_set hr with d | d
    · exact h r d
    · rw [d]; exact hv
  have hs := fl_len h
  have hs' := fl_len h'
  rw [List.length_set] at hs'
  have hm : (i + 1) * c ≤ R.length * c := Nat.mul_le_mul_right c hi
  rw [Nat.add_mul, Nat.one_mul] at hm
  apply Array.ext_getElem?
  intro k
  rw [pk_get vs _ _ (by simp only [List.size_toArray]; rw [hs, hv]; exact hm), hv]
  simp only [List.getElem?_toArray]
  obtain ⟨q, r, hr, rfl⟩ : ∃ q r, r < c ∧ k = q * c + r := ⟨k / c, k % c, Nat.mod_lt _ hc, by rw [Nat.mul_comm]; exact (Nat.div_add_mod k c).symm⟩
  rw [fl_get h hr, fl_get h' hr]
  rcases Nat.lt_trichotomy q i with d | d | d
  · have := Nat.mul_le_mul_right c (show q + 1 ≤ i from d)
    rw [Nat.add_mul, Nat.one_mul] at this
    rw [if_neg (by omega), List.getElem?_set_ne (by omega)]
  · subst d
    rw [if_pos (by omega), List.getElem?_set_self hi, Nat.add_sub_cancel_left]
    rfl
  · have := Nat.mul_le_mul_right c (show i + 1 ≤ q from d)
    rw [Nat.add_mul, Nat.one_mul] at this
    rw [if_neg (by omega), List.getElem?_set_ne (by omega)]
end Go.Proofs.YtnfhbmlmemifjaaGreatDoor

/- Rows of structs that have lists of their own: to be read, and of one's own; how a copy comes to be, element by element. No walk is in this text. -/
namespace Go.Proofs.YtnfhbmlmemifjaaGreatDoor
open Go.RowKit Go.Maps
structure EK (α ξ : Type) where
  t : TypeId
  c : Nat
  C : α → ξ → List Value
  Z : ξ → List Nat
  R : World → α → ξ → Prop
  O : Nat → World → α → ξ → Prop
  pos : 0 < c
  Cl : ∀ a x, (C a x).length = c
  one : ∀ w a x, R w a x → ∀ u ∈ C a x, u.oneCell' = true
  bw : ∀ w w' a x, R w a x → Below w.heap.size w w' → R w' a x
  keep : ∀ B w w' a x, O B w a x → (∀ k ∈ Z x, w'.heap[k]? = w.heap[k]?) → O B w' a x
  lt : ∀ B w a x, O B w a x → ∀ k ∈ Z x, B ≤ k ∧ k < w.heap.size
  mono : ∀ B B' w a x, O B w a x → B' ≤ B → O B' w a x
def rowsK {α ξ : Type} (K : EK α ξ) (l : List α) (xs : List ξ) : List (List Value) := List.zipWith K.C l xs
def cellK {α ξ : Type} (K : EK α ξ) (l : List α) (xs : List ξ) : List Value := (rowsK K l xs).flatten
theorem rowsK_len {α ξ : Type} {K : EK α ξ} {l : List α} {xs : List ξ} : ∀ r ∈ rowsK K l xs, r.length = K.c := by
  intro r hr
  obtain ⟨i, hi⟩ := List.mem_iff_getElem?.1 hr
  unfold rowsK at hi
  rw [List.getElem?_zipWith] at hi
  cases hl : l[i]? with
  | none => rw [hl] at hi; simp at hi
  | some a =>
    cases hx : xs[i]? with
    | none => rw [hl, hx] at hi; simp at hi
    | some x => rw [hl, hx] at hi; simp at hi; subst hi; exact K.Cl a x
theorem rowsK_size {α ξ : Type} {K : EK α ξ} {l : List α} {xs : List ξ} (h : xs.length = l.length) : (rowsK K l xs).length = l.length := by simp [rowsK, h]
theorem cellK_len {α ξ : Type} {K : EK α ξ} {l : List α} {xs : List ξ} (h : xs.length = l.length) : (cellK K l xs).length = l.length * K.c := by
  unfold cellK; rw [fl_len rowsK_len, rowsK_size h]
theorem cellK_get {α ξ : Type} {K : EK α ξ} {l : List α} {xs : List ξ} {i j : Nat} {a : α} {x : ξ} {u : Value} (ha : l[i]? = some a) (hx : xs[i]? = some x) (hu : (K.C a x)[j]? = some u) : (cellK K l xs)[i * K.c + j]? = some u := by
  have hj : j < K.c := by have := (List.getElem?_eq_some_iff.1 hu).1; rw [K.Cl] at this; exact this
  unfold cellK
  rw [fl_get rowsK_len hj]
  unfold rowsK
  rw [List.getElem?_zipWith, ha, hx]
  exact hu
theorem cellK_inv {α ξ : Type} {K : EK α ξ} {l : List α} {xs : List ξ} {k : Nat} {u : Value} (hl : xs.length = l.length) (hu : (cellK K l xs)[k]? = some u) : ∃ (i j : Nat) (a : α) (x : ξ), k = i * K.c + j ∧ j < K.c ∧ l[i]? = some a ∧ xs[i]? = some x ∧ (K.C a x)[j]? = some u := by
  have hk := (List.getElem?_eq_some_iff.1 hu).1
  rw [cellK_len hl] at hk
  have hj : k % K.c < K.c := Nat.mod_lt _ K.pos
  have e : k = k / K.c * K.c + k % K.c := by rw [Nat.mul_comm]; exact (Nat.div_add_mod k K.c).symm
  have hi : k / K.c < l.length := Nat.div_lt_of_lt_mul (by rw [Nat.mul_comm]; exact hk)
  have h1 : l[k / K.c]? = some l[k / K.c] := List.getElem?_eq_getElem hi
  have h2 : xs[k / K.c]? = some (xs[k / K.c]'(by rw [hl]; exact hi)) := List.getElem?_eq_getElem _
  refine ⟨k / K.c, k % K.c, l[k / K.c], xs[k / K.c]'(by rw [hl]; exact hi), e, hj, h1, h2, ?_⟩
  have hlt : k % K.c < (K.C l[k / K.c] (xs[k / K.c]'(by rw [hl]; exact hi))).length := by rw [K.Cl]; exact hj
  have hv := List.getElem?_eq_getElem hlt
  have := cellK_get h1 h2 hv
  rw [← e, hu] at this
  rw [hv, this]
theorem cellK_one {α ξ : Type} {K : EK α ξ} {l : List α} {xs : List ξ} {w : World} (hl : xs.length = l.length) (h : ∀ (i : Nat) (a : α) (x : ξ), l[i]? = some a → xs[i]? = some x → K.R w a x) : ∀ u ∈ cellK K l xs, u.oneCell' = true := by
  intro u hu
  obtain ⟨k, hk⟩ := List.mem_iff_getElem?.1 hu
  obtain ⟨i, j, a, x, _, _, h1, h2, h3⟩ := cellK_inv hl hk
  exact K.one w a x (h i a x h1 h2) u (List.mem_of_getElem? h3)
theorem cellK_set {α ξ : Type} {K : EK α ξ} {l : List α} {xs : List ξ} {i : Nat} {a : α} {x : ξ} (hl : xs.length = l.length) (ha : l[i]? = some a) : pk (cellK K l xs).toArray (i * K.c) (K.C a x) = (cellK K l (xs.set i x)).toArray := by
  have hi : i < l.length := (List.getElem?_eq_some_iff.1 ha).1
  unfold cellK
  rw [fl_set K.pos rowsK_len (by rw [rowsK_size hl]; exact hi) (K.Cl a x)]
  congr 2
  unfold rowsK
  apply List.ext_getElem?
  intro j
  by_cases c : i = j
  · subst c
    rw [List.getElem?_set_self (by rw [List.length_zipWith, hl]; simpa using hi), List.getElem?_zipWith, ha, List.getElem?_set_self (by rw [hl]; exact hi)]
  · rw [List.getElem?_set_ne c, List.getElem?_zipWith, List.getElem?_zipWith, List.getElem?_set_ne c]
structure RdL {α ξ : Type} (K : EK α ξ) (w : World) (v : Value) (l : List α) (xs : List ξ) : Prop where
  xl : xs.length = l.length
  el : ∀ (i : Nat) (a : α) (x : ξ), l[i]? = some a → xs[i]? = some x → K.R w a x
  form : ∃ ad cap, v = .slice ad l.length cap ∧ (l = [] ∨ ∃ g o, ad = some ⟨g, o, none⟩ ∧ ∀ j u, (cellK K l xs)[j]? = some u → w.cell? ⟨g, o + j, none⟩ = some u)
def zK {α ξ : Type} (K : EK α ξ) (v : Value) (xs : List ξ) : List Nat := v.ownBlock.toList ++ xs.flatMap K.Z
theorem zK_row {α ξ : Type} {K : EK α ξ} {v : Value} {xs : List ξ} {k : Nat} (h : v.ownBlock = some k) : k ∈ zK K v xs := by unfold zK; rw [h]; simp
theorem zK_el {α ξ : Type} {K : EK α ξ} {v : Value} {xs : List ξ} {k i : Nat} {x : ξ} (h : xs[i]? = some x) (hk : k ∈ K.Z x) : k ∈ zK K v xs := by
  unfold zK
  exact List.mem_append_right _ (List.mem_flatMap.2 ⟨x, List.mem_of_getElem? h, hk⟩)
theorem zK_cases {α ξ : Type} {K : EK α ξ} {v : Value} {xs : List ξ} {k : Nat} (h : k ∈ zK K v xs) : v.ownBlock = some k ∨ ∃ (i : Nat) (x : ξ), xs[i]? = some x ∧ k ∈ K.Z x := by
  unfold zK at h
  rcases List.mem_append.1 h with c | c
  · left; simpa using c
  · right
    obtain ⟨x, hx, hk⟩ := List.mem_flatMap.1 c
    obtain ⟨i, hi⟩ := List.mem_iff_getElem?.1 hx
    exact ⟨i, x, hi, hk⟩
structure OwL {α ξ : Type} (K : EK α ξ) (B : Nat) (w : World) (v : Value) (l : List α) (xs : List ξ) : Prop where
  xl : xs.length = l.length
  row : w.ownsRow B K.t K.c v l.length (cellK K l xs)
  el : ∀ (i : Nat) (a : α) (x : ξ), l[i]? = some a → xs[i]? = some x → K.O B w a x
  ap : ∀ (i j : Nat) (x y : ξ) (k : Nat), xs[i]? = some x → xs[j]? = some y → k ∈ K.Z x → k ∈ K.Z y → i = j
  self : ∀ (k i : Nat) (x : ξ), v.ownBlock = some k → xs[i]? = some x → k ∉ K.Z x
theorem OwL.elx {α ξ : Type} {K : EK α ξ} {B : Nat} {w : World} {v : Value} {l : List α} {xs : List ξ} (h : OwL K B w v l xs) {i : Nat} {x : ξ} (hx : xs[i]? = some x) : ∃ a, l[i]? = some a ∧ K.O B w a x := by
  have hi : i < l.length := by rw [← h.xl]; exact (List.getElem?_eq_some_iff.1 hx).1
  exact ⟨_, List.getElem?_eq_getElem hi, h.el i _ x (List.getElem?_eq_getElem hi) hx⟩
theorem OwL.lt {α ξ : Type} {K : EK α ξ} {B : Nat} {w : World} {v : Value} {l : List α} {xs : List ξ} (h : OwL K B w v l xs) : ∀ k ∈ zK K v xs, B ≤ k ∧ k < w.heap.size := by
  intro k hk
  rcases zK_cases hk with c | ⟨i, x, hx, c⟩
  · exact World.ownsRow.lt h.row k c
  · obtain ⟨a, _, ho⟩ := h.elx hx
    exact K.lt _ _ _ _ ho k c
theorem OwL.keep {α ξ : Type} {K : EK α ξ} {B : Nat} {w w' : World} {v : Value} {l : List α} {xs : List ξ} (h : OwL K B w v l xs) (hk : ∀ k ∈ zK K v xs, w'.heap[k]? = w.heap[k]?) : OwL K B w' v l xs :=
  ⟨h.xl, own_keep h.row (fun k c => hk k (zK_row c)), fun i a x ha hx => K.keep _ _ _ _ _ (h.el i a x ha hx) (fun k c => hk k (zK_el hx c)), h.ap, h.self⟩
theorem OwL.bw {α ξ : Type} {K : EK α ξ} {B : Nat} {w w' : World} {v : Value} {l : List α} {xs : List ξ} (h : OwL K B w v l xs) (hb : Below w.heap.size w w') : OwL K B w' v l xs := h.keep (fun k hk => hb.block k (h.lt k hk).2)
theorem OwL.mono {α ξ : Type} {K : EK α ξ} {B B' : Nat} {w : World} {v : Value} {l : List α} {xs : List ξ} (h : OwL K B w v l xs) (hB : B' ≤ B) : OwL K B' w v l xs :=
  ⟨h.xl, own_mono h.row hB, fun i a x ha hx => K.mono _ _ _ _ _ (h.el i a x ha hx) hB, h.ap, h.self⟩
theorem OwL.nil {α ξ : Type} (K : EK α ξ) (B : Nat) (w : World) : OwL K B w (.slice none 0 0) [] [] := ⟨rfl, World.ownsRow_nil _ _ _ _, by simp, by simp, by simp⟩
theorem OwL.rd {α ξ : Type} {K : EK α ξ} {B : Nat} {w : World} {v : Value} {l : List α} {xs : List ξ} (h : OwL K B w v l xs) (hr : ∀ (i : Nat) (a : α) (x : ξ), l[i]? = some a → xs[i]? = some x → K.O B w a x → K.R w a x) : RdL K w v l xs := by
  refine ⟨h.xl, fun i a x ha hx => hr i a x ha hx (h.el i a x ha hx), ?_⟩
  obtain ⟨ad, cap, hv⟩ := own_slice h.row
  refine ⟨ad, cap, hv, ?_⟩
  rcases Nat.eq_zero_or_pos l.length with h0 | h0
  · exact Or.inl (List.eq_nil_of_length_eq_zero h0)
  · obtain ⟨g, cap', hv', hg, hc, _⟩ := own_open h.row h0
    rw [hv] at hv'
    cases hv'
    refine Or.inr ⟨g, 0, rfl, fun j u hj => ?_⟩
    rw [Nat.zero_add]
    exact own_cell h.row (by rw [hv]; rfl) hj
structure CpL {α ξ : Type} (K : EK α ξ) (B : Nat) (w W wr : World) (v : Value) (g : Nat) (l : List α) (xs : List ξ) (i : Nat) : Prop where
  fr : Fr [g] W wr
  own : v.ownBlock = some g
  row : wr.ownsRow B K.t K.c v l.length (cellK K l xs)
  xl : xs.length = l.length
  new : ∀ (j : Nat) (a : α) (x : ξ), j < i → l[j]? = some a → xs[j]? = some x → K.O W.heap.size wr a x
  old : ∀ (j : Nat) (a : α) (x : ξ), i ≤ j → l[j]? = some a → xs[j]? = some x → K.R w a x
  ap : ∀ (j k : Nat) (x y : ξ) (b : Nat), j < i → k < i → xs[j]? = some x → xs[k]? = some y → b ∈ K.Z x → b ∈ K.Z y → j = k
theorem CpL.bw {α ξ : Type} {K : EK α ξ} {B : Nat} {w W wr w' : World} {v : Value} {g : Nat} {l : List α} {xs : List ξ} {i : Nat} (h : CpL K B w W wr v g l xs i) (hb : Below wr.heap.size wr w') : CpL K B w W w' v g l xs i :=
  ⟨h.fr.below hb, h.own, own_keep h.row (fun k hk => hb.block k (World.ownsRow.lt h.row k hk).2), h.xl, fun j a x hj ha hx => K.keep _ _ _ _ _ (h.new j a x hj ha hx) (fun k hk => hb.block k (K.lt _ _ _ _ (h.new j a x hj ha hx) k hk).2), h.old, h.ap⟩
theorem CpL.start {α ξ : Type} {K : EK α ξ} {w W : World} {v v0 : Value} {g : Nat} {l : List α} {xs : List ξ} (h : RdL K w v0 l xs) (hr : W.ownsRow w.heap.size K.t K.c v l.length (cellK K l xs)) (hg : v.ownBlock = some g) : CpL K w.heap.size w W W v g l xs 0 :=
  ⟨Fr.refl _ _, hg, hr, h.xl, fun j a x hj => absurd hj (by omega), fun j a x _ ha hx => h.el j a x ha hx, fun j k x y b hj => absurd hj (by omega)⟩
theorem pokes_fr {W : World} {g : Nat} (vs : List Value) : ∀ (X : World) (i : Nat), Fr [g] W X → Fr [g] W (pokes X g i vs) := by
  induction vs with
  | nil => intro X i h; exact h
  | cons v r ih => intro X i h; exact ih _ _ (h.setCell (a := ⟨g, i, none⟩) (Or.inr (by simp)) v)
theorem own_pokes {B : Nat} {e : TypeId} {c n g : Nat} {v : Value} (hg : v.ownBlock = some g) (vs : List Value) : ∀ (X : World) (i : Nat) (xs : List Value), X.ownsRow B e c v n xs → (pokes X g i vs).ownsRow B e c v n (pk xs.toArray i vs).toList := by
  induction vs with
  | nil => intro X i xs h; simpa [pokes, pk] using h
  | cons u r ih =>
    intro X i xs h
    have := ih _ (i + 1) _ (own_set h hg (j := i) u)
    simpa [pokes, pk] using this
theorem CpL.step {α ξ : Type} {K : EK α ξ} {B : Nat} {w W wr w' : World} {v : Value} {g : Nat} {l : List α} {xs : List ξ} {i : Nat} (h : CpL K B w W wr v g l xs i) {a : α} {x' : ξ} (ha : l[i]? = some a) (hb : Below wr.heap.size wr w') (ho : K.O wr.heap.size w' a x') (hgW : g < W.heap.size) :
    CpL K B w W (pokes w' g (i * K.c) (K.C a x')) v g l (xs.set i x') (i + 1) := by
  have hi : i < l.length := (List.getElem?_eq_some_iff.1 ha).1
  have hsz := h.fr.size
  have row1 : w'.ownsRow B K.t K.c v l.length (cellK K l xs) := own_keep h.row (fun k hk => hb.block k (World.ownsRow.lt h.row k hk).2)
  have row2 := own_pokes h.own (K.C a x') w' (i * K.c) _ row1
  rw [cellK_set h.xl ha] at row2
  have kp : ∀ (b : α) (y : ξ), K.O W.heap.size w' b y → K.O W.heap.size (pokes w' g (i * K.c) (K.C a x')) b y := fun b y hy => K.keep _ _ _ _ _ hy (fun k hk => pokes_other (by have := (K.lt _ _ _ _ hy k hk).1; omega) _ _ _)
  have kp0 : ∀ (b : α) (y : ξ), K.O W.heap.size wr b y → K.O W.heap.size w' b y := fun b y hy => K.keep _ _ _ _ _ hy (fun k hk => hb.block k (K.lt _ _ _ _ hy k hk).2)
  refine ⟨pokes_fr _ _ _ (h.fr.below hb), h.own, by simpa using row2, by simpa using h.xl, ?_, ?_, ?_⟩
  · intro j b y hj hb' hy
    by_cases c : j = i
    · subst c
      rw [ha] at hb'; cases hb'
      rw [List.getElem?_set_self (by rw [h.xl]; exact hi)] at hy
      cases hy
      exact kp _ _ (K.mono _ _ _ _ _ ho hsz)
    · rw [List.getElem?_set_ne (Ne.symm c)] at hy
      exact kp _ _ (kp0 _ _ (h.new j b y (by omega) hb' hy))
  · intro j b y hj hb' hy
    rw [List.getElem?_set_ne (by omega)] at hy
    exact h.old j b y (by omega) hb' hy
  · have lt1 : ∀ (j : Nat) (y : ξ) (b : Nat), j < i → xs[j]? = some y → b ∈ K.Z y → b < wr.heap.size := fun j y b hj hy hb' => by
      have hjl : j < l.length := by omega
      exact (K.lt _ _ _ _ (h.new j _ y hj (List.getElem?_eq_getElem hjl) hy) b hb').2
    have ge1 : ∀ b, b ∈ K.Z x' → wr.heap.size ≤ b := fun b hb' => (K.lt _ _ _ _ ho b hb').1
    intro j k x y b hj hk hx hy hbx hby
    by_cases c1 : j = i <;> by_cases c2 : k = i
    · omega
    · subst c1
      rw [List.getElem?_set_self (by rw [h.xl]; exact hi)] at hx
      cases hx
      rw [List.getElem?_set_ne (Ne.symm c2)] at hy
      have := lt1 k y b (by omega) hy hby
      have := ge1 b hbx
      omega
    · subst c2
      rw [List.getElem?_set_self (by rw [h.xl]; exact hi)] at hy
      cases hy
      rw [List.getElem?_set_ne (Ne.symm c1)] at hx
      have := lt1 j x b (by omega) hx hbx
      have := ge1 b hby
      omega
    · rw [List.getElem?_set_ne (Ne.symm c1)] at hx
      rw [List.getElem?_set_ne (Ne.symm c2)] at hy
      exact h.ap j k x y b (by omega) (by omega) hx hy hbx hby
theorem CpL.done {α ξ : Type} {K : EK α ξ} {B : Nat} {w W wr : World} {v : Value} {g : Nat} {l : List α} {xs : List ξ} (h : CpL K B w W wr v g l xs l.length) (hB : B ≤ W.heap.size) (hgW : g < W.heap.size) : OwL K B wr v l xs := by
  have hin : ∀ (i : Nat) (x : ξ), xs[i]? = some x → i < l.length := fun i x hx => by rw [← h.xl]; exact (List.getElem?_eq_some_iff.1 hx).1
  refine ⟨h.xl, h.row, fun i a x ha hx => K.mono _ _ _ _ _ (h.new i a x (hin i x hx) ha hx) hB, fun i j x y k hx hy => h.ap i j x y k (hin i x hx) (hin j y hy) hx hy, fun k i x hk hx c => ?_⟩
  rw [h.own] at hk
  cases hk
  have hi := hin i x hx
  have := (K.lt _ _ _ _ (h.new i _ x hi (List.getElem?_eq_getElem hi) hx) g c).1
  omega
theorem CpL.at {α ξ : Type} {K : EK α ξ} {B : Nat} {w W wr : World} {v : Value} {g : Nat} {l : List α} {xs : List ξ} {i : Nat} (h : CpL K B w W wr v g l xs i) (hi : i < l.length) : ∃ a x, l[i]? = some a ∧ xs[i]? = some x ∧ K.R w a x ∧ ∀ j u, (K.C a x)[j]? = some u → wr.cell? ⟨g, i * K.c + j, none⟩ = some u := by
  have h1 : l[i]? = some l[i] := List.getElem?_eq_getElem hi
  have h2 : xs[i]? = some (xs[i]'(by rw [h.xl]; exact hi)) := List.getElem?_eq_getElem _
  exact ⟨_, _, h1, h2, h.old i _ _ (Nat.le_refl _) h1 h2, fun j u hu => own_cell h.row h.own (cellK_get h1 h2 hu)⟩
end Go.Proofs.YtnfhbmlmemifjaaGreatDoor

/- How great a log, and logs, are: LogSize, size. -/
namespace Go.Proofs.YtnfhbmlmemifjaaGreatDoor
open Go.RowKit Go.Maps
def csN (l : List Cm) : Nat := (l.map cmN).foldr (· + ·) 0
def lgN (p : Int × List Cm) : Nat := 1 + p.2.length + csN p.2
def lsN (l : List (Int × List Cm)) : Nat := (l.map lgN).foldr (· + ·) 0
theorem sum_snoc (l : List Nat) (z : Nat) : (l ++ [z]).foldr (· + ·) 0 = l.foldr (· + ·) 0 + z := by
  induction l with
  | nil => simp
  | cons a r ih => simp only [List.cons_append, List.foldr_cons, ih]; omega
theorem csN_take {l : List Cm} {i : Nat} {c : Cm} (h : l[i]? = some c) : csN (l.take (i + 1)) = csN (l.take i) + cmN c := by
  unfold csN
  rw [List.take_add_one, h, List.map_append]
  exact sum_snoc _ _
theorem lsN_take {l : List (Int × List Cm)} {i : Nat} {p : Int × List Cm} (h : l[i]? = some p) : lsN (l.take (i + 1)) = lsN (l.take i) + lgN p := by
  unfold lsN
  rw [List.take_add_one, h, List.map_append]
  exact sum_snoc _ _
set_option maxRecDepth 100000 in
set_option maxHeartbeats 4000000 in
theorem lgsize_any {w : World} {g : Int} {cv : Value} {l : List Cm} (h : Cms w cv l) :
    Calls Tryz.prog 32 #[.agg #[.int .i64 g, cv]] w fun e w' => ∃ n : Nat, e = .returned (.int .i64 (n : Int)) ∧ n ≤ 4503599627370496 ∧ (n ≤ 262144 → n = lgN (g, l)) ∧ Below w.heap.size w w' := by
  obtain ⟨a, cap, rfl⟩ := h.slice
  have hl := h.len
  obtain ⟨N, hN⟩ : ∃ N, N = l.length := ⟨_, rfl⟩
  rw [← hN] at h hl ⊢
  have hNI : (N : Int) ≤ 140737488355328 := by omega
  obtain ⟨w0, hw0⟩ : ∃ w0, w0 = w.alloc (.cells #[.int .i64 g, .slice a N cap] 95) := ⟨_, rfl⟩
  have bl : Below w.heap.size w w0 := by rw [hw0]; exact bwA _ _
  have kk : w0.heap[w.heap.size]? = some (.cells #[.int .i64 g, .slice a N cap] 95 (0, 0)) := by rw [hw0]; exact heap_alloc_new _ _
  have HS : Hid (∀ W, Below w0.heap.size w0 W → W.cell? ⟨w.heap.size, 1, none⟩ = some (.slice a N cap) ∧ Below w.heap.size w W) := fun W hW => ⟨blk_c (kept_b kk (lt_of_blk kk) hW) rfl, bw_tr bl hW⟩
  obtain ⟨c1, -⟩ := unhide HS w0 (Below.refl _ _)
  have HG : Hid (lgN (g, l) = 1 + N + csN l) := by rw [hN]; rfl
  obtain ⟨G, hG⟩ : ∃ G, G = lgN (g, l) := ⟨_, rfl⟩
  rw [← hG] at HG ⊢
  have HH := hide (And.intro h hN)
  have HW := hide hw0
  clear h hN hl hw0 bl kk hG
  go_enter Tryz.func32, Tryz.ntmps32
  go_upto_region 1 with fail
  rw [← unhide HW]
  clear HW
  go_wp2_with fail
  clear c1
  go_loopw [3, 4] (fun nv iv wr => ∃ (i n : Nat), i ≤ N ∧ iv = .int .i64 (i : Int) ∧ nv = .int .i64 (n : Int) ∧ n ≤ 262144 + 140737488355328 + 2251799813685248 ∧ Hid (Below w0.heap.size w0 wr ∧ (n ≤ 262144 → n = 1 + N + csN (l.take i)))) (fun _ iv _ => (N - intOf iv).toNat)
  case atStart => exact ⟨0, 1 + N, Nat.zero_le _, rfl, by go_num, by omega, Below.refl _ _, fun _ => by simp [csN]⟩
  case round =>
    obtain ⟨i, n, hi, rfl, rfl, hn, HR⟩ := hrel
    obtain ⟨c1, -⟩ := unhide HS wr (unhide HR).1
    have hnI : (n : Int) ≤ 9007199254740992 := by omega
    by_cases hlt : i < N
    · have hiI : (i : Int) < (N : Int) := by omega
      by_cases hnb : n ≤ 262144
      · have hnbI : (n : Int) ≤ 262144 := by omega
        obtain ⟨h, hN⟩ := unhide HH
        obtain ⟨c, hc⟩ : ∃ c, l[i]? = some c := ⟨_, List.getElem?_eq_getElem (by omega)⟩
        obtain ⟨gb, o, rfl, x, hx, hcell⟩ := (h.bw (unhide HS wr (unhide HR).1).2).get hc
        have K := hide (cmsize_any hx)
        have HQ := hide (And.intro hc (And.intro hN (unhide HR)))
        have HN2 : Hid (csN (l.take (i + 1)) = csN (l.take i) + cmN c) := csN_take hc
        obtain ⟨CN, hCN⟩ : ∃ CN, CN = cmN c := ⟨_, rfl⟩
        rw [← hCN] at K HN2
        clear h hN hx HR hc hCN
        obtain ⟨g0, g1, g2, g3, g4, g5, adds, rem, seals, joins, g10, g11, next, g13, g14⟩ := c
        obtain ⟨av, rv, qv, jv, nv⟩ := x
        have d0 := hcell 0 _ rfl
        have d1 := hcell 1 _ rfl
        have d2 := hcell 2 _ rfl
        have d3 := hcell 3 _ rfl
        have d4 := hcell 4 _ rfl
        have d5 := hcell 5 _ rfl
        have d6 := hcell 6 _ rfl
        have d7 := hcell 7 _ rfl
        have d8 := hcell 8 _ rfl
        have d9 := hcell 9 _ rfl
        have d10 := hcell 10 _ rfl
        have d11 := hcell 11 _ rfl
        have d12 := hcell 12 _ rfl
        have d13 := hcell 13 _ rfl
        have d14 := hcell 14 _ rfl
        simp only [Nat.add_zero] at d0
        unfold cmV cmC at K
        clear hcell
        go_wp2_with fail
        refine (unhide K).mono ?_
        rintro e2 w2 ⟨m, rfl, m1, m2, b2⟩
        have hmI : (m : Int) ≤ 2251799813685248 := by omega
        obtain ⟨hc, hN, hb, hq⟩ := unhide HQ
        have HR2 : Hid (Below w0.heap.size w0 w2 ∧ (n + m ≤ 262144 → n + m = 1 + N + csN (l.take (i + 1)))) := ⟨bw_tr hb b2, fun q => by
          have := hq (by omega)
          have := m2 (by omega)
          rw [unhide HN2]; omega⟩
        clear K HQ hc hN hb hq HN2 m2 b2 d0 d1 d2 d3 d4 d5 d6 d7 d8 d9 d10 d11 d12 d13 d14 c1
        go_wp2_with fail
        go_roundw
        case rel => exact ⟨i + 1, n + m, by omega, by go_num, by go_num, by omega, HR2⟩
        case measure => simp only [intOf]; omega
      · have hnbI : (262144 : Int) < (n : Int) := by omega
        have B := hide (unhide HS wr (unhide HR).1).2
        clear HH HG HR HS
        go_wp2
        go_ret
        exact ⟨n, rfl, by omega, fun c => absurd c hnb, unhide B⟩
    · have e : i = N := by omega
      subst e
      have B := hide (unhide HS wr (unhide HR).1).2
      have HE : Hid (n ≤ 262144 → n = G) := fun c => by
        have := (unhide HR).2 c
        rw [List.take_of_length_le (by have := (unhide HH).2; omega)] at this
        rw [unhide HG]; exact this
      clear HH HG HR HS hlt
      go_wp2
      go_ret
      exact ⟨n, rfl, by omega, unhide HE, unhide B⟩
end Go.Proofs.YtnfhbmlmemifjaaGreatDoor

/- How great logs are: size. Beyond of what is asked. -/
namespace Go.Proofs.YtnfhbmlmemifjaaGreatDoor
open Go.RowKit Go.Maps
set_option maxRecDepth 100000 in
set_option maxHeartbeats 4000000 in
theorem lsize_any {w : World} {v : Value} {l : List (Int × List Cm)} (h : Lgs w v l) :
    Calls Tryz.prog 6 #[v] w fun e w' => ∃ n : Nat, e = .returned (.int .i64 (n : Int)) ∧ n ≤ 9007199254740992 ∧ (n ≤ 262144 → n = l.length + lsN l) ∧ Below w.heap.size w w' := by
  obtain ⟨a, cap, rfl⟩ := h.slice
  have hl := h.len
  obtain ⟨N, hN⟩ : ∃ N, N = l.length := ⟨_, rfl⟩
  rw [← hN] at h hl ⊢
  have hNI : (N : Int) ≤ 140737488355328 := by omega
  obtain ⟨G, hG⟩ : ∃ G, G = N + lsN l := ⟨_, rfl⟩
  rw [← hG]
  have HG := hide hG
  have HH := hide (And.intro h hN)
  clear h hN hl hG
  go_enter Tryz.func6, Tryz.ntmps6
  go_wp2_with fail
  go_loopw [3, 4] (fun nv iv wr => ∃ (i n : Nat), i ≤ N ∧ iv = .int .i64 (i : Int) ∧ nv = .int .i64 (n : Int) ∧ n ≤ 1048576 + 140737488355328 + 4503599627370496 ∧ Hid (Below w.heap.size w wr ∧ (n ≤ 262144 → n = N + lsN (l.take i)))) (fun _ iv _ => (N - intOf iv).toNat)
  case atStart => exact ⟨0, N, Nat.zero_le _, rfl, rfl, by omega, Below.refl _ _, fun _ => by simp [lsN]⟩
  case round =>
    obtain ⟨i, n, hi, rfl, rfl, hn, HR⟩ := hrel
    have hnI : (n : Int) ≤ 9007199254740992 := by omega
    by_cases hlt : i < N
    · have hiI : (i : Int) < (N : Int) := by omega
      by_cases hnb : n < 1048576
      · have hnbI : (n : Int) < 1048576 := by omega
        obtain ⟨h, hN⟩ := unhide HH
        obtain ⟨p, hp⟩ : ∃ p, l[i]? = some p := ⟨_, List.getElem?_eq_getElem (by omega)⟩
        obtain ⟨gb, o, rfl, cv, hcv, d0, d1⟩ := (h.bw (unhide HR).1).get hp
        have K := hide (lgsize_any (g := p.1) hcv)
        have HQ := hide (And.intro hN (unhide HR))
        have HN2 : Hid (lsN (l.take (i + 1)) = lsN (l.take i) + lgN p) := lsN_take hp
        have ep : (p.1, p.2) = p := rfl
        rw [ep] at K
        obtain ⟨CN, hCN⟩ : ∃ CN, CN = lgN p := ⟨_, rfl⟩
        rw [← hCN] at K HN2
        obtain ⟨g, hg⟩ : ∃ g, g = p.1 := ⟨_, rfl⟩
        rw [← hg] at K d0
        obtain ⟨a2, c2, rfl⟩ := hcv.slice
        clear h hN hcv HR hp hCN ep hg
        generalize p.2.length = M at *
        go_wp2_with fail
        refine (unhide K).mono ?_
        rintro e2 w2 ⟨m, rfl, m1, m2, b2⟩
        have hmI : (m : Int) ≤ 4503599627370496 := by omega
        obtain ⟨hN, hb, hq⟩ := unhide HQ
        have HR2 : Hid (Below w.heap.size w w2 ∧ (n + m ≤ 262144 → n + m = N + lsN (l.take (i + 1)))) := ⟨bw_tr hb b2, fun q => by
          have := hq (by omega)
          have := m2 (by omega)
          rw [unhide HN2]; omega⟩
        clear K HQ hN hb hq HN2 m2 b2 d0 d1
        go_wp2_with fail
        go_roundw
        case rel => exact ⟨i + 1, n + m, by omega, by go_num, by go_num, by omega, HR2⟩
        case measure => simp only [intOf]; omega
      · have hnbI : (1048576 : Int) ≤ (n : Int) := by omega
        have hnd : decide ((n : Int) < 1048576) = false := decide_eq_false (by omega)
        have B := hide (unhide HR).1
        clear HH HG HR
        go_wp2
        go_ret
        exact ⟨n, rfl, by omega, fun c => absurd c (by omega), unhide B⟩
    · have e : i = N := by omega
      subst e
      have B := hide (unhide HR).1
      have HE : Hid (n ≤ 262144 → n = G) := fun c => by
        have := (unhide HR).2 c
        rw [List.take_of_length_le (by have := (unhide HH).2; omega)] at this
        rw [unhide HG]; exact this
      clear HH HG HR hlt
      go_wp2
      go_ret
      exact ⟨n, rfl, by omega, unhide HE, unhide B⟩
end Go.Proofs.YtnfhbmlmemifjaaGreatDoor
