/- Contracts of the document's disk: torn, Cut, Start, Read. -/
import Derived.Test.YtimhjheigejjmaaDkR
namespace Go.Proofs.Ytimhjheigejjmaa
open Go.RowKit Go.Maps

set_option maxHeartbeats 4000000 in
theorem rtorn_any (b s : ByteArray) (how : Int) (hb : b.size = 64) (hs : s.size = 64) (w : World) :
    Calls Try.prog 44 #[.string b, .string s, .int .i64 how] w fun e w' => e = .returned (.string (torn b s how)) ∧ Below w.heap.size w w' := by
  obtain ⟨z, hz⟩ : ∃ z, z = torn b s how := ⟨_, rfl⟩
  rw [← hz]
  have k1 : ((b.size : Nat) : Int) = 64 := by omega
  have k2 : ((s.size : Nat) : Int) = 64 := by omega
  by_cases c1 : how = 1
  · have e : z = s := by rw [hz]; simp [torn, c1]
    subst c1
    subst e
    clear hz
    go_enter Try.func44, Try.ntmps44
    go_wp2_with fail
    go_ret
    exact ⟨rfl, Below.refl _ _⟩
  · have d1 : (how == 1) = false := by simp [c1]
    have d2 : decide (how = 1) = false := by simp [c1]
    by_cases c2 : how = 2
    · have e : z = s.extract 0 32 ++ b.extract 32 b.size := by rw [hz, hb]; simp [torn, c2]
      subst c2
      have HZ := hide e
      have g1 : ¬ (9223372036854775807 < min 32 s.size + (b.size - 32)) := by omega
      clear hz e hb hs c1 d1 d2
      go_enter Try.func44, Try.ntmps44
      go_wp2_with fail
      go_region_held3 (fun _ : World => True) (trivial) (fail)
      all_goals
        go_wp2_with fail
        go_ret
        exact ⟨by rw [unhide HZ]; rfl, bw_drew _⟩
    · have d3 : (how == 2) = false := by simp [c2]
      have d4 : decide (how = 2) = false := by simp [c2]
      by_cases c3 : how = 3
      · have e : z = b.extract 0 32 ++ s.extract 32 s.size := by rw [hz, hs]; simp [torn, c3]
        subst c3
        have HZ := hide e
        have g1 : ¬ (9223372036854775807 < min 32 b.size + (s.size - 32)) := by omega
        clear hz e hb hs c1 d1 d2 c2 d3 d4
        go_enter Try.func44, Try.ntmps44
        go_wp2_with fail
        go_region_held3 (fun _ : World => True) (trivial) (fail)
        all_goals
          go_wp2_with fail
          go_ret
          exact ⟨by rw [unhide HZ]; rfl, bw_drew _⟩
      · have d5 : (how == 3) = false := by simp [c3]
        have d6 : decide (how = 3) = false := by simp [c3]
        have e : z = b := by rw [hz]; simp [torn, c1, c2, c3]
        subst e
        clear hz
        go_enter Try.func44, Try.ntmps44
        go_wp2_with fail
        go_ret
        exact ⟨rfl, Below.refl _ _⟩

theorem DS.ok.upTo {S : DS} (h : S.ok) (u : Bool) (c : Option (Nat × Int)) : ({ S with up := u, cut := c } : DS).ok := ⟨h.n1, h.n2, h.sz, h.ats⟩
theorem rstart_any {p : Nat} {S : DS} {Z : List Nat} {w : World} (h : RkS w p S Z) :
    Calls Try.prog 32 #[.pointer (some ⟨p, 0, none⟩)] w fun e w' => e = .returned (.int .i64 S.start.2) ∧ Stp w w' p S.start.1 Z := by
  have H0 := hide h
  obtain ⟨dv, sv, bt, rfl, h1⟩ := h
  obtain ⟨_, _, c2, _, _, _, fz⟩ := h1.cells
  have f2 := fz 2
  have H := hide h1
  clear h1 fz
  cases hu : S.up
  · rw [hu] at c2
    have e : S.start = ({ S with up := true, cut := none }, 0) := by simp [DS.start, hu]
    rw [e]
    simp only [Bool.not_false] at c2
    have hl : lft S = -1 := by unfold lft; rw [(unhide H).dn hu]
    have HS : Hid (Stp w (w.setCell ⟨p, 2, none⟩ (.bool false)) p { S with up := true, cut := none } (rfoot p dv sv)) := by
      refine (unhide H).step (bt' := bt) ?_ (fun k hk => set_other hk) (Fr.set1 (mem_rfoot.2 (Or.inl rfl)) _ _) rfl rfl rfl (fun n b c => by cases c) ((unhide H).ok.upTo true none) (fun c => by cases c)
      rw [set_blk (unhide H).blk, hl]; rfl
    clear hu e H0 H hl
    go_enter Try.func32, Try.ntmps32
    go_wp2_with fail
    go_ret
    exact ⟨rfl, unhide HS⟩
  · rw [hu] at c2
    have e : S.start = (S, 8) := by simp [DS.start, hu]
    rw [e]
    simp only [Bool.not_true] at c2
    have HS := hide (Stp.same (unhide H0))
    clear hu e H0 H f2
    go_enter Try.func32, Try.ntmps32
    go_wp2_with fail
    go_ret
    exact ⟨rfl, unhide HS⟩
theorem rcut_any {p : Nat} {S : DS} {Z : List Nat} {w : World} (h : RkS w p S Z) (n bits : Int) (hn : n ≤ 9223372036854775807) :
    Calls Try.prog 30 #[.pointer (some ⟨p, 0, none⟩), .int .i64 n, .int .i64 bits] w fun e w' => e = .returned (.int .i64 (S.doCut n bits).2) ∧ Stp w w' p (S.doCut n bits).1 Z := by
  have H0 := hide h
  obtain ⟨dv, sv, bt, rfl, h1⟩ := h
  obtain ⟨_, _, c2, c3, c4, _, fz⟩ := h1.cells
  have f3 := fz 3
  have f4 := fz 4
  have H := hide h1
  clear h1 fz
  cases hu : S.up
  · rw [hu] at c2
    have e : S.doCut n bits = (S, 6) := by simp [DS.doCut, hu]
    rw [e]
    simp only [Bool.not_false] at c2
    have HS := hide (Stp.same (unhide H0))
    clear hu e H0 H f3 f4
    go_enter Try.func30, Try.ntmps30
    go_wp2_with fail
    go_ret
    exact ⟨rfl, unhide HS⟩
  · rw [hu] at c2
    simp only [Bool.not_true] at c2
    by_cases hneg : n < 0
    · have e : S.doCut n bits = (S, 1) := by simp [DS.doCut, hu, hneg]
      rw [e]
      have HS := hide (Stp.same (unhide H0))
      clear hu e H0 H f3 f4
      go_enter Try.func30, Try.ntmps30
      go_wp2_with fail
      go_ret
      exact ⟨rfl, unhide HS⟩
    · have e : S.doCut n bits = ({ S with cut := some (n.toNat, bits) }, 0) := by simp [DS.doCut, hu, hneg]
      rw [e]
      have hl : lft { S with cut := some (n.toNat, bits) } = n := by simp only [lft]; omega
      have HS : Hid (Stp w ((w.setCell ⟨p, 3, none⟩ (.int .i64 n)).setCell ⟨p, 4, none⟩ (.int .i64 bits)) p { S with cut := some (n.toNat, bits) } (rfoot p dv sv)) := by
        refine (unhide H).step (bt' := bits) ?_ (fun k hk => (set_other hk).trans (set_other hk)) ((Fr.set1 (mem_rfoot.2 (Or.inl rfl)) _ _).tr (Fr.set1 (mem_rfoot.2 (Or.inl rfl)) _ _)) rfl rfl rfl (fun m b c => ?_) ((unhide H).ok.cutTo _) (fun c => by rw [hu] at c; cases c)
        · rw [set_blk (set_blk (unhide H).blk), hl]; rfl
        · simp only [Option.some.injEq, Prod.mk.injEq] at c
          exact ⟨c.2, by omega⟩
      clear hu e H0 H hl hn
      go_enter Try.func30, Try.ntmps30
      go_wp2_with fail
      go_ret
      exact ⟨rfl, unhide HS⟩

/-! Read: the last write there, or what was synced. -/
theorem cur_take {f : Nat → ByteArray} {l : List (Nat × ByteArray)} {k i : Nat} (h : ∀ j p, i ≤ j → l[j]? = some p → p.1 ≠ k) : cur f l k = cur f (l.take i) k := by
  have e : l = l.take i ++ l.drop i := (List.take_append_drop i l).symm
  conv => lhs; rw [e]
  unfold cur
  rw [List.foldl_append]
  have hd : ∀ p ∈ l.drop i, p.1 ≠ k := by
    intro p hp
    obtain ⟨j, hj⟩ := List.mem_iff_getElem?.1 hp
    rw [List.getElem?_drop] at hj
    exact h (i + j) p (by omega) hj
  generalize l.drop i = m at hd
  generalize List.foldl _ f (l.take i) = g
  induction m generalizing g with
  | nil => rfl
  | cons p m ih =>
    simp only [List.foldl_cons]
    rw [ih (fun q hq => hd q (by simp [hq])), upd_other _ _ (Ne.symm (hd p (by simp)))]
theorem cur_hit {f : Nat → ByteArray} {l : List (Nat × ByteArray)} {k i : Nat} {p : Nat × ByteArray} (hp : l[i]? = some p) (hk : p.1 = k) (h : ∀ j q, i + 1 ≤ j → l[j]? = some q → q.1 ≠ k) : cur f l k = p.2 := by
  rw [cur_take h, List.take_add_one, hp]
  obtain ⟨a, s⟩ := p
  simp only [Option.toList]
  rw [cur_snoc]
  simp only at hk
  subst hk
  rw [upd_same]
theorem rread_down {p : Nat} {S : DS} {Z : List Nat} {w : World} (h : RkS w p S Z) (hu : S.up = false) (x : Int) :
    Calls Try.prog 29 #[.pointer (some ⟨p, 0, none⟩), .int .i64 x] w fun e w' => e = .returned (.tuple #[.string ByteArray.empty, .int .i64 6]) ∧ w' = w := by
  obtain ⟨dv, sv, bt, rfl, h1⟩ := h
  obtain ⟨_, _, c2, _, _, _, _⟩ := h1.cells
  rw [hu] at c2
  simp only [Bool.not_false] at c2
  clear h1 hu
  go_enter Try.func29, Try.ntmps29
  go_wp2_with fail
  go_ret2
  exact ⟨rfl, rfl⟩
theorem rread_out {p : Nat} {S : DS} {Z : List Nat} {w : World} (h : RkS w p S Z) (hu : S.up = true) (x : Int) (hx : x < 0 ∨ (S.N : Int) ≤ x) :
    Calls Try.prog 29 #[.pointer (some ⟨p, 0, none⟩), .int .i64 x] w fun e w' => e = .returned (.tuple #[.string ByteArray.empty, .int .i64 1]) ∧ w' = w := by
  obtain ⟨dv, sv, bt, rfl, h1⟩ := h
  obtain ⟨c0, _, c2, _, _, _, _⟩ := h1.cells
  rw [hu] at c2
  simp only [Bool.not_true] at c2
  obtain ⟨a, cap, rfl⟩ := own_slice h1.done
  simp only [List.length_map, List.length_range] at c0
  have hN := h1.ok.n2
  clear h1 hu
  generalize S.N = N at *
  by_cases h0 : x < 0
  · clear hx
    go_enter Try.func29, Try.ntmps29
    go_wp2_with fail
    go_ret2
    exact ⟨rfl, rfl⟩
  · have h2 : (N : Int) ≤ x := by omega
    clear hx
    go_enter Try.func29, Try.ntmps29
    go_wp2_with fail
    go_ret2
    exact ⟨rfl, rfl⟩
set_option maxHeartbeats 2000000 in
theorem rread_in {p : Nat} {S : DS} {Z : List Nat} {w : World} (h : RkS w p S Z) (hu : S.up = true) (k : Nat) (hk : k < S.N) (hq : S.since.length ≤ 140737488355328) :
    Calls Try.prog 29 #[.pointer (some ⟨p, 0, none⟩), .int .i64 (k : Int)] w fun e w' => e = .returned (.tuple #[.string (S.now k), .int .i64 0]) ∧ w' = w := by
  obtain ⟨dv, sv, bt, rfl, h1⟩ := h
  obtain ⟨c0, c1, c2, _, _, _, _⟩ := h1.cells
  rw [hu] at c2
  simp only [Bool.not_true] at c2
  obtain ⟨g, dc, rfl, c8, _, _⟩ := h1.done.cell (i := k) (s := S.base k) (by simp [hk])
  obtain ⟨a, cap, hsv⟩ := own_slice h1.row
  have hN := h1.ok.n2
  have hkN : (k : Int) < (S.N : Int) := by omega
  simp only [List.length_map, List.length_range] at c0
  have H := hide h1.row
  clear h1 hu hk
  obtain ⟨n, hn⟩ : ∃ n, n = S.since.length := ⟨_, rfl⟩
  rw [← hn] at hsv hq
  have HN := hide hn
  subst hsv
  obtain ⟨R, hR⟩ : ∃ R, R = S.now k := ⟨_, rfl⟩
  rw [← hR]
  have HR := hide hR
  clear hn hR
  generalize S.N = N at *
  have hkn : ¬ ((k : Int) < 0) := by omega
  go_enter Try.func29, Try.ntmps29
  go_wp2_with fail
  go_loop [6] (fun iv => ∃ i : Nat, i ≤ n ∧ iv = .int .i64 ((i : Int) - 1) ∧ Hid (∀ j q, i ≤ j → S.since[j]? = some q → q.1 ≠ k)) (fun iv => (intOf iv + 1).toNat)
  case atStart => exact ⟨n, by omega, by go_num, fun j q hj hq => by have := (List.getElem?_eq_some_iff.1 hq).1; have := unhide HN; omega⟩
  case round =>
    obtain ⟨i, hi, rfl, HI⟩ := hrel
    match i, hi with
    | 0, _ =>
      have e : R = S.base k := by
        rw [unhide HR]; unfold DS.now
        rw [cur_take (i := 0) (unhide HI)]; rfl
      subst e
      go_wp2_with fail
      go_ret2
      exact ⟨rfl, rfl⟩
    | i + 1, hi =>
      obtain ⟨q, hq2⟩ : ∃ q, S.since[i]? = some q := ⟨_, List.getElem?_eq_getElem (by have := unhide HN; omega)⟩
      obtain ⟨gs, sc, hs, _, z1, z2, _⟩ := (unhide H).cell hq2
      simp only [Value.slice.injEq] at hs
      obtain ⟨rfl, _, rfl⟩ := hs
      have ei : ((i + 1 : Nat) : Int) - 1 = (i : Int) := by omega
      have hin : (i : Int) < (n : Int) := by omega
      rw [ei]
      obtain ⟨qa, qs⟩ := q
      simp only at z1 z2
      by_cases hqk : qa = k
      · have e : R = qs := by rw [unhide HR]; exact cur_hit hq2 hqk (unhide HI)
        subst e
        subst hqk
        clear hq2 ei hi
        go_wp2_with fail
        go_ret2
        exact ⟨rfl, rfl⟩
      · have HI2 : Hid (∀ j q, i ≤ j → S.since[j]? = some q → q.1 ≠ k) := fun j q hj hq => by
          by_cases c : j = i
          · subst c; rw [hq2] at hq; cases hq; exact hqk
          · exact unhide HI j q (by omega) hq
        have d0 : ((qa : Nat) : Int) ≠ (k : Int) := by omega
        have d1 : (((qa : Nat) : Int) == (k : Int)) = false := by rw [beq_eq_false_iff_ne]; exact d0
        have d2 : decide (((qa : Nat) : Int) = (k : Int)) = false := decide_eq_false d0
        clear hq2 ei hqk HI
        go_wp2_with fail
        go_round
        case rel => exact ⟨i, by omega, by go_num, HI2⟩
        case measure => simp only [intOf]; omega
theorem rread_any {p : Nat} {S : DS} {Z : List Nat} {w : World} (h : RkS w p S Z) (x : Int) (hq : S.since.length ≤ 140737488355328) :
    Calls Try.prog 29 #[.pointer (some ⟨p, 0, none⟩), .int .i64 x] w fun e w' => e = .returned (.tuple #[.string (S.read x).1, .int .i64 (S.read x).2]) ∧ w' = w := by
  unfold DS.read
  cases hu : S.up
  · simp only [if_true]
    exact rread_down h hu x
  · simp only [Bool.true_eq_false, if_false]
    by_cases hx : x < 0 ∨ (S.N : Int) ≤ x
    · simp only [hx, if_true]
      exact rread_out h hu x hx
    · simp only [hx, if_false]
      have K := rread_in h hu x.toNat (by omega) hq
      have e : ((x.toNat : Nat) : Int) = x := by omega
      rw [e] at K
      exact K

end Go.Proofs.Ytimhjheigejjmaa
