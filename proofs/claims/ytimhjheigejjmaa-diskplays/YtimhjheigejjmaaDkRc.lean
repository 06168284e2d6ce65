/- Contracts of the document's disk: does, Write, Sync, Crash, New. -/
import Derived.Test.YtimhjheigejjmaaDkRb
namespace Go.Proofs.Ytimhjheigejjmaa
open Go.RowKit Go.Maps

theorem rfalls_any {p : Nat} {S : DS} {Z : List Nat} {w : World} (h : RkS w p S Z) (bits : Int) (hq : S.since.length ≤ 140737488355328) :
    Calls Try.prog 42 #[.pointer (some ⟨p, 0, none⟩), .int .i64 bits] w fun e w' => e = .returned (.tuple #[]) ∧ Stp w w' p (S.fall bits) Z := by
  obtain ⟨dv, sv, bt, rfl, h1⟩ := h
  exact rfalls_core h1 bits hq
theorem rcrash_any {p : Nat} {S : DS} {Z : List Nat} {w : World} (h : RkS w p S Z) (bits : Int) (hq : S.since.length ≤ 140737488355328) :
    Calls Try.prog 31 #[.pointer (some ⟨p, 0, none⟩), .int .i64 bits] w fun e w' => e = .returned (.int .i64 (S.crash bits).2) ∧ Stp w w' p (S.crash bits).1 Z := by
  have KF := rfalls_any h bits hq
  have HS := hide (Stp.same h)
  obtain ⟨dv, sv, bt, rfl, h1⟩ := h
  obtain ⟨_, _, c2, _, _, _, _⟩ := h1.cells
  clear h1
  cases hu : S.up
  · rw [hu] at c2
    simp only [Bool.not_false] at c2
    have e : S.crash bits = (S, 6) := by simp [DS.crash, hu]
    rw [e]
    clear hu e KF hq
    go_enter Try.func31, Try.ntmps31
    go_wp2_with fail
    go_ret
    exact ⟨rfl, unhide HS⟩
  · rw [hu] at c2
    simp only [Bool.not_true] at c2
    have e : S.crash bits = (S.fall bits, 0) := by simp [DS.crash, hu]
    rw [e]
    clear hu e HS hq
    go_enter Try.func31, Try.ntmps31
    go_wp2_with fail
    refine KF.mono ?_
    rintro e w1 ⟨rfl, h1⟩
    have HS := hide h1
    clear h1 KF
    go_wp2_with fail
    go_ret
    exact ⟨rfl, unhide HS⟩
/-- Whether a write or a sync is done. -/
def DS.doesN (S : DS) : DS × Bool :=
  match S.cut with
  | none => (S.did, true)
  | some (0, b) => (S.fall b, false)
  | some (n + 1, b) => ({ S with cut := some (n, b) }.did, true)
theorem come_put_eq (S : DS) (k : Nat) (s : ByteArray) : S.come (fun S => S.put k s) = if S.doesN.2 then (S.doesN.1.put k s, 0) else (S.doesN.1, 6) := by
  obtain ⟨N, ba, si, u, c, cu⟩ := S
  rcases cu with _ | ⟨n, b⟩
  · rfl
  · cases n <;> rfl
theorem come_settle_eq (S : DS) : S.come DS.settle = if S.doesN.2 then (S.doesN.1.settle, 0) else (S.doesN.1, 6) := by
  obtain ⟨N, ba, si, u, c, cu⟩ := S
  rcases cu with _ | ⟨n, b⟩
  · rfl
  · cases n <;> rfl
theorem doesN_keep (S : DS) (h : S.doesN.2 = true) : S.doesN.1.N = S.N ∧ S.doesN.1.base = S.base ∧ S.doesN.1.since = S.since ∧ S.doesN.1.up = S.up := by
  obtain ⟨N, ba, si, u, c, cu⟩ := S
  rcases cu with _ | ⟨n, b⟩
  · exact ⟨rfl, rfl, rfl, rfl⟩
  · cases n
    · cases h
    · exact ⟨rfl, rfl, rfl, rfl⟩
theorem rdoes_any {p : Nat} {S : DS} {Z : List Nat} {w : World} (h : RkS w p S Z) (hu : S.up = true) (hn : S.cnt < 4611686018427387904) (hq : S.since.length ≤ 140737488355328) :
    Calls Try.prog 41 #[.pointer (some ⟨p, 0, none⟩)] w fun e w' => e = .returned (.bool S.doesN.2) ∧ Stp w w' p S.doesN.1 Z := by
  have H0 := hide h
  obtain ⟨dv, sv, bt, rfl, h1⟩ := h
  obtain ⟨_, _, _, c3, c4, c5, fz⟩ := h1.cells
  have f3 := fz 3
  have f5 := fz 5
  have H := hide h1
  have hpm : p ∈ rfoot p dv sv := mem_rfoot.2 (Or.inl rfl)
  clear h1 fz
  have hc1 : (S.cnt : Int) + 1 = ((S.cnt + 1 : Nat) : Int) := by omega
  have hcn : (S.cnt : Int) ≤ 4611686018427387904 := by omega
  have hc0 : 0 ≤ (S.cnt : Int) := by omega
  rcases hcut : S.cut with _ | ⟨n, b⟩
  · have e : S.doesN = (S.did, true) := by simp [DS.doesN, hcut]
    have hl : lft S = -1 := by simp [lft, hcut]
    rw [e]
    rw [hl] at c3
    have HS : Hid (Stp w (w.setCell ⟨p, 5, none⟩ (.int .i64 ((S.cnt : Int) + 1))) p S.did (rfoot p dv sv)) := by
      refine (unhide H).step (bt' := bt) ?_ (fun k hk => set_other hk) (Fr.set1 hpm _ _) rfl rfl rfl (unhide H).cut (unhide H).ok.did (unhide H).dn
      rw [set_blk (unhide H).blk, hc1]
      rfl
    generalize (S.cnt : Int) = cn at *
    clear hcut e hl H0 H hu hn hq hc1
    go_enter Try.func41, Try.ntmps41
    go_wp2_with fail
    go_ret
    exact ⟨rfl, unhide HS⟩
  · obtain ⟨hbt, hnm⟩ := (unhide H).cut n b hcut
    subst hbt
    have hl : lft S = (n : Int) := by simp [lft, hcut]
    rw [hl] at c3
    cases n with
    | zero =>
      have e : S.doesN = (S.fall bt, false) := by simp [DS.doesN, hcut]
      rw [e]
      have KF := rfalls_any (unhide H0) bt hq
      have c3' : w.cell? ⟨p, 3, none⟩ = some (.int .i64 0) := c3
      clear hcut e hl H0 H hu hn hq hc1 c3 c5 f5 hnm
      go_enter Try.func41, Try.ntmps41
      go_wp2_with fail
      refine KF.mono ?_
      rintro e w1 ⟨rfl, h1⟩
      have HS := hide h1
      clear h1 KF
      go_wp2_with fail
      go_ret
      exact ⟨rfl, unhide HS⟩
    | succ n =>
      have e : S.doesN = ({ S with cut := some (n, bt) }.did, true) := by simp [DS.doesN, hcut]
      rw [e]
      have el : ((n + 1 : Nat) : Int) = (n : Int) + 1 := by omega
      rw [el] at c3
      have HS : Hid (Stp w ((w.setCell ⟨p, 3, none⟩ (.int .i64 (n : Int))).setCell ⟨p, 5, none⟩ (.int .i64 ((S.cnt : Int) + 1))) p ({ S with cut := some (n, bt) } : DS).did (rfoot p dv sv)) := by
        refine (unhide H).step (bt' := bt) ?_ (fun k hk => (set_other hk).trans (set_other hk)) ((Fr.set1 hpm _ _).tr (Fr.set1 hpm _ _)) rfl rfl rfl (fun m b' c => ?_) ((unhide H).ok.cutTo _).did (fun c => ?_)
        · rw [set_blk (set_blk (unhide H).blk), hc1]; rfl
        · simp only [DS.did, Option.some.injEq, Prod.mk.injEq] at c; exact ⟨c.2, by omega⟩
        · simp only [DS.did] at c; rw [hu] at c; cases c
      have g1 : ((n : Int) + 1 == 0) = false := by rw [beq_eq_false_iff_ne]; omega
      have g2 : decide ((n : Int) + 1 = 0) = false := decide_eq_false (by omega)
      have g3 : 0 < (n : Int) + 1 := by omega
      have g4 : IntKind.i64.wrap ((n : Int) + 1 - 1) = (n : Int) := by rw [wrap_i64 (by omega) (by omega)]; omega
      have g5 : (n : Int) ≤ 9223372036854775806 := by omega
      generalize (S.cnt : Int) = cn at *
      clear hcut e hl H0 H hu hn hq hc1 hnm el
      go_enter Try.func41, Try.ntmps41
      go_wp2_with fail
      go_ret
      exact ⟨rfl, unhide HS⟩

theorem Try.infoWrF : (Try.prog.info? 43).map (fun i => (i.zero, i.size, i.bytes)) = some (some (.agg #[.int .i64 0, .string ByteArray.empty]), 2, 24) := by kernel_rfl
theorem info_wr : ∃ i, Try.prog.info? 43 = some i ∧ i.zero = some (.agg #[.int .i64 0, .string ByteArray.empty]) ∧ i.size = 2 ∧ i.bytes = 24 := by
  have h := Try.infoWrF
  cases e : Try.prog.info? 43 with
  | none => rw [e] at h; cases h
  | some i => rw [e] at h; simp at h; exact ⟨i, rfl, h.1, h.2.1, h.2.2⟩
theorem cell_two_new (w : World) (u v : Value) (t : TypeId) : ∀ j x, [u, v][j]? = some x → (w.alloc (.cells #[u, v] t)).cell? ((⟨w.heap.size, 0, none⟩ : Addr).add j) = some x := by
  intro j x hj
  match j, hj with
  | 0, hj => simp at hj; subst hj; simp [go_sem, Addr.add]
  | 1, hj => simp at hj; subst hj; simp [go_sem, Addr.add]
  | j + 2, hj => simp at hj
theorem rwrite_down {p : Nat} {S : DS} {Z : List Nat} {w : World} (h : RkS w p S Z) (hu : S.up = false) (x : Int) (s : ByteArray) :
    Calls Try.prog 27 #[.pointer (some ⟨p, 0, none⟩), .int .i64 x, .string s] w fun e w' => e = .returned (.int .i64 6) ∧ w' = w := by
  obtain ⟨dv, sv, bt, rfl, h1⟩ := h
  obtain ⟨_, _, c2, _, _, _, _⟩ := h1.cells
  rw [hu] at c2
  simp only [Bool.not_false] at c2
  clear h1 hu
  go_enter Try.func27, Try.ntmps27
  go_wp2_with fail
  go_ret
  exact ⟨rfl, rfl⟩
theorem rwrite_out {p : Nat} {S : DS} {Z : List Nat} {w : World} (h : RkS w p S Z) (hu : S.up = true) (x : Int) (s : ByteArray) (hx : x < 0 ∨ (S.N : Int) ≤ x ∨ s.size ≠ 64) (_hsl : s.size ≤ 140737488355328) :
    Calls Try.prog 27 #[.pointer (some ⟨p, 0, none⟩), .int .i64 x, .string s] w fun e w' => e = .returned (.int .i64 1) ∧ w' = w := by
  obtain ⟨dv, sv, bt, rfl, h1⟩ := h
  obtain ⟨c0, _, c2, _, _, _, _⟩ := h1.cells
  rw [hu] at c2
  simp only [Bool.not_true] at c2
  obtain ⟨a, cap, rfl⟩ := own_slice h1.done
  simp only [List.length_map, List.length_range] at c0
  have hN := h1.ok.n2
  clear h1 hu
  generalize S.N = N at *
  by_cases h0 : x < 0
  · clear hx
    go_enter Try.func27, Try.ntmps27
    go_wp2_with fail
    go_ret
    exact ⟨rfl, rfl⟩
  · by_cases h2 : (N : Int) ≤ x
    · clear hx
      go_enter Try.func27, Try.ntmps27
      go_wp2_with fail
      go_ret
      exact ⟨rfl, rfl⟩
    · have q5 : ((s.size : Nat) : Int) ≠ 64 := by omega
      have q6 : (((s.size : Nat) : Int) != 64) = true := by simp only [bne, Bool.not_eq_true']; rw [beq_eq_false_iff_ne]; exact q5
      have q7 : decide (((s.size : Nat) : Int) = 64) = false := decide_eq_false q5
      have q8 : (((s.size : Nat) : Int) == 64) = false := by rw [beq_eq_false_iff_ne]; exact q5
      have h3 : x < (N : Int) := by omega
      clear hx
      go_enter Try.func27, Try.ntmps27
      go_wp2_with fail
      go_ret
      exact ⟨rfl, rfl⟩
set_option maxHeartbeats 2000000 in
theorem rwrite_in {p : Nat} {S : DS} {Z : List Nat} {w : World} (h : RkS w p S Z) (hu : S.up = true) (hn : S.cnt < 4611686018427387904) (hq : S.since.length ≤ 1000000) {k : Nat} {s : ByteArray} (hk : k < S.N) (hs : s.size = 64) :
    Calls Try.prog 27 #[.pointer (some ⟨p, 0, none⟩), .int .i64 (k : Int), .string s] w fun e w' => e = .returned (.int .i64 (S.come (fun S => S.put k s)).2) ∧ Stp w w' p (S.come (fun S => S.put k s)).1 Z := by
  have KD := rdoes_any h hu hn (by omega)
  rw [come_put_eq]
  have HK := hide (doesN_keep S)
  obtain ⟨dv, sv, bt, rfl, h1⟩ := h
  obtain ⟨c0, _, c2, _, _, _, _⟩ := h1.cells
  rw [hu] at c2
  simp only [Bool.not_true] at c2
  obtain ⟨a, cap, hdv⟩ := own_slice h1.done
  rw [hdv] at c0
  simp only [List.length_map, List.length_range] at c0
  have hN := h1.ok.n2
  have hk1 : (k : Int) < (S.N : Int) := by omega
  have hs1 : ((s.size : Nat) : Int) = 64 := by omega
  have hk0 : ¬ ((k : Int) < 0) := by omega
  have HX := hide (And.intro hk (And.intro hs hq))
  clear h1 hu hn hq hk hs hdv
  obtain ⟨S1, hS1⟩ : ∃ T, T = S.doesN.1 := ⟨_, rfl⟩
  rw [← hS1] at KD ⊢
  cases hd : S.doesN.2
  · rw [hd] at KD
    simp only [Bool.false_eq_true, if_false]
    clear HK hS1 hd
    generalize S.N = N at *
    go_enter Try.func27, Try.ntmps27
    go_wp2_with fail
    refine KD.mono ?_
    rintro e w1 ⟨rfl, h1⟩
    have HS := hide h1
    clear h1 KD
    go_wp2_with fail
    go_ret
    exact ⟨rfl, unhide HS⟩
  · rw [hd] at KD
    simp only [if_true]
    have HE := hide (unhide HK hd)
    rw [← hS1] at HE
    clear HK hS1 hd
    generalize hNN : S.N = N at *
    obtain ⟨i0, hi, hz0, hz1, hz2⟩ := info_wr
    go_enter Try.func27, Try.ntmps27
    go_wp2_with fail
    refine KD.mono ?_
    rintro e w1 ⟨rfl, Z1, hR, hm⟩
    clear KD
    have HM := hide hm
    obtain ⟨dv1, sv1, bt1, rfl, r1⟩ := hR
    obtain ⟨_, y1, _, _, _, _, fz⟩ := r1.cells
    have f1 := fz 1
    have HR1 := hide r1
    have hown := own_alloc r1.row (.cells #[.int .i64 (k : Int), .string s] 43)
    have hl1 : S1.since.length ≤ 1000000 := by rw [(unhide HE).2.2.1]; exact (unhide HX).2.2
    have HL := hide hl1
    have HO := hide hown
    clear fz hm r1 hl1 hown
    go_wp2_with (at_builtin; refine wpList_append_own_at _ rfl (.tmp 34) (.tmp 38) 36 rfl 0 43 i0 (.agg #[.int .i64 0, .string ByteArray.empty]) 2 24 Try.underlying36 hi hz0 hz1 hz2 rfl (by decide) sv1 S1.since.length (S1.since.flatMap waC) rfl (unhide HO) ⟨w1.heap.size, 0, none⟩ 1 1 [.int .i64 (k : Int), .string s] rfl rfl (cell_two_new _ _ _ _) (by intro u hu; simp at hu; rcases hu with rfl | rfl <;> rfl) (by have := unhide HL; unfold maxLen; omega) (by have := unhide HL; omega) (Nat.zero_le _) ?nx)
    case nx =>
      intro v' w3 hown' hgr _ hat
      obtain ⟨va, vc, hv'⟩ := own_slice hown'
      have hpl : p < w1.heap.size := lt_of_blk (unhide HR1).blk
      have hb3 : w3.heap[p]? = w1.heap[p]? := by
        rw [hgr.block p (by simp; omega) (fun c => (unhide HR1).apart.2.1 c.symm), Below.heap_alloc _ _ _ hpl]
      have y3 : w3.cell? ⟨p, 1, none⟩ = some sv1 := by rw [World.cell?_of_block (w := w1) hb3]; exact y1
      have f3 : w3.frozen? ⟨p, 1, none⟩ = false := by simp [World.frozen?, hb3, (unhide HR1).blk]
      have hat' : v'.ownBlock = sv1.ownBlock ∨ v'.ownBlock = some w1.heap.size ∨ v'.ownBlock = some (w1.heap.size + 1) := by
        rcases hat with c | c
        · exact Or.inl c
        · exact Or.inr (Or.inr (c.trans (by simp)))
      have HS : Hid (Stp w (w3.setCell ⟨p, 1, none⟩ v') p (S1.put k s) (rfoot p dv sv)) := by
        have hfr1 : Fr sv1.ownBlock.toList w1 w3 := ((Fr.refl _ w1).alloc _).tr (Fr.ofGrown hgr)
        have hpm : p ∈ rfoot p dv1 sv1 := mem_rfoot.2 (Or.inl rfl)
        have hb4 := set_blk (j := 1) (v := v') (hb3.trans (unhide HR1).blk)
        have hrow : WRow w3 v' (S1.since ++ [(k, s)]) := by
          unfold WRow
          rw [List.flatMap_append, List.length_append]
          simpa [waC] using hown'
        have hvp : v'.ownBlock ≠ some p := by
          intro c
          rcases hat' with q | q | q
          · rw [q] at c; exact (unhide HR1).apart.2.1 c
          · rw [q] at c; cases c; omega
          · rw [q] at c; cases c; omega
        have hok : (S1.put k s).ok := (unhide HR1).ok.put (by rw [(unhide HE).1]; exact (unhide HX).1) (unhide HX).2.1
        refine ⟨rfoot p dv1 v', ⟨dv1, v', bt1, rfl, ⟨?_, ?_, ?_, (unhide HR1).cut, hok, (unhide HR1).dn⟩⟩, (unhide HM).trans ⟨?_, ?_⟩⟩
        · rw [hb4]; rfl
        · refine own_keep (w := w1) (unhide HR1).done (fun j hj => ?_)
          have hjl := (World.ownsRow.lt (unhide HR1).done j hj).2
          rw [set_other (fun c => (unhide HR1).apart.1 (by rw [hj, c]))]
          rw [hgr.block j (by simp; omega) (fun c => (unhide HR1).apart.2.2 j hj c.symm), Below.heap_alloc _ _ _ hjl]
        · exact own_keep hrow (fun j hj => set_other (fun c => hvp (by rw [hj, c])))
        · refine (hfr1.mono (fun x _ hx => mem_rfoot.2 (Or.inr (Or.inr (by simpa using hx))))).tr (Fr.set1 hpm _ _)
        · intro x hx
          rcases mem_rfoot.1 hx with rfl | hx | hx
          · exact Or.inl hpm
          · exact Or.inl (mem_rfoot.2 (Or.inr (Or.inl hx)))
          · rcases hat' with q | q | q
            · rw [q] at hx; exact Or.inl (mem_rfoot.2 (Or.inr (Or.inr hx)))
            · rw [q] at hx; cases hx; exact Or.inr (Nat.le_refl _)
            · rw [q] at hx; cases hx; exact Or.inr (by omega)
      clear hown' hgr hat hat' hb3 HR1 HM HO hpl
      subst hv'
      go_wp2_with fail
      go_ret
      exact ⟨rfl, unhide HS⟩
theorem rwrite_any {p : Nat} {S : DS} {Z : List Nat} {w : World} (h : RkS w p S Z) (hn : S.cnt < 4611686018427387904) (hq : S.since.length ≤ 1000000) (x : Int) (s : ByteArray) (hsl : s.size ≤ 140737488355328) :
    Calls Try.prog 27 #[.pointer (some ⟨p, 0, none⟩), .int .i64 x, .string s] w fun e w' => e = .returned (.int .i64 (S.write x s).2) ∧ Stp w w' p (S.write x s).1 Z := by
  unfold DS.write
  cases hu : S.up
  · simp only [if_true]
    refine (rwrite_down h hu x s).mono ?_
    rintro e w' ⟨rfl, rfl⟩
    exact ⟨rfl, Stp.same h⟩
  · simp only [Bool.true_eq_false, if_false]
    by_cases hx : x < 0 ∨ (S.N : Int) ≤ x ∨ s.size ≠ 64
    · simp only [hx, if_true]
      refine (rwrite_out h hu x s hx hsl).mono ?_
      rintro e w' ⟨rfl, rfl⟩
      exact ⟨rfl, Stp.same h⟩
    · simp only [hx, if_false]
      have K := rwrite_in h hu hn hq (k := x.toNat) (s := s) (by omega) (by omega)
      have e : ((x.toNat : Nat) : Int) = x := by omega
      rw [e] at K
      exact K

end Go.Proofs.Ytimhjheigejjmaa
