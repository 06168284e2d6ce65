/- The contract of the document's own Unpack: it answers as the plain one. -/
import Derived.Test.YtfnpeiikjiffeaaGreatStW
import Derived.Test.YtfnpeiikjiffeaaGreatStF
import Derived.Test.YtfnpeiikjiffeaaGreatStYp
namespace Go.Proofs.YtfnpeiikjiffeaaGreat
open Go.RowKit Go.Maps

theorem ofWi {S : List Nat} {w w' : World} (h : Wi.Fr S w w') : Fr S w w' := ⟨h.os, h.tape, h.output, h.size, h.block⟩
theorem QRow.fr {w W W' : World} {v : Value} {l : List PP} {S : List Nat} (h : QRow w W v l) (hf : Fr S W W') (hS : ∀ k ∈ S, w.heap.size ≤ k) (hd : ∀ k, v.ownBlock = some k → k ∉ S) : QRow w W' v l :=
  ⟨Fr.toBase h.bel hf (fun k hk => hS k hk), h.row.keep (fun k hk => hf.block k (World.ownsRow.lt h.row k hk).2 (hd k hk)), h.new⟩
theorem ttext_none_or {L : List UInt8} {k : Nat} : Wi.ttext L k = none ∨ ∃ a j, Wi.ttext L k = some (a, j) := by
  cases h : Wi.ttext L k with
  | none => exact Or.inl rfl
  | some p => exact Or.inr ⟨p.1, p.2, rfl⟩
theorem ir_text {W : World} {b k : Nat} {s : ByteArray} {x : Int} (h : Wi.IR W b s k x) (hs : s.size ≤ 140737488355328) (hk : k ≤ s.size) (hx : x = 0 ∨ (x = 4 ∧ Wi.ttext s.data.toList k = none)) :
    Calls Tryz.prog 36 #[.pointer (some ⟨b, 0, none⟩)] W fun e W' => ∃ (a : ByteArray) (k' : Nat) (x' : Int), e = .returned (.string a) ∧ Wi.IR W' b s k' x' ∧ Fr [b] W W' ∧ k' ≤ s.size ∧ a.size ≤ 65536 ∧
      ((x' = 0 ∧ x = 0 ∧ Wi.ttext s.data.toList k = some (a.data.toList, k')) ∨ (x' = 4 ∧ Wi.ttext s.data.toList k = none ∧ k' = k)) := by
  rcases ttext_none_or (L := s.data.toList) (k := k) with ht | ⟨a, j, ht⟩
  · refine (Wi.iText_bad b k s x W hs hk ht (by rcases hx with h | h; exact Or.inl h; exact Or.inr h.1) h).mono ?_
    rintro e W' ⟨rfl, h1, h2⟩
    exact ⟨⟨#[]⟩, k, 4, rfl, h1, ofWi h2, hk, by decide, Or.inr ⟨rfl, ht, rfl⟩⟩
  · obtain rfl : x = 0 := by
      rcases hx with h | h
      · exact h
      · rw [ht] at h; cases h.2
    refine (Wi.iText_ok b k j s a W hs hk ht h).mono ?_
    rintro e W' ⟨rfl, h1, h2⟩
    obtain ⟨-, q2, q3, q4⟩ := ttext_back ht
    exact ⟨Wi.str a, j, 0, rfl, h1, ofWi h2, by rw [← size_list]; exact q3, by rw [← size_list, data_str]; exact q4, Or.inl ⟨rfl, rfl, by rw [data_str]; exact ht⟩⟩
/-- The state of the loop of Unpack. -/
structure UI (w wr : World) (rb : Nat) (s : ByteArray) (m i k : Nat) (x : Int) (lv : Value) (done : List PP) : Prop where
  row : QRow w wr lv done
  ir : Wi.IR wr rb s k x
  new : w.heap.size ≤ rb
  at_ : k ≤ s.size
  len : done.length = i
  fit : ∀ p ∈ done, p.n.size ≤ 65536 ∧ p.t.size ≤ 65536
  st : (x = 0 ∧ unpackP s = finU s done (takeP s.data.toList (m - i) k)) ∨ (x = 4 ∧ unpackP s = none)
theorem prow_ne {W : World} {v : Value} {l : List PP} {rb k : Nat} {s : ByteArray} {x : Int} (h : PRow W v l) (hr : Wi.IR W rb s k x) : v.ownBlock ≠ some rb := by
  intro c
  obtain ⟨cur, hc⟩ := own_kind h c
  unfold Wi.IR at hr
  rw [hr] at hc; simp at hc
set_option maxRecDepth 100000 in
set_option maxHeartbeats 4000000 in
theorem runpack_go (s : ByteArray) (w : World) (hs : s.size ≤ 140737488355328) :
    Calls Tryz.prog 10 #[.string s] w fun e W' => Below w.heap.size w W' ∧ ((unpackP s = none ∧ e = .returned (.tuple #[.slice none 0 0, .int .i64 4])) ∨ (∃ l v, unpackP s = some l ∧ e = .returned (.tuple #[v, .int .i64 0]) ∧ PRow W' v l)) := by
  obtain ⟨X, hX⟩ : ∃ X, X = w.alloc (.cells #[.string s, .int .i64 0, .int .i64 0] 69) := ⟨_, rfl⟩
  obtain ⟨rb, hrb⟩ : ∃ b, b = w.heap.size := ⟨_, rfl⟩
  have I0 : Wi.IR X rb s 0 0 := by unfold Wi.IR; rw [hX, hrb]; exact heap_alloc_new _ _
  have KL : Calls Tryz.prog 35 #[.pointer (some ⟨rb, 0, none⟩)] X fun e W' => ∃ (m k : Nat) (x : Int), e = .returned (.int .i64 (m : Int)) ∧ m ≤ 65536 ∧ UI w W' rb s m 0 k x (.slice none 0 0) [] := by
    have bX : Below w.heap.size w X := by rw [hX]; exact bw_alloc _ _
    have key : ∀ W' : World, Wi.Fr [rb] X W' → QRow w W' (.slice none 0 0) [] := fun W' hf => by
      have h0 : QRow w X (.slice none 0 0) [] := ⟨bX, prow_nil _, fun k hk => by cases hk⟩
      exact h0.fr (ofWi hf) (fun k hk => by simp at hk; omega) (fun k hk => by cases hk)
    cases hc : Wi.tcnt s.data.toList 0 with
    | none =>
      refine (Wi.iList_bad rb 0 s X hs (by omega) hc I0).mono ?_
      rintro e W' ⟨rfl, h1, h2⟩
      exact ⟨0, 0, 4, rfl, by omega, key W' h2, h1, by omega, by omega, rfl, by simp, Or.inr ⟨rfl, unpackP_bad hc⟩⟩
    | some q =>
      obtain ⟨n, j⟩ := q
      obtain ⟨p1, p2, p3, p4, p5⟩ := Wi.tcnt_place hc
      obtain ⟨m, rfl⟩ : ∃ m : Nat, n = (m : Int) := ⟨n.toNat, by omega⟩
      refine (Wi.iList_ok rb 0 j s m X hs (by omega) hc I0).mono ?_
      rintro e W' ⟨rfl, h1, h2⟩
      exact ⟨m, j, 0, rfl, by omega, key W' h2, h1, by omega, by rw [← size_list]; exact p3, rfl, by simp, Or.inl ⟨rfl, by have := finU_unpack hc; simpa using this⟩⟩
  have HK := hide KL
  have HS := hide hs
  have HX := hide hX
  have Hrb := hide hrb
  clear KL I0 hs
  go_enter Tryz.func10, Tryz.ntmps10
  go_wp2_with fail
  rw [← unhide HX, ← unhide Hrb]
  clear hX hrb
  refine (unhide HK).mono ?_
  rintro e W1 ⟨m, k0, x0, rfl, hm, U0⟩
  have HU0 := hide U0
  clear HK U0 HX
  go_wp2_with fail
  go_loopw [7, 6] (fun iv lv wr => ∃ (i k : Nat) (x : Int) (done : List PP), i ≤ m ∧ iv = .int .i64 (i : Int) ∧ Hid (UI w wr rb s m i k x lv done)) (fun iv _ _ => (m - intOf iv).toNat)
  case atStart => exact ⟨0, k0, x0, [], by omega, rfl, HU0⟩
  case round =>
    clear HU0
    obtain ⟨i, k, x, done, hi, rfl, HR⟩ := hrel
    obtain ⟨hQ, hI, hn, hat, hlen, hfit, hst⟩ := unhide HR
    have c1 : wr.cell? ⟨rb, 1, none⟩ = some (.int .i64 (k : Int)) := by unfold Wi.IR at hI; simp [World.cell?, hI]
    have c2 : wr.cell? ⟨rb, 2, none⟩ = some (.int .i64 x) := by unfold Wi.IR at hI; simp [World.cell?, hI]
    rcases hst with ⟨rfl, hst⟩ | ⟨rfl, hst⟩
    · by_cases hlt : i < m
      · have hii : (i : Int) < (m : Int) := by omega
        have K1 := hide (ir_text hI (unhide HS) hat (Or.inl rfl))
        have HST := hide hst
        clear hQ hI hn hat hlen hfit hst c1
        go_wp2_with fail
        refine (unhide K1).mono ?_
        rintro e V ⟨a1, k1, x1, rfl, I1, F1, hk1, ha1, hc1⟩
        clear K1 c2
        obtain ⟨c, hc⟩ : ∃ c, c = V.heap.size := ⟨_, rfl⟩
        obtain ⟨Y, hY⟩ : ∃ Y, Y = V.alloc (.cells #[.string a1, .string ⟨#[]⟩, .bool false] 48) := ⟨_, rfl⟩
        have bY : Below V.heap.size V Y := by rw [hY]; exact bw_alloc _ _
        have qY : Y.heap[c]? = some (.cells #[.string a1, .string ⟨#[]⟩, .bool false] 48 (0, 0)) := by rw [hY, hc]; exact heap_alloc_new _ _
        have hrc : rb < c := by rw [hc]; unfold Wi.IR at I1; exact lt_of_blk I1
        have hwc : w.heap.size ≤ c := by have := (unhide HR).row.bel.size; have := F1.size; omega
        have K2 := hide (ir_text (I1.fr (wfr bY)) (unhide HS) hk1 (by rcases hc1 with h | h; exact Or.inl h.1; exact Or.inr ⟨h.1, by rw [h.2.2]; exact h.2.1⟩))
        have QV := (unhide HR).row.fr F1 (fun x hx => by have := (unhide HR).new; simp at hx; omega) (fun x hx => by have := prow_ne (unhide HR).row.row (unhide HR).ir; rw [hx] at this; simpa using this)
        have hob : ∀ x, u6.ownBlock = some x → x < c := fun x hx => by rw [hc]; exact (World.ownsRow.lt QV.row x hx).2
        have QY : QRow w Y u6 done := ⟨bw_tr QV.bel bY, QV.row.bw bY, QV.new⟩
        have HI1 := hide (And.intro qY (And.intro hrc (And.intro hwc (And.intro hob (And.intro QY (And.intro ha1 hc1))))))
        have HY := hide hY
        have HC := hide hc
        clear I1 F1 hk1 ha1 hc1 bY qY hrc hwc QV hob QY
        go_wp2_with fail
        rw [← unhide HY]
        clear hY HY
        refine (unhide K2).mono ?_
        rintro e U ⟨a2, k2, x2, rfl, I2, F2, hk2, ha2, hc2⟩
        obtain ⟨qY, hrc, hwc, hob, QY, ha1, hc1⟩ := unhide HI1
        have qU : U.heap[c]? = some (.cells #[.string a1, .string ⟨#[]⟩, .bool false] 48 (0, 0)) := (F2.block c (lt_of_blk qY) (by simp; omega)).trans qY
        have g0 : U.cell? ⟨c, 0, none⟩ = some (.string a1) := by simp [World.cell?, qU]
        have g1 : U.cell? ⟨c, 1, none⟩ = some (.string ⟨#[]⟩) := by simp [World.cell?, qU]
        have g2 : U.cell? ⟨c, 2, none⟩ = some (.bool false) := by simp [World.cell?, qU]
        have f1 : U.frozen? ⟨c, 1, none⟩ = false := by simp [World.frozen?, qU]
        have QU := QY.fr F2 (fun x hx => by have := (unhide HR).new; simp at hx; omega) (fun x hx => by have := prow_ne (unhide HR).row.row (unhide HR).ir; rw [hx] at this; simpa using this)
        have FS : Fr [c] U (U.setCell ⟨c, 1, none⟩ (.string a2)) := ofWi ((Wi.Fr.refl [c] U).setCell (Or.inr (by simp)) _)
        have QS := QU.fr FS (fun x hx => by simp at hx; omega) (fun x hx => by have := hob x hx; simp; omega)
        have IS : Wi.IR (U.setCell ⟨c, 1, none⟩ (.string a2)) rb s k2 x2 := by
          unfold Wi.IR at *
          rw [Below.heap_setCell _ _ _ _ (by show rb ≠ c; omega)]; exact I2
        have hst : (x2 = 0 ∧ unpackP s = finU s (done ++ [⟨a1, a2, false⟩]) (takeP s.data.toList (m - (i + 1)) k2)) ∨ (x2 = 4 ∧ unpackP s = none) := by
          have hr : m - i = (m - (i + 1)) + 1 := by omega
          have h0 := unhide HST
          rw [hr] at h0
          rcases hc2 with ⟨d1, d2, d3⟩ | ⟨d1, d2, d3⟩
          · rcases hc1 with ⟨e1, e2, e3⟩ | ⟨e1, e2, e3⟩
            · exact Or.inl ⟨d1, h0.trans (finU_step e3 d3)⟩
            · omega
          · refine Or.inr ⟨d1, ?_⟩
            rcases hc1 with ⟨e1, e2, e3⟩ | ⟨e1, e2, e3⟩
            · exact h0.trans (finU_bad2 e3 d2)
            · exact h0.trans (finU_bad1 e2)
        have HZ : Hid (∀ v' w', QRow w w' v' (done ++ [⟨a1, a2, false⟩]) → Fr u6.ownBlock.toList (U.setCell ⟨c, 1, none⟩ (.string a2)) w' → UI w w' rb s m (i + 1) k2 x2 v' (done ++ [⟨a1, a2, false⟩])) := fun v' w' h1 h2 => by
          refine ⟨h1, ?_, (unhide HR).new, hk2, by rw [List.length_append, (unhide HR).len]; rfl, fun p hp => by rcases List.mem_append.1 hp with hp | hp; exact (unhide HR).fit p hp; simp at hp; subst hp; exact ⟨ha1, ha2⟩, hst⟩
          unfold Wi.IR at *
          rw [h2.block rb (lt_of_blk IS) (fun hx => prow_ne QS.row IS (by simpa using hx))]; exact IS
        have hdl : done.length ≤ 1000000 := by have := (unhide HR).len; omega
        have HQS := hide QS
        rw [← unhide HC]
        clear hc HC HI1 HST HR K2 I2 F2 hk2 ha2 hc2 qY hrc hwc hob QY ha1 hc1 qU QU FS QS IS hst
        go_wp2_with (at_builtin; refine wpList_pushP (p := ⟨a1, a2, false⟩) rfl (.tmp 34) (.tmp 36) rfl rfl (by show Value.slice (some ⟨U.heap.size, 0, none⟩) 1 1 = _; simp [World.setCell]) (unhide HQS) hdl ?nx)
        case nx =>
          intro v' w5 E5 F5
          have HE5 := hide (unhide HZ v' w5 E5 F5)
          clear E5 F5 HZ HQS g0 g1 g2 f1
          go_wp2_with fail
          go_roundw
          case rel => exact ⟨i + 1, k2, x2, done ++ [⟨a1, a2, false⟩], by omega, by go_num, HE5⟩
          case measure => simp only [intOf]; omega
      · obtain rfl : i = m := by omega
        have hii : ¬ (i : Int) < (i : Int) := by omega
        rw [Nat.sub_self, finU_end] at hst
        have HB := hide hQ.bel
        by_cases hk : k = s.size
        · obtain ⟨al, cl, hv, hA⟩ := hQ.row.read (by omega) (fun x hx => by have := hfit x hx; omega)
          have K3 := hide (rpack_any (cap := cl) hA)
          obtain ⟨LD, hLD⟩ : ∃ L, L = done.length := ⟨_, rfl⟩
          rw [← hLD] at hv K3
          subst hv
          have HST : Hid (unpackP s = if packX done = 0 then some done else none) := by
            unfold Hid; rw [hst]; simp [hk]
          have HRow := hide hQ.row
          have hss : (s.size : Int) ≤ 140737488355328 := by have := unhide HS; omega
          have hk2 : ((k : Int) == (s.size : Int)) = true := by simp [hk]
          obtain ⟨y, hy⟩ : ∃ y, y = packX done := ⟨_, rfl⟩
          obtain ⟨ps, hps⟩ : ∃ y, y = packS done := ⟨_, rfl⟩
          rw [← hy, ← hps] at K3
          rw [← hy] at HST
          clear hQ hI hn hat hlen hfit hst hA hLD HR hy hps
          subst hk
          go_wp2_with fail
          refine (unhide K3).mono ?_
          rintro e W5 ⟨rfl, b5⟩
          have HB5 := hide (bw_tr (unhide HB) b5)
          have HR5 := hide ((unhide HRow).bw b5)
          clear K3 b5 HRow HB c1 c2
          by_cases hy0 : y = 0
          · subst hy0
            have HF : Hid (unpackP s = some done) := by unfold Hid; rw [unhide HST, if_pos rfl]
            clear HST
            go_wp2_with fail
            go_ret2
            exact ⟨unhide HB5, Or.inr ⟨done, _, unhide HF, rfl, unhide HR5⟩⟩
          · have hy1 : (y == 0) = false := by simp [hy0]
            have HF : Hid (unpackP s = none) := by unfold Hid; rw [unhide HST, if_neg hy0]
            clear HST
            go_wp2_with fail
            go_ret2
            exact ⟨unhide HB5, Or.inl ⟨unhide HF, rfl⟩⟩
        · have HF : Hid (unpackP s = none) := by unfold Hid; rw [hst]; simp [hk]
          have hki : ¬ (k : Int) = (s.size : Int) := by omega
          have hk2 : ((k : Int) == (s.size : Int)) = false := by simp; omega
          have hss : (s.size : Int) ≤ 140737488355328 := by have := unhide HS; omega
          clear hQ hI hn hat hlen hfit hst HR hk
          go_wp2_with fail
          go_ret2
          exact ⟨unhide HB, Or.inl ⟨unhide HF, rfl⟩⟩
    · have HB := hide hQ.bel
      have HF := hide hst
      clear hQ hI hn hat hlen hfit hst HR
      by_cases hlt : i < m
      · have hii : (i : Int) < (m : Int) := by omega
        go_wp2_with fail
        go_ret2
        exact ⟨unhide HB, Or.inl ⟨unhide HF, rfl⟩⟩
      · have hii : ¬ (i : Int) < (m : Int) := by omega
        go_wp2_with fail
        go_ret2
        exact ⟨unhide HB, Or.inl ⟨unhide HF, rfl⟩⟩
end Go.Proofs.YtfnpeiikjiffeaaGreat
