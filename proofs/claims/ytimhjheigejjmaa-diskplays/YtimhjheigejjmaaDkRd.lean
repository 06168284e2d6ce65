/- Contracts of the document's disk: Sync, New. -/
import Derived.Test.YtimhjheigejjmaaDkRc
namespace Go.Proofs.Ytimhjheigejjmaa
open Go.RowKit Go.Maps

theorem cur_take_succ {f : Nat → ByteArray} {l : List (Nat × ByteArray)} {i : Nat} {p : Nat × ByteArray} (h : l[i]? = some p) : cur f (l.take (i + 1)) = upd (cur f (l.take i)) p.1 p.2 := by
  rw [take_one h]; exact cur_snoc _ _ _ _
set_option maxRecDepth 100000 in
set_option maxHeartbeats 4000000 in
theorem rsync_any {p : Nat} {S : DS} {Z : List Nat} {w : World} (h : RkS w p S Z) (hn : S.cnt < 4611686018427387904) (hq : S.since.length ≤ 1000000) :
    Calls Try.prog 28 #[.pointer (some ⟨p, 0, none⟩)] w fun e w' => e = .returned (.int .i64 S.sync.2) ∧ Stp w w' p S.sync.1 Z := by
  have HST := hide (Stp.same h)
  unfold DS.sync
  have H0 := hide h
  obtain ⟨dv, sv, bt, rfl, h1⟩ := h
  obtain ⟨_, _, c2, _, _, _, _⟩ := h1.cells
  clear h1
  cases hu : S.up
  · simp only [if_true]
    rw [hu] at c2
    simp only [Bool.not_false] at c2
    clear H0 hu hn hq
    go_enter Try.func28, Try.ntmps28
    go_wp2_with fail
    go_ret
    exact ⟨rfl, unhide HST⟩
  · simp only [Bool.true_eq_false, if_false]
    rw [hu] at c2
    simp only [Bool.not_true] at c2
    have KD := rdoes_any (unhide H0) hu hn (by omega)
    have HK := hide (doesN_keep S)
    have HQ := hide hq
    rw [come_settle_eq]
    clear H0 hu hn hq HST
    cases hd : S.doesN.2
    · rw [hd] at KD
      simp only [Bool.false_eq_true, if_false]
      generalize S.doesN.1 = S1 at *
      clear HK hd
      go_enter Try.func28, Try.ntmps28
      go_wp2_with fail
      refine KD.mono ?_
      rintro e w1 ⟨rfl, h1⟩
      have HS := hide h1
      clear h1 KD
      go_wp2_with fail
      go_ret
      exact ⟨rfl, unhide HS⟩
    · rw [hd] at KD
      simp only [if_true]
      have HE : Hid (S.doesN.1.since.length ≤ 1000000) := by unfold Hid; rw [(unhide HK hd).2.2.1]; exact unhide HQ
      generalize S.doesN.1 = T at *
      clear HK hd
      go_enter Try.func28, Try.ntmps28
      go_wp2_with fail
      refine KD.mono ?_
      rintro e w1 ⟨rfl, Z1, hR, hm⟩
      clear KD
      have HMV := hide hm
      clear hm
      obtain ⟨dv1, sv1, bt1, rfl, h⟩ := hR
      have hN1 := h.ok.n1
      obtain ⟨g, dc, hdv, _, _, _⟩ := h.done.cell (i := 0) (s := T.base 0) (by rw [List.getElem?_map, List.getElem?_range (by omega)]; rfl)
      rw [List.length_map, List.length_range] at hdv
      have hob : dv1.ownBlock = some g := by rw [hdv]; rfl
      obtain ⟨sa, sc, hsv⟩ := own_slice h.row
      have hgp : g ≠ p := fun c => h.apart.1 (by rw [hob, c])
      have HP : Hid (∀ wr, Fr [g] w1 wr → wr.heap[p]? = w1.heap[p]?) := fun wr hf => hf.block p (lt_of_blk h.blk) (by simp; exact fun c => hgp c.symm)
      have HV : Hid (∀ wr, Fr [g] w1 wr → WRow wr sv1 T.since) := fun wr hf => own_keep h.row (fun k hk => hf.block k (World.ownsRow.lt h.row k hk).2 (by simp; rintro rfl; exact h.apart.2.2 k hob hk))
      obtain ⟨n, hn⟩ : ∃ n, n = T.since.length := ⟨_, rfl⟩
      have hnb : n ≤ 1000000 := by rw [hn]; exact unhide HE
      rw [← hn] at hsv
      have HM := hide hn
      have H := hide h
      have HL0 : Hid (SRow w1 dv1 ((List.range T.N).map (cur T.base (T.since.take 0))) ∧ Fr [g] w1 w1) := ⟨h.done, Fr.refl _ _⟩
      have HG := hide (And.intro hgp hob)
      clear h hN1 hgp hob hn
      have blk0 := (unhide H).blk
      rw [hdv, hsv] at blk0
      have HB0 := hide blk0
      clear blk0
      obtain ⟨N, hNe⟩ : ∃ N, N = T.N := ⟨_, rfl⟩
      rw [← hNe] at HB0 HL0 hdv
      have HNe := hide (And.intro hNe (unhide H).ok.n2)
      clear hNe
      have HD := hide (And.intro hdv hsv)
      clear hdv hsv
      go_wp2_with fail
      go_loopw [3] (fun iv wr => ∃ i : Nat, i ≤ n ∧ iv = .int .i64 (i : Int) ∧ Hid (SRow wr dv1 ((List.range N).map (cur T.base (T.since.take i))) ∧ Fr [g] w1 wr)) (fun iv _ => (n - intOf iv).toNat)
      case atStart => exact ⟨0, by omega, rfl, HL0⟩
      case round =>
        clear HL0
        obtain ⟨i, hi, rfl, HR⟩ := hrel
        have hb := unhide HP wr (unhide HR).2
        rw [unhide HB0] at hb
        have c0 : wr.cell? ⟨p, 0, none⟩ = some (.slice (some ⟨g, 0, none⟩) N dc) := by simp [World.cell?, hb]
        have c1 : wr.cell? ⟨p, 1, none⟩ = some (.slice sa n sc) := by simp [World.cell?, hb]
        by_cases hlt : i < n
        · obtain ⟨q, hq3⟩ : ∃ q, T.since[i]? = some q := ⟨_, List.getElem?_eq_getElem (by have := unhide HM; omega)⟩
          obtain ⟨gs, sc', hs, hsb, z1, z2, _⟩ := (unhide HV wr (unhide HR).2).cell hq3
          rw [(unhide HD).2, ← unhide HM] at hs
          simp only [Value.slice.injEq, true_and] at hs
          obtain ⟨rfl, rfl⟩ := hs
          obtain ⟨hqk, hqs⟩ := (unhide H).ok.ats q (List.mem_of_getElem? hq3)
          obtain ⟨k, s⟩ := q
          simp only at z1 z2 hqk hqs
          have hi1 : (i : Int) < (n : Int) := by omega
          have hkN : k < N := by rw [(unhide HNe).1]; exact hqk
          obtain ⟨g', c', e1, e2, _, e3⟩ := (unhide HR).1.cell (i := k) (s := cur T.base (T.since.take i) k) (by rw [List.getElem?_map, List.getElem?_range hkN]; rfl)
          have eg : g' = g := by rw [(unhide HD).1] at e1; simp only [Value.slice.injEq, Option.some.injEq, Addr.mk.injEq] at e1; exact e1.1.1.symm
          subst eg
          have hgs : gs ≠ g' := fun c => (unhide H).apart.2.2 g' (unhide HG).2 (by rw [hsb, c])
          have HN : Hid (SRow (wr.drew.setCell ⟨g', k, none⟩ (.string s)) dv1 ((List.range N).map (cur T.base (T.since.take (i + 1)))) ∧ Fr [g'] w1 (wr.drew.setCell ⟨g', k, none⟩ (.string s))) := by
            have h4 := SRow.set (w := wr.drew) (own_keep (unhide HR).1 (fun _ _ => rfl)) (unhide HG).2 k s
            rw [range_set5 hkN, ← cur_take_succ hq3] at h4
            exact ⟨h4, (unhide HR).2.drew.tr (Fr.set1 (by simp) _ _)⟩
          have hbs : (wr.drew.setCell ⟨g', k, none⟩ (.string s)).heap[p]? = wr.heap[p]? := set_other (fun c => (unhide HG).1 c.symm)
          have hbq : (wr.drew.setCell ⟨g', k, none⟩ (.string s)).heap[gs]? = wr.heap[gs]? := set_other hgs
          have y0 : (wr.drew.setCell ⟨g', k, none⟩ (.string s)).cell? ⟨p, 0, none⟩ = some (.slice (some ⟨g', 0, none⟩) N dc) := by rw [World.cell?_of_block (w := wr) hbs]; exact c0
          have y1 : (wr.drew.setCell ⟨g', k, none⟩ (.string s)).cell? ⟨p, 1, none⟩ = some (.slice (some ⟨gs, 0, none⟩) n sc) := by rw [World.cell?_of_block (w := wr) hbs]; exact c1
          have y2 : (wr.drew.setCell ⟨g', k, none⟩ (.string s)).cell? ⟨gs, i * 2, none⟩ = some (.int .i64 (k : Int)) := by rw [World.cell?_of_block (w := wr) hbq]; exact z1
          have y3 : (wr.drew.setCell ⟨g', k, none⟩ (.string s)).cell? ⟨gs, i * 2 + 1, none⟩ = some (.string s) := by rw [World.cell?_of_block (w := wr) hbq]; exact z2
          have d0 : wr.drew.cell? ⟨p, 0, none⟩ = some (.slice (some ⟨g', 0, none⟩) N dc) := c0
          have d1 : wr.drew.cell? ⟨p, 1, none⟩ = some (.slice (some ⟨gs, 0, none⟩) n sc) := c1
          have d2 : wr.drew.cell? ⟨gs, i * 2, none⟩ = some (.int .i64 (k : Int)) := z1
          have d3 : wr.drew.cell? ⟨gs, i * 2 + 1, none⟩ = some (.string s) := z2
          have d4 : wr.drew.cell? ⟨g', k, none⟩ = some (.string (cur T.base (T.since.take i) k)) := e2
          have d5 : wr.drew.frozen? ⟨g', k, none⟩ = false := e3
          have hk0 : (k : Int) < (N : Int) := by omega
          have hNb := (unhide HNe).2
          rw [← (unhide HNe).1] at hNb
          clear hb hq3 hsb hqk hqs hkN HR hbs hbq e1 e2 e3
          generalize cur T.base (T.since.take i) k = old at *
          go_wp2_with fail
          go_region_held3 (fun w' : World => w'.cell? ⟨p, 0, none⟩ = some (.slice (some ⟨g', 0, none⟩) N dc) ∧ w'.cell? ⟨p, 1, none⟩ = some (.slice (some ⟨gs, 0, none⟩) n sc) ∧ w'.cell? ⟨gs, i * 2, none⟩ = some (.int .i64 (k : Int)) ∧ w'.cell? ⟨gs, i * 2 + 1, none⟩ = some (.string s)) (first | exact ⟨d0, d1, d2, d3⟩ | exact ⟨y0, y1, y2, y3⟩) (fail)
          all_goals
            clear d0 d1 d2 d3 d4 d5 y0 y1 y2 y3 c0 c1 z1 z2
            go_wp2_with fail
            go_roundw
            case rel => exact ⟨i + 1, by omega, by go_num, HN⟩
            case measure => simp only [intOf]; omega
        · obtain rfl : n = i := by omega
          have e1 : (T.since.take n) = T.since := List.take_of_length_le (by have := unhide HM; omega)
          have HE := HR
          rw [e1] at HE
          have f1 : wr.frozen? ⟨p, 1, none⟩ = false := by simp [World.frozen?, hb]
          have HS : Hid (Stp w (wr.setCell ⟨p, 1, none⟩ (.slice none 0 0)) p T.settle (rfoot p dv sv)) := by
            have hb3 := set_blk (j := 1) (v := .slice none 0 0) hb
            have hgm : g ∈ rfoot p dv1 sv1 := mem_rfoot.2 (Or.inr (Or.inl (unhide HG).2))
            have hpm : p ∈ rfoot p dv1 sv1 := mem_rfoot.2 (Or.inl rfl)
            refine ⟨rfoot p dv1 (.slice none 0 0), ⟨dv1, .slice none 0 0, bt1, rfl, ⟨?_, ?_, ?_, (unhide H).cut, (unhide H).ok.settle, (unhide H).dn⟩⟩, (unhide HMV).trans ⟨?_, ?_⟩⟩
            · rw [hb3, (unhide HD).1]; rfl
            · have := (unhide HE).1
              refine own_keep (w := wr) ?_ (fun k hk => set_other (fun c => (unhide HG).1 (by have := (unhide HG).2; rw [hk] at this; cases this; exact c)))
              show SRow wr dv1 _
              rw [(unhide HNe).1] at this
              exact this
            · exact World.ownsRow_nil _ _ _ _
            · exact ((unhide HE).2.mono (fun x _ hx => by simp at hx; subst hx; exact hgm)).tr (Fr.set1 hpm _ _)
            · intro x hx
              rcases mem_rfoot.1 hx with rfl | hx | hx
              · exact Or.inl hpm
              · exact Or.inl (mem_rfoot.2 (Or.inr (Or.inl hx)))
              · simp [Value.ownBlock] at hx
          have hcase : ¬ ((n : Int) < (n : Int)) := by omega
          clear hb HR HE e1
          go_wp2_with fail
          go_ret
          exact ⟨rfl, unhide HS⟩

theorem rnew_low (n : Int) (w : World) (h : n < 1) : Calls Try.prog 11 #[.int .i64 n] w fun e w' => e = .returned (.tuple #[.pointer none, .int .i64 1]) ∧ w' = w := by
  go_enter Try.func11, Try.ntmps11
  go_wp2_with fail
  go_ret2
  exact ⟨rfl, rfl⟩
theorem rnew_high (n : Int) (w : World) (h : 4096 < n) : Calls Try.prog 11 #[.int .i64 n] w fun e w' => e = .returned (.tuple #[.pointer none, .int .i64 3]) ∧ w' = w := by
  have h1 : ¬ (n < 1) := by omega
  go_enter Try.func11, Try.ntmps11
  go_wp2_with fail
  go_ret2
  exact ⟨rfl, rfl⟩
structure RW (w wr : World) (p : Nat) (dv : Value) (i : Nat) : Prop where
  blk : wr.heap[p]? = some (.cells #[dv, .slice none 0 0, .bool false, .int .i64 (-1), .int .i64 0, .int .i64 0] 38 (0, 0))
  row : SRow wr dv ((List.range i).map (fun _ => nought))
  bel : Below w.heap.size w wr
  lowp : w.heap.size ≤ p
  lowd : ∀ k, dv.ownBlock = some k → w.heap.size ≤ k
theorem RW.nop {w wr : World} {p : Nat} {dv : Value} {i : Nat} (h : RW w wr p dv i) : dv.ownBlock ≠ some p := own_block_ne h.row h.blk (by decide)
theorem RW.bw {w wr W : World} {p : Nat} {dv : Value} {i : Nat} (h : RW w wr p dv i) (hb : Below wr.heap.size wr W) : RW w W p dv i :=
  ⟨(hb.block p (lt_of_blk h.blk)).trans h.blk, own_keep h.row (fun k hk => hb.block k (World.ownsRow.lt h.row k hk).2), bw_tr h.bel hb, h.lowp, h.lowd⟩
theorem RW.push {w W w3 : World} {p : Nat} {dv v' : Value} {i : Nat} {ob : Obj} (h : RW w W p dv i) (hown : w3.ownsRow 0 9 1 v' (i + 1) (((List.range i).map (fun _ => nought)).map Value.string ++ [.string nought])) (hg : (W.alloc ob).grownBy w3 dv.ownBlock) (hat : v'.ownBlock = dv.ownBlock ∨ v'.ownBlock = some (W.alloc ob).heap.size) :
    RW w (w3.setCell ⟨p, 0, none⟩ v') p v' (i + 1) ∧ w3.cell? ⟨p, 0, none⟩ = some dv ∧ w3.frozen? ⟨p, 0, none⟩ = false := by
  have hpl := lt_of_blk h.blk
  have hb3 : w3.heap[p]? = W.heap[p]? := by rw [hg.block p (by simp; omega) (fun c => h.nop c.symm), Below.heap_alloc _ _ _ hpl]
  have hvp : v'.ownBlock ≠ some p := by
    intro c
    rcases hat with q | q
    · rw [q] at c; exact h.nop c
    · rw [q] at c; simp at c; omega
  refine ⟨⟨?_, ?_, ?_, h.lowp, ?_⟩, by simp [World.cell?, hb3, h.blk], by simp [World.frozen?, hb3, h.blk]⟩
  · rw [set_blk (hb3.trans h.blk)]; rfl
  · refine own_keep (w := w3) ?_ (fun j hj => set_other (fun c => hvp (by rw [hj, c])))
    show SRow w3 v' _
    unfold SRow
    rw [List.range_succ, List.map_append]
    simpa using hown
  · have f1 : Fr dv.ownBlock.toList W w3 := ((Fr.refl _ W).alloc _).tr (Fr.ofGrown hg)
    have f2 : Fr (p :: dv.ownBlock.toList) W (w3.setCell ⟨p, 0, none⟩ v') := (f1.mono (fun x _ hx => List.mem_cons_of_mem _ hx)).tr (Fr.set1 (by simp) _ _)
    refine Fr.toBase h.bel f2 (fun x hx => ?_)
    rcases List.mem_cons.1 hx with rfl | hx
    · exact h.lowp
    · exact h.lowd x (by simpa using hx)
  · intro k hk
    rcases hat with q | q
    · rw [q] at hk; exact h.lowd k hk
    · rw [q] at hk; simp at hk; have := h.bel.size; omega
theorem rbuild (w : World) : (Instr.build 38 #[(3, .int .i64 (-1))]).run Try.prog w = .ok (.agg #[.slice none 0 0, .slice none 0 0, .bool false, .int .i64 (-1), .int .i64 0, .int .i64 0]) w := by kernel_rfl
set_option maxRecDepth 100000 in
set_option maxHeartbeats 4000000 in
theorem rnew_any (N : Nat) (w : World) (h1 : 1 ≤ N) (h2 : N ≤ 4096) : Calls Try.prog 11 #[.int .i64 (N : Int)] w fun e w' => ∃ p Z, e = .returned (.tuple #[.pointer (some ⟨p, 0, none⟩), .int .i64 0]) ∧ RkS w' p (DS.new N) Z ∧ Below w.heap.size w w' ∧ ∀ x ∈ Z, w.heap.size ≤ x := by
  obtain ⟨i0, hi0, hz0, hz1, hz2⟩ := info_str
  have HN := hide (And.intro h1 h2)
  have g1 : ¬ ((N : Int) < 1) := by omega
  have g2 : ¬ (4096 < (N : Int)) := by omega
  have HR0 : Hid (∃ dv, RW w (w.alloc (.cells #[.slice none 0 0, .slice none 0 0, .bool false, .int .i64 (-1), .int .i64 0, .int .i64 0] 38)) w.heap.size dv 0) :=
    ⟨.slice none 0 0, heap_alloc_new _ _, World.ownsRow_nil _ _ _ _, bw_alloc _ _, Nat.le_refl _, fun k hk => by simp [Value.ownBlock] at hk⟩
  clear h1 h2
  go_enter Try.func11, Try.ntmps11
  go_wp2_with fail
  go_loopw [5] (fun iv wr => ∃ i : Nat, i ≤ N ∧ iv = .int .i64 (i : Int) ∧ Hid (∃ dv, RW w wr w.heap.size dv i)) (fun iv _ => (N - intOf iv).toNat)
  case atStart => exact ⟨0, by omega, rfl, HR0⟩
  case round =>
    clear HR0
    obtain ⟨i, hi, rfl, HR⟩ := hrel
    have hNb := (unhide HN).2
    by_cases hlt : i < N
    · obtain ⟨dv, r0⟩ := unhide HR
      obtain ⟨da, dc, hdv⟩ := own_slice r0.row
      rw [List.length_map, List.length_range] at hdv
      have HC : Hid (∀ W, Below wr.heap.size wr W → RW w W w.heap.size dv i ∧ W.cell? ⟨w.heap.size, 0, none⟩ = some dv) := fun W hW => by
        have := r0.bw hW
        exact ⟨this, by simp [World.cell?, this.blk]⟩
      subst hdv
      have c0 := (unhide HC wr (Below.refl _ _)).2
      have c1 := (unhide HC wr.drew (bw_drew _)).2
      have hi1 : (i : Int) < (N : Int) := by omega
      clear r0 HR
      go_wp2_with fail
      go_region_law (first
        | (refine step_append_own rfl (.tmp 21) (.tmp 23) 35 rfl 0 9 i0 (.string ByteArray.empty) 1 16 Try.underlying35 hi0 hz0 hz1 hz2 rfl (by decide) (.slice da i dc) i (((List.range i).map (fun _ => nought)).map Value.string) (by simp [Act.eval]) (own_alloc (by have := (unhide HC _ b3).1.row; unfold SRow at this; rw [List.length_map, List.length_range] at this; exact this) _) ⟨z2.heap.size, 0, none⟩ 1 1 [.string nought] (by simp [Act.eval]) rfl (cell_one_new5 _ _ _) (by simp [Value.oneCell']) (by unfold maxLen; omega) (by omega) (Nat.zero_le _) ?_; intro v' w3 hown' hgrow hat; obtain ⟨r1, r2, r3⟩ := (unhide HC _ b3).1.push hown' hgrow hat; obtain ⟨va, vc, rfl⟩ := own_slice hown')
        | (go_simp; go_wp2_with (first | (go_at_call 23; refine (noughts_any _).mono ?_; rintro e z2 ⟨rfl, b2⟩; have b3 := bw_tr (bw_drew wr) b2; have y1 := (unhide HC _ b3).2; have y2 := (unhide HC _ (bw_tr b3 (bw_alloc z2 (.cells #[.string nought] 9)))).2))))
      all_goals
        have HE := hide r1
        clear HC c0 c1 y1 y2 r1 b2 b3
        go_wp2_with fail
        go_roundw
        case rel => exact ⟨i + 1, by omega, by go_num, _, unhide HE⟩
        case measure => simp only [intOf]; omega
    · obtain rfl : N = i := by omega
      have HE : Hid (∃ p Z, (Ending.returned (.tuple #[.pointer (some ⟨w.heap.size, 0, none⟩), .int .i64 0])) = .returned (.tuple #[.pointer (some ⟨p, 0, none⟩), .int .i64 0]) ∧ RkS wr p (DS.new N) Z ∧ Below w.heap.size w wr ∧ ∀ x ∈ Z, w.heap.size ≤ x) := by
        obtain ⟨dv, r0⟩ := unhide HR
        refine ⟨w.heap.size, _, rfl, ⟨dv, .slice none 0 0, 0, rfl, ⟨r0.blk, r0.row, World.ownsRow_nil _ _ _ _, (fun n b c => by cases c), DS.new_ok (unhide HN).1 (unhide HN).2, (fun c => by cases c)⟩⟩, r0.bel, ?_⟩
        intro x hx
        rcases mem_rfoot.1 hx with rfl | hx | hx
        · exact Nat.le_refl _
        · exact r0.lowd x hx
        · simp [Value.ownBlock] at hx
      clear HR hlt hi hNb
      go_wp2_with fail
      go_ret2
      exact unhide HE

end Go.Proofs.Ytimhjheigejjmaa
