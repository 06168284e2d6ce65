/- The contracts of take and Unpack. -/
import Derived.Test.YtfnpeiikjiffeaaGreatStB
import Derived.Laws.OwnMore
namespace Go.Proofs.YtfnpeiikjiffeaaGreat
open Go.RowKit Go.Maps

/-- A Reader of one's own. -/
def RI (w wr : World) (b : Nat) (s : ByteArray) (k : Nat) : Prop := Below w.heap.size w wr ∧ Wi.RD wr b s k ∧ w.heap.size ≤ b
theorem RI.bw {w W W' : World} {b k : Nat} {s : ByteArray} (h : RI w W b s k) (hb : Below W.heap.size W W') : RI w W' b s k := ⟨bw_tr h.1 hb, h.2.1.new (wfr hb), h.2.2⟩
theorem RI.lt {w W : World} {b k : Nat} {s : ByteArray} (h : RI w W b s k) : b < W.heap.size := lt_of_blk h.2.1
theorem RI.fr {w W W' : World} {b k j : Nat} {s : ByteArray} (h : RI w W b s k) (hf : Wi.Fr [b] W W') (hr : Wi.RD W' b s j) : RI w W' b s j := by
  obtain ⟨h1, h2, h3⟩ := h
  refine ⟨⟨hf.os.trans h1.os, hf.tape.trans h1.tape, hf.output.trans h1.output, Nat.le_trans h1.size hf.size, fun x hx => ?_⟩, hr, h3⟩
  rw [hf.block x (Nat.lt_of_lt_of_le hx h1.size) (by simp; omega), h1.block x hx]
/-- A Reader's step that leaves another block's cells to be written. -/
theorem RI.own {w W : World} {b k g : Nat} {s : ByteArray} (h : RI w W b s k) (hg : w.heap.size ≤ g) (hne : b ≠ g) (a : Nat) (u : Value) : RI w (W.setCell ⟨g, a, none⟩ u) b s k := by
  obtain ⟨h1, h2, h3⟩ := h
  refine ⟨h1.setCell (p := ⟨g, a, none⟩) hg u, ?_, h3⟩
  unfold Wi.RD at *
  rw [Below.heap_setCell _ _ _ _ hne]; exact h2
theorem ri_new (s : ByteArray) (w : World) : Calls Tryz.prog 34 #[.string s] w fun e w' => e = .returned (.pointer (some ⟨w.heap.size, 0, none⟩)) ∧ RI w w' w.heap.size s 0 := by
  refine (Wi.newReader_any s w).mono ?_
  rintro e w' ⟨rfl, rfl⟩
  exact ⟨rfl, bw_alloc _ _, heap_alloc_new _ _, Nat.le_refl _⟩
theorem ri_text {w W : World} {b k : Nat} {s : ByteArray} (h : RI w W b s k) (hs : s.size ≤ 140737488355328) :
    Calls Tryz.prog 57 #[.pointer (some ⟨b, 0, none⟩)] W fun e W' => (∀ x, x < W.heap.size → x ≠ b → W'.heap[x]? = W.heap[x]?) ∧ W.heap.size ≤ W'.heap.size ∧ ∃ (a : ByteArray) (x : Int), e = .returned (.tuple #[.string a, .int .i64 x]) ∧
      ((x = 0 ∧ ∃ j, Wi.ttext s.data.toList k = some (a.data.toList, j) ∧ RI w W' b s j) ∨ (x = 4 ∧ Wi.ttext s.data.toList k = none ∧ RI w W' b s k)) := by
  refine (Wi.rText_any b k s W h.2.1 hs).mono ?_
  rintro e W' ⟨hf, hm⟩
  refine ⟨fun x hx hn => hf.block x hx (by simpa using hn), hf.size, ?_⟩
  cases ht : Wi.ttext s.data.toList k with
  | none =>
    rw [ht] at hm
    obtain ⟨rfl, hr⟩ := hm
    exact ⟨⟨#[]⟩, 4, rfl, Or.inr ⟨rfl, rfl, h.fr hf hr⟩⟩
  | some p =>
    obtain ⟨a, j⟩ := p
    rw [ht] at hm
    obtain ⟨rfl, hr⟩ := hm
    exact ⟨Wi.str a, 0, rfl, Or.inl ⟨rfl, j, by rw [data_str], h.fr hf hr⟩⟩
theorem ri_list {w W : World} {b k : Nat} {s : ByteArray} (h : RI w W b s k) (hs : s.size ≤ 140737488355328) :
    Calls Tryz.prog 56 #[.pointer (some ⟨b, 0, none⟩)] W fun e W' => ∃ (n x : Int), e = .returned (.tuple #[.int .i64 n, .int .i64 x]) ∧
      ((x = 0 ∧ ∃ j, Wi.tcnt s.data.toList k = some (n, j) ∧ RI w W' b s j) ∨ (x = 4 ∧ Wi.tcnt s.data.toList k = none ∧ RI w W' b s k)) := by
  refine (Wi.rList_any b k s W h.2.1 hs).mono ?_
  rintro e W' ⟨hf, hm⟩
  cases ht : Wi.tcnt s.data.toList k with
  | none =>
    rw [ht] at hm
    obtain ⟨rfl, hr⟩ := hm
    exact ⟨0, 4, rfl, Or.inr ⟨rfl, rfl, h.fr hf hr⟩⟩
  | some p =>
    obtain ⟨a, j⟩ := p
    rw [ht] at hm
    obtain ⟨rfl, hr⟩ := hm
    exact ⟨a, 0, rfl, Or.inl ⟨rfl, j, rfl, h.fr hf hr⟩⟩
def zpp : PP := ⟨⟨#[]⟩, ⟨#[]⟩, false⟩
theorem made3 (n : Nat) : (madeCells #[.string ⟨#[]⟩, .string ⟨#[]⟩, .bool false] (n * 3)).toList = (List.replicate n zpp).flatMap prC := by
  apply List.ext_getElem?
  intro k
  by_cases hk : k < n * 3
  · obtain ⟨i, j, hj, rfl⟩ : ∃ i j, j < 3 ∧ k = i * 3 + j := ⟨k / 3, k % 3, by omega, by omega⟩
    have hi : (List.replicate n zpp)[i]? = some zpp := by rw [List.getElem?_replicate, if_pos (by omega)]
    have hm : (i * 3 + j) % 3 = j := by omega
    obtain ⟨v, hv⟩ : ∃ v, (prC zpp)[j]? = some v := ⟨_, List.getElem?_eq_getElem hj⟩
    rw [flat3 hi hv]
    rw [Array.getElem?_toList]
    unfold madeCells
    rw [Array.getElem?_map, Array.getElem?_range]
    simp only [hk, if_true, Option.map_some, Option.some.injEq]
    show (#[Value.string ⟨#[]⟩, .string ⟨#[]⟩, .bool false] : Array Value)[(i * 3 + j) % 3]! = v
    rw [hm]
    match j, hj, hv with
    | 0, _, hv => simpa [prC, zpp] using hv
    | 1, _, hv => simpa [prC, zpp] using hv
    | 2, _, hv => simpa [prC, zpp] using hv
  · rw [List.getElem?_eq_none (by rw [Array.length_toList, size_madeCells]; omega), List.getElem?_eq_none (by rw [flat3_len, List.length_replicate]; omega)]
theorem Tryz.infoPairF : (Tryz.prog.info? 48).map (fun i => (i.zero, i.size, i.bytes)) = some (some (pairV zpp), 3, 40) := by kernel_rfl
theorem info_pair : ∃ i, Tryz.prog.info? 48 = some i ∧ i.zero = some (pairV zpp) ∧ i.size = 3 ∧ i.bytes = 40 := by
  have h := Tryz.infoPairF
  cases e : Tryz.prog.info? 48 with
  | none => rw [e] at h; cases h
  | some i => rw [e] at h; simp at h; exact ⟨i, rfl, h.1, h.2.1, h.2.2⟩
theorem make_pairs (w : World) (n : Nat) (hn : n ≤ 256) : ∃ w', (Instr.makeSlice 22 (.int .i64 (n : Int)) (.int .i64 (n : Int))).run Tryz.prog w = .ok (.slice (some ⟨w.heap.size, 0, none⟩) n n) w' ∧ PRow w' (.slice (some ⟨w.heap.size, 0, none⟩) n n) (List.replicate n zpp) ∧ Below w.heap.size w w' := by
  obtain ⟨i0, hi, hz0, hz1, hz2⟩ := info_pair
  obtain ⟨wm, hmk, hrow, hgr⟩ := run_makeSlice_full (P := Tryz.prog) (w := w) 0 22 48 i0 (pairV zpp) 3 Tryz.underlying22 hi hz0 hz1 .i64 .i64 n (by omega) (by rw [hz2]; omega) (by unfold maxLen; omega) (Nat.zero_le _)
  refine ⟨wm, hmk, ?_, ⟨hgr.os, hgr.tape, hgr.output, hgr.size, fun k hk => hgr.block k hk (by simp)⟩⟩
  have e : (pairV zpp).cells = #[.string ⟨#[]⟩, .string ⟨#[]⟩, .bool false] := rfl
  rw [e, made3] at hrow
  unfold PRow
  rw [List.length_replicate]
  exact hrow
/-- A pair's name, or its text, written into a row. -/
theorem PRow.setN {w : World} {v : Value} {l : List PP} (h : PRow w v l) {g : Nat} (hg : v.ownBlock = some g) {i : Nat} {p : PP} (hp : l[i]? = some p) (s : ByteArray) : PRow (w.setCell ⟨g, i * 3, none⟩ (.string s)) v (l.set i ⟨s, p.t, p.g⟩) := by
  have h1 := own_set h hg (j := i * 3) (.string s)
  unfold PRow
  rw [List.length_set]
  have e : (l.flatMap prC).set (i * 3) (.string s) = (l.set i ⟨s, p.t, p.g⟩).flatMap prC := by
    clear h h1
    induction l generalizing i with
    | nil => simp at hp
    | cons q l ih =>
      cases i with
      | zero => simp at hp; subst hp; rfl
      | succ i =>
        simp only [List.flatMap_cons, List.set_cons_succ]
        rw [← ih (by simpa using hp), List.set_append_right _ _ (by show 3 ≤ _; omega)]
        rw [show (i + 1) * 3 - (prC q).length = i * 3 from by show (i + 1) * 3 - 3 = _; omega]
  rw [← e]; exact h1
theorem PRow.setT {w : World} {v : Value} {l : List PP} (h : PRow w v l) {g : Nat} (hg : v.ownBlock = some g) {i : Nat} {p : PP} (hp : l[i]? = some p) (s : ByteArray) : PRow (w.setCell ⟨g, i * 3 + 1, none⟩ (.string s)) v (l.set i ⟨p.n, s, p.g⟩) := by
  have h1 := own_set h hg (j := i * 3 + 1) (.string s)
  unfold PRow
  rw [List.length_set]
  have e : (l.flatMap prC).set (i * 3 + 1) (.string s) = (l.set i ⟨p.n, s, p.g⟩).flatMap prC := by
    clear h h1
    induction l generalizing i with
    | nil => simp at hp
    | cons q l ih =>
      cases i with
      | zero => simp at hp; subst hp; rfl
      | succ i =>
        simp only [List.flatMap_cons, List.set_cons_succ]
        rw [← ih (by simpa using hp), List.set_append_right _ _ (by show 3 ≤ _; omega)]
        rw [show (i + 1) * 3 + 1 - (prC q).length = i * 3 + 1 from by show (i + 1) * 3 + 1 - 3 = _; omega]
  rw [← e]; exact h1
theorem set_mid {done : List PP} {n : Nat} (p : PP) : (done ++ List.replicate (n + 1) zpp).set done.length p = (done ++ [p]) ++ List.replicate n zpp := by
  rw [List.set_append_right _ _ (Nat.le_refl _), Nat.sub_self, List.replicate_succ, List.set_cons_zero]; simp
theorem get_mid {done : List PP} {n : Nat} : (done ++ List.replicate (n + 1) zpp)[done.length]? = some zpp := by
  rw [List.getElem?_append_right (Nat.le_refl _), Nat.sub_self, List.replicate_succ]; rfl
theorem PRow.fr {w w' : World} {v : Value} {l : List PP} (h : PRow w v l) {b : Nat} (hb : ∀ k, v.ownBlock = some k → k ≠ b) (hf : ∀ x, x < w.heap.size → x ≠ b → w'.heap[x]? = w.heap[x]?) : PRow w' v l := h.keep (fun k hk => hf k (World.ownsRow.lt h k hk).2 (hb k hk))
set_option maxRecDepth 100000 in
set_option maxHeartbeats 4000000 in
theorem take_any {w W : World} {b : Nat} {s : ByteArray} (h : RI w W b s 0) (hs : s.size ≤ 140737488355328) :
    Calls Tryz.prog 33 #[.pointer (some ⟨b, 0, none⟩)] W fun e W' => Below w.heap.size w W' ∧ ((unpackT s = none ∧ e = .returned (.tuple #[.slice none 0 0, .int .i64 4])) ∨ (∃ l v, unpackT s = some l ∧ e = .returned (.tuple #[v, .int .i64 0]) ∧ PRow W' v l ∧ ∀ k, v.ownBlock = some k → w.heap.size ≤ k)) := by
  have K0 := hide (ri_list h hs)
  have HS := hide hs
  clear h hs
  go_enter Tryz.func33, Tryz.ntmps33
  go_wp2_with fail
  refine (unhide K0).mono ?_
  rintro e W1 ⟨n, x, rfl, hc⟩
  clear K0
  rcases hc with ⟨rfl, j, hj, I1⟩ | ⟨rfl, hj, I1⟩
  · obtain ⟨q1, q2, q3, q4, q5⟩ := Wi.tcnt_place hj
    obtain ⟨m, rfl⟩ : ∃ m : Nat, n = (m : Int) := ⟨n.toNat, by omega⟩
    by_cases hm : 256 < m
    · have hmi : (256 : Int) < (m : Int) := by omega
      have HU : Hid (unpackT s = none) := by unfold Hid unpackT; rw [hj]; simp only; rw [if_pos hmi]
      have HB := hide I1.1
      clear hj I1 q1 q2 q3 q4 hm
      go_wp2_with fail
      go_ret2
      exact ⟨unhide HB, Or.inl ⟨unhide HU, rfl⟩⟩
    · have hmi : ¬ (256 : Int) < (m : Int) := by omega
      have HU : Hid (∀ o, takeP s.data.toList m j = o → unpackT s = o.map (·.1)) := fun o ho => by
        unfold unpackT; rw [hj]; simp only [Int.toNat_natCast]; rw [if_neg hmi, ho]
      obtain ⟨W2, hmk, hrow, hb2⟩ := make_pairs W1 m (by omega)
      have hg1 := I1.1.size
      have hbg := I1.lt
      have I2 := I1.bw hb2
      obtain ⟨g, hg⟩ : ∃ g, g = W1.heap.size := ⟨_, rfl⟩
      rw [← hg] at hmk hrow hg1 hbg
      have HMK := hide hmk
      have HR2 := hide (And.intro hrow I2)
      have HGB := hide (And.intro hg1 hbg)
      have hm2 : m ≤ 256 := by omega
      clear hj I1 q1 q2 q3 q4 q5 hm hmk hrow I2 hg hb2 hg1 hbg
      go_wp2_with fail
      rw [unhide HMK]
      simp only [Result.andThen]
      rw [Oper.upon_value]
      clear HMK
      go_wp2_with fail
      go_loopw [22] (fun iv wr => ∃ (i k : Nat) (done : List PP), i ≤ m ∧ iv = .int .i64 (i : Int) ∧ Hid (RI w wr b s k ∧ done.length = i ∧ PRow wr (.slice (some ⟨g, 0, none⟩) m m) (done ++ List.replicate (m - i) zpp) ∧ takeP s.data.toList m j = (takeP s.data.toList (m - i) k).map fun r => (done ++ r.1, r.2))) (fun iv _ => (m - intOf iv).toNat)
      case atStart => exact ⟨0, j, [], by omega, rfl, (unhide HR2).2, rfl, (unhide HR2).1, by simp⟩
      case round =>
        clear HR2
        obtain ⟨i, k, done, hi, rfl, HR⟩ := hrel
        by_cases hlt : i < m
        · have hii : (i : Int) < (m : Int) := by omega
          have K1 := hide (ri_text (unhide HR).1 (unhide HS))
          go_wp2_with fail
          refine (unhide K1).mono ?_
          rintro e V ⟨fV, sV, a1, x1, rfl, hc⟩
          obtain ⟨I, hd, hP, hT⟩ := unhide HR
          obtain ⟨r, hr⟩ : ∃ r, m - i = r + 1 := ⟨m - i - 1, by omega⟩
          rw [hr] at hP hT
          subst hd
          have hgb : b < g := (unhide HGB).2
          have PV : PRow V (.slice (some ⟨g, 0, none⟩) m m) (done ++ List.replicate (r + 1) zpp) := hP.fr (b := b) (fun k hk => by simp [Value.ownBlock] at hk; omega) fV
          have cV : V.cell? ⟨g, done.length * 3, none⟩ = some (.string ⟨#[]⟩) := own_cell PV (g := g) rfl (flat3 get_mid (j := 0) rfl)
          have zV : V.frozen? ⟨g, done.length * 3, none⟩ = false := own_frozen PV rfl _
          have P1 := PV.setN (g := g) rfl get_mid a1
          have HP1 := hide P1
          have HT := hide hT
          have Hgb := hide hgb
          clear K1 HR I hP hT PV P1 fV sV hgb
          rcases hc with ⟨rfl, j1, ht1, J1⟩ | ⟨rfl, ht1, J1⟩
          · have J2 := J1.own (g := g) (unhide HGB).1 (by have := unhide Hgb; omega) (done.length * 3) (.string a1)
            obtain ⟨V1, hV1⟩ : ∃ V1, V1 = V.setCell ⟨g, done.length * 3, none⟩ (.string a1) := ⟨_, rfl⟩
            rw [← hV1] at J2 HP1
            have K2 := hide (ri_text J2 (unhide HS))
            have HV1 := hide hV1
            have Ht1 := hide ht1
            clear J1 J2 hV1 ht1
            go_wp2_with fail
            rw [← unhide HV1]
            clear HV1 cV zV
            refine (unhide K2).mono ?_
            rintro e U ⟨fU, sU, a2, x2, rfl, hc⟩
            have PU : PRow U _ _ := (unhide HP1).fr (b := b) (fun k hk => by simp [Value.ownBlock] at hk; have := unhide Hgb; omega) fU
            rw [set_mid] at PU
            have gm : (done ++ [(⟨a1, zpp.t, zpp.g⟩ : PP)] ++ List.replicate r zpp)[done.length]? = some ⟨a1, zpp.t, zpp.g⟩ := by simp
            have cU : U.cell? ⟨g, done.length * 3 + 1, none⟩ = some (.string ⟨#[]⟩) := own_cell PU (g := g) rfl (flat3 gm (j := 1) rfl)
            have zU : U.frozen? ⟨g, done.length * 3 + 1, none⟩ = false := own_frozen PU rfl _
            have P2 := PU.setT (g := g) rfl gm a2
            have e2 : (done ++ [(⟨a1, zpp.t, zpp.g⟩ : PP)] ++ List.replicate r zpp).set done.length ⟨a1, a2, zpp.g⟩ = done ++ [⟨a1, a2, false⟩] ++ List.replicate r zpp := by simp [zpp]
            rw [e2] at P2
            have HP2 := hide P2
            clear K2 HP1 fU sU PU gm P2 e2
            rcases hc with ⟨rfl, j2, ht2, J3⟩ | ⟨rfl, ht2, J3⟩
            · have J4 := J3.own (g := g) (unhide HGB).1 (by have := unhide Hgb; omega) (done.length * 3 + 1) (.string a2)
              have HN : Hid (takeP s.data.toList m j = (takeP s.data.toList r j2).map fun r => (done ++ [⟨a1, a2, false⟩] ++ r.1, r.2)) := by
                unfold Hid
                rw [unhide HT]
                simp only [takeP, unhide Ht1, ht2, Option.map_map, str_data]
                congr 1
                funext q; simp
              have HJ4 := hide J4
              clear J3 J4 ht2
              go_wp2_with fail
              go_roundw
              case rel => exact ⟨done.length + 1, j2, done ++ [⟨a1, a2, false⟩], by omega, by go_num, unhide HJ4, by simp, by rw [show m - (done.length + 1) = r from by omega]; exact unhide HP2, by rw [show m - (done.length + 1) = r from by omega]; exact unhide HN⟩
              case measure => simp only [intOf]; omega
            · have HN : Hid (unpackT s = none) := by
                unfold Hid
                rw [unhide HU _ (unhide HT)]
                simp [takeP, unhide Ht1, ht2]
              have HB : Hid (Below w.heap.size w (U.setCell ⟨g, done.length * 3 + 1, none⟩ (.string a2))) := J3.1.setCell (p := ⟨g, done.length * 3 + 1, none⟩) (unhide HGB).1 _
              clear J3 ht2
              go_wp2_with fail
              go_ret2
              exact ⟨unhide HB, Or.inl ⟨unhide HN, rfl⟩⟩
          · have HN : Hid (unpackT s = none) := by
              unfold Hid
              rw [unhide HU _ (unhide HT)]
              simp [takeP, ht1]
            have HB : Hid (Below w.heap.size w (V.setCell ⟨g, done.length * 3, none⟩ (.string a1))) := J1.1.setCell (p := ⟨g, done.length * 3, none⟩) (unhide HGB).1 _
            clear J1 ht1
            go_wp2_with fail
            go_ret2
            exact ⟨unhide HB, Or.inl ⟨unhide HN, rfl⟩⟩
        · obtain rfl : i = m := by omega
          obtain ⟨I, hd, hP, hT⟩ := unhide HR
          rw [Nat.sub_self] at hP hT
          have HF : Hid (unpackT s = some done ∧ PRow wr (.slice (some ⟨g, 0, none⟩) i i) done ∧ Below w.heap.size w wr) := ⟨by rw [unhide HU _ hT]; simp [takeP], by simpa using hP, I.1⟩
          clear HR I hd hP hT
          go_wp2_with fail
          go_ret2
          exact ⟨(unhide HF).2.2, Or.inr ⟨done, _, (unhide HF).1, rfl, (unhide HF).2.1, fun k hk => by simp [Value.ownBlock] at hk; subst hk; exact (unhide HGB).1⟩⟩
  · have HU : Hid (unpackT s = none) := by unfold Hid unpackT; rw [hj]
    have HB := hide I1.1
    clear hj I1
    go_wp2_with fail
    go_ret2
    exact ⟨unhide HB, Or.inl ⟨unhide HU, rfl⟩⟩
theorem unpackT_some {s : ByteArray} {l : List PP} (h : unpackT s = some l) : l.length ≤ 256 ∧ ∀ p ∈ l, p.n.size ≤ 65536 ∧ p.t.size ≤ 65536 ∧ p.g = false := by
  unfold unpackT at h
  cases hc : Wi.tcnt s.data.toList 0 with
  | none => rw [hc] at h; cases h
  | some q =>
    obtain ⟨n, j⟩ := q
    rw [hc] at h; simp only at h
    obtain ⟨p1, p2, p3, p4, p5⟩ := Wi.tcnt_place hc
    split at h
    · cases h
    · rename_i hn
      cases ht : takeP s.data.toList n.toNat j with
      | none => rw [ht] at h; cases h
      | some r =>
        obtain ⟨l', k⟩ := r
        rw [ht] at h
        simp only [Option.map_some, Option.some.injEq] at h
        subst h
        obtain ⟨q1, q2, q3, q4, q5⟩ := takeP_back _ _ p3 ht
        exact ⟨by omega, q5⟩
theorem PRow.read {w : World} {v : Value} {l : List PP} (h : PRow w v l) (hl : l.length ≤ 140737488355328) (hf : ∀ x ∈ l, x.n.size ≤ 140737488355328 ∧ x.t.size ≤ 140737488355328) : ∃ a c, v = .slice a l.length c ∧ PrsAt w a l := by
  obtain ⟨a, c, rfl⟩ := h.form
  exact ⟨a, c, rfl, h.prs hl hf⟩
set_option maxRecDepth 100000 in
set_option maxHeartbeats 4000000 in
theorem unpack_any (s : ByteArray) (w : World) (hs : s.size ≤ 140737488355328) :
    Calls Tryz.prog 9 #[.string s] w fun e W' => Below w.heap.size w W' ∧ ((unpackP s = none ∧ e = .returned (.tuple #[.slice none 0 0, .int .i64 4])) ∨ (∃ l v, unpackP s = some l ∧ e = .returned (.tuple #[v, .int .i64 0]) ∧ PRow W' v l ∧ ∀ k, v.ownBlock = some k → w.heap.size ≤ k)) := by
  have K0 := hide (ri_new s w)
  have HS := hide hs
  clear hs
  go_enter Tryz.func9, Tryz.ntmps9
  go_wp2_with fail
  refine (unhide K0).mono ?_
  rintro e W1 ⟨rfl, I1⟩
  have K1 := hide (take_any I1 (unhide HS))
  clear K0 I1
  go_wp2_with fail
  refine (unhide K1).mono ?_
  clear K1
  rintro e W2 ⟨b2, ⟨hu, rfl⟩ | ⟨l, v, hu, rfl, hP, hn⟩⟩
  · have HU : Hid (unpackP s = none) := by unfold Hid unpackP; rw [hu]
    have HB := hide b2
    clear hu b2
    go_wp2_with fail
    go_ret2
    exact ⟨unhide HB, Or.inl ⟨unhide HU, rfl⟩⟩
  · obtain ⟨q1, q2⟩ := unpackT_some hu
    obtain ⟨a, c, rfl, hA⟩ := hP.read (by omega) (fun x hx => by have := q2 x hx; omega)
    have K2 := hide (pack_any (cap := c) hA)
    have HU := hide hu
    have HB := hide b2
    have HP := hide (And.intro hP hn)
    clear hu b2 hP hn hA q1 q2
    obtain ⟨L, hL⟩ : ∃ L, L = l.length := ⟨_, rfl⟩
    rw [← hL] at K2 HP ⊢
    clear hL
    go_wp2_with fail
    refine (unhide K2).mono ?_
    rintro e W3 ⟨rfl, b3⟩
    clear K2
    have HB3 := hide (bw_tr (unhide HB) b3)
    have HP3 := hide ((unhide HP).1.bw b3)
    clear b3
    by_cases c1 : packX l = 0
    · rw [c1]
      by_cases c2 : Wi.str (packB l) = s
      · have e1 : packS l = s := by unfold packS; rw [if_pos c1, c2]
        rw [e1]
        have HF : Hid (unpackP s = some l) := by unfold Hid unpackP; rw [unhide HU]; simp only; rw [if_pos ⟨c1, c2⟩]
        clear e1 c1 c2
        go_wp2_with fail
        go_ret2
        exact ⟨unhide HB3, Or.inr ⟨l, _, unhide HF, rfl, unhide HP3, (unhide HP).2⟩⟩
      · have e1 : packS l = Wi.str (packB l) := by unfold packS; rw [if_pos c1]
        rw [e1]
        have HF : Hid (unpackP s = none) := by unfold Hid unpackP; rw [unhide HU]; simp only; rw [if_neg (fun c => c2 c.2)]
        have e2 : ((Wi.str (packB l)).toList == s.toList) = false := by
          rw [ByteArray.toList_eq, ByteArray.toList_eq, beq_eq_false_iff_ne]
          exact fun c => c2 (ba_ext c)
        generalize Wi.str (packB l) = t at *
        clear e1 c1 c2
        go_wp2_with fail
        go_ret2
        exact ⟨unhide HB3, Or.inl ⟨unhide HF, rfl⟩⟩
    · have HF : Hid (unpackP s = none) := by unfold Hid unpackP; rw [unhide HU]; simp only; rw [if_neg (fun c => c1 c.1)]
      have c2 : (packX l == 0) = false := by simp [c1]
      have c3 : decide (packX l = 0) = false := decide_eq_false c1
      generalize packX l = x at *
      generalize packS l = t at *
      go_wp2_with fail
      go_ret2
      exact ⟨unhide HB3, Or.inl ⟨unhide HF, rfl⟩⟩
end Go.Proofs.YtfnpeiikjiffeaaGreat
