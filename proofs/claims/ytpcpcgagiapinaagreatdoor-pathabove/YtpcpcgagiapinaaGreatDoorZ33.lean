/- Texts joined: NTmAcX PcS NTmLs. -/
import Derived.Test.YtpcpcgagiapinaaGreatDoorZ23
/- The contract of Across, with what it leaves alone. -/
namespace Go.Proofs.YtpcpcgagiapinaaGreatDoor.Tn
open Go.RowKit Go.Maps
structure Ex (w0 wr : World) (rb : Nat) (rv rv' : Value) (mp : Nat) (lv : Value) : Prop where
  fr : Fr (rfoot rb rv) w0 wr
  place : ∀ k, rv'.ownBlock = some k → rv.ownBlock = some k ∨ w0.heap.size ≤ k
  mlow : w0.heap.size ≤ mp
  llow : ∀ k, lv.ownBlock = some k → w0.heap.size ≤ k
theorem Ex.new {w0 wr w' : World} {rb : Nat} {rv rv' : Value} {mp : Nat} {lv : Value} (h : Ex w0 wr rb rv rv' mp lv) (hb : Below wr.heap.size wr w') : Ex w0 w' rb rv rv' mp lv := ⟨h.fr.below hb, h.place, h.mlow, h.llow⟩
theorem Ex.stepR {w0 wr w' : World} {rb : Nat} {rv rv' rv2 : Value} {mp : Nat} {lv : Value} {R : List Tm} (h : Ex w0 wr rb rv rv' mp lv) (s : RStep wr w' rb rv' rv2 R) : Ex w0 w' rb rv rv2 mp lv := by
  refine ⟨h.fr.trans s.fr (fun _ _ c => c) (fun x hx c => ?_), fun x hx => ?_, h.mlow, h.llow⟩
  · rcases mem_rfoot.1 c with c | c
    · exact mem_rfoot.2 (Or.inl c)
    · rcases h.place x c with c | c
      · exact mem_rfoot.2 (Or.inr c)
      · omega
  · rcases s.place x hx with c | c
    · exact h.place x c
    · exact Or.inr (Nat.le_trans h.fr.size c)
theorem Ex.push {w0 w1 w2 : World} {rb : Nat} {rv rv' : Value} {mp : Nat} {lv v' : Value} {ob : Obj} (h : Ex w0 w1 rb rv rv' mp lv) (hg : (w1.alloc ob).grownBy w2 lv.ownBlock) (hat : v'.ownBlock = lv.ownBlock ∨ v'.ownBlock = some (w1.alloc ob).heap.size) : Ex w0 (w2.setCell ⟨mp, 0, none⟩ v') rb rv rv' mp v' := by
  have f1 : Fr (rfoot rb rv) w0 w2 := (h.fr.alloc ob).trans (Fr.ofGrown hg) (fun _ _ c => c) (fun x hx c => by have := h.llow x (by simpa using c); omega)
  refine ⟨f1.setCell (Or.inl h.mlow) _, h.place, h.mlow, fun k hk => ?_⟩
  rcases hat with c | c
  · exact h.llow k (by rw [← c]; exact hk)
  · rw [c] at hk; have := h.fr.size; simp at hk; omega
theorem Ex.start (wr : World) (rb : Nat) (rv : Value) : Ex wr ((wr.alloc (.cells #[.int .i64 0] 3)).alloc (.cells #[.slice (some ⟨wr.heap.size, 0, none⟩) 1 1] 98)) rb rv rv (wr.heap.size + 1) (.slice (some ⟨wr.heap.size, 0, none⟩) 1 1) :=
  ⟨((Fr.refl _ _).alloc _).alloc _, fun _ h => Or.inl h, by omega, fun k hk => by simp [Value.ownBlock] at hk; omega⟩
set_option maxRecDepth 100000 in
set_option maxHeartbeats 8000000 in
theorem acrossx_any (w wr : World) (b : Nat) (sv : Value) (mb rb : Nat) (rv : Value) (L R : List Tm) (h : Two w wr b sv mb rb rv L R) (hL : L.length ≤ 3000) (hR : R.length ≤ 3000) :
    Calls Tryz.prog 12 #[.pointer (some ⟨b, 0, none⟩), .pointer (some ⟨rb, 0, none⟩)] wr fun e w' => ∃ mp lv rv' R' ph, e = .returned (.tuple #[.pointer (some ⟨mp, 0, none⟩), .bool true]) ∧ Ac w w' b sv mb rb rv' L R' mp lv ph ∧ Acr L L.length R' ph ∧ (∃ x, R' = R ++ x) ∧ Fr (rfoot rb rv) wr w' := by
  have S0 := Ac.start h
  have X0 := Ex.start wr rb rv
  obtain ⟨wr0, hwr0⟩ : ∃ wr0, wr0 = wr := ⟨_, rfl⟩
  have hG := h.st.good
  have A0 := acr_start h.rs.good L
  obtain ⟨j0, hj, hy0, hy1, hy2⟩ := info_parts Tryz.infoInt
  obtain ⟨N, hN⟩ : ∃ N, N = L.length := ⟨_, rfl⟩
  have hNb : (N : Int) ≤ 3000 := by omega
  have KL : ∀ W rv' R' mp lv ph, Ac w W b sv mb rb rv' L R' mp lv ph → Calls Tryz.prog 44 #[.pointer (some ⟨b, 0, none⟩)] W fun e w' => e = .returned (.int .i64 (N : Int)) ∧ w' = W := fun W rv' R' mp lv ph hA => by
    rw [hN]; exact len_any b sv mb L W hA.two.st
  have HH := hide (And.intro hN (And.intro hG (And.intro hR (And.intro S0 (And.intro A0 X0)))))
  have HKL := hide KL
  have KL0 := KL _ _ _ _ _ _ S0
  have HW := hide hwr0
  clear hG hN h hL hR S0 A0 KL X0 hwr0
  go_enter Tryz.func12, Tryz.ntmps12
  go_wp2_with fail
  refine KL0.mono ?_
  rintro e w1 ⟨rfl, rfl⟩
  have HS : Hid (Ac w ((wr.alloc (.cells #[.int .i64 0] 3)).alloc (.cells #[.slice (some ⟨wr.heap.size, 0, none⟩) 1 1] 98)) b sv mb rb rv L R (wr.heap.size + 1) (.slice (some ⟨wr.heap.size, 0, none⟩) 1 1) [0] ∧ Acr L 0 R [0] ∧ R.length ≤ 3000 + 0 ∧ (∃ x, R = R ++ x) ∧ Ex wr ((wr.alloc (.cells #[.int .i64 0] 3)).alloc (.cells #[.slice (some ⟨wr.heap.size, 0, none⟩) 1 1] 98)) rb rv rv (wr.heap.size + 1) (.slice (some ⟨wr.heap.size, 0, none⟩) 1 1)) := ⟨(unhide HH).2.2.2.1, (unhide HH).2.2.2.2.1, (unhide HH).2.2.1, ⟨[], by simp⟩, (unhide HH).2.2.2.2.2⟩
  clear KL0
  obtain ⟨mp, hmp⟩ : ∃ mp, mp = wr.heap.size + 1 := ⟨_, rfl⟩
  rw [← hmp] at HS ⊢
  have HS' : Hid (Ac w ((wr.alloc (.cells #[.int .i64 0] 3)).alloc (.cells #[.slice (some ⟨wr.heap.size, 0, none⟩) 1 1] 98)) b sv mb rb rv L R mp (.slice (some ⟨wr.heap.size, 0, none⟩) 1 1) [0] ∧ Acr L 0 R [0] ∧ R.length ≤ 3000 + 0 ∧ (∃ x, R = R ++ x) ∧ Ex wr0 ((wr.alloc (.cells #[.int .i64 0] 3)).alloc (.cells #[.slice (some ⟨wr.heap.size, 0, none⟩) 1 1] 98)) rb rv rv mp (.slice (some ⟨wr.heap.size, 0, none⟩) 1 1)) := by rw [unhide HW]; exact HS
  clear hmp HS
  go_wp2_with fail
  go_loopw [7] (fun iv wq => ∃ (i : Nat) (rv' lv : Value) (R' : List Tm) (ph : List Nat), i ≤ N ∧ iv = .int .i64 ((i : Int) + 1) ∧ Hid (Ac w wq b sv mb rb rv' L R' mp lv ph ∧ Acr L i R' ph ∧ R'.length ≤ 3000 + i ∧ (∃ x, R' = R ++ x) ∧ Ex wr0 wq rb rv rv' mp lv)) (fun iv _ => (N + 1 - intOf iv).toNat)
  case atStart => exact ⟨0, rv, _, R, [0], by omega, rfl, HS'⟩
  case round =>
    clear HS'
    obtain ⟨i, rv', lv, R', ph, hi, rfl, HS⟩ := hrel
    have KLw := unhide HKL wr _ _ _ _ _ (unhide HS).1
    by_cases hlt : i < N
    · obtain ⟨hAc, hAr, hRl, hx, hEx⟩ := unhide HS
      have HEX := hide hEx
      clear hEx
      obtain ⟨hN, hG, _⟩ := unhide HH
      have hi1 : 1 ≤ i + 1 := by omega
      have hi2 : i + 1 ≤ L.length := by omega
      obtain ⟨p1, p2⟩ := hG.parts hi1 hi2
      obtain ⟨ta, tb⟩ := hG.tmAt_parts hi1 hi2
      have hth : thr L.length ((i : Int) + 1) = true := thr_iff.2 (by omega)
      have eg : getT L ((i : Int) + 1) = tmAt L (i + 1) := by
        have : ((i : Int) + 1).toNat = i + 1 := by omega
        simp [getT, hth, this]
      have KG := get_any b sv mb L ((i : Int) + 1) wr hAc.two.st
      rw [hth, eg, ta, tb] at KG
      have hst := hAr.step hG (by omega) (by omega)
      have htok : (tmAt L (i + 1)).ok := hAc.two.st.fit _ (by
        have : L[i]? = some (tmAt L (i + 1)) := by simp [tmAt, List.getD, List.getElem?_eq_getElem (show i < L.length by omega)]
        exact List.mem_of_getElem? this)
      have hmok := mapT_ok (ph := ph) htok hAr.bound
      have emap : mapT ph (tmAt L (i + 1)) = ⟨(tmAt L (i + 1)).kd, (tmAt L (i + 1)).n, (ph.getD (pA L (i + 1)) 0 : Nat), (ph.getD (pB L (i + 1)) 0 : Nat)⟩ := rfl
      rw [emap] at hst hmok
      have hlen := hAr.len
      obtain ⟨g, cp, rfl, hgw⟩ := hAc.form (by omega)
      have hA1 : pA L (i + 1) < ph.length := by omega
      have hB1 : pB L (i + 1) < ph.length := by omega
      have HP := hide (And.intro hst (And.intro hmok (And.intro hlen (And.intro hA1 (And.intro hB1 (And.intro hx hRl))))))
      have HA := hide hAc
      have hphb : (ph.length : Int) ≤ 3001 := by omega
      have hlt' : (i : Int) < (N : Int) := by omega
      have eA : (pA L (i + 1) : Int) < (i : Int) + 1 := by omega
      have eB : (pB L (i + 1) : Int) < (i : Int) + 1 := by omega
      have eA2 : (pA L (i + 1) : Int) < (ph.length : Int) := by omega
      have eB2 : (pB L (i + 1) : Int) < (ph.length : Int) := by omega
      clear hN hG hi1 hi2 p1 p2 ta tb hth eg hst htok hmok emap hlen hA1 hB1 hx hAc hAr hRl HS hgw
      generalize (tmAt L (i + 1)).kd = kd at *
      generalize (tmAt L (i + 1)).n = nn at *
      generalize pA L (i + 1) = A at *
      generalize pB L (i + 1) = B at *
      generalize hfa : ph.getD A 0 = fa at *
      generalize hfb : ph.getD B 0 = fb at *
      have HF := hide (And.intro hfa hfb)
      clear hfa hfb
      go_wp2_with fail
      refine KLw.mono ?_
      rintro e w1 ⟨rfl, rfl⟩
      go_wp2_with fail
      refine KG.mono ?_
      rintro e w2 ⟨rfl, hb2⟩
      have A2 := (unhide HA).new hb2
      have HEX2 := hide ((unhide HEX).new hb2)
      clear HEX
      have HA2 := hide A2
      have cm := A2.cells.1
      have hmw := lt_of_blk A2.blk
      have cA := A2.at (unhide HP).2.2.2.1
      have cB := A2.at (unhide HP).2.2.2.2.1
      rw [(unhide HF).1] at cA
      rw [(unhide HF).2] at cB
      have hgw := lt_of_cell cA
      clear A2 KG KLw hb2 HA
      have zA : ¬ ((A : Int) < 0) := by omega
      have zB : ¬ ((B : Int) < 0) := by omega
      have dA : decide ((i : Int) + 1 ≤ (A : Int)) = false := decide_eq_false (by omega)
      have dB : decide ((i : Int) + 1 ≤ (B : Int)) = false := decide_eq_false (by omega)
      go_upto_region 10 with fail
      go_cut [54] from 54 to 62 (fun s54 wx => s54 = .pointer (some ⟨mp, 0, none⟩) ∧ Hid (Ac w wx b sv mb rb rv' L R' mp (.slice (some ⟨g, 0, none⟩) ph.length cp) ph ∧ wx.heap[w2.heap.size]? = some (.cells #[.int .u8 kd, .int .i64 nn, .int .i64 (fa : Int), .int .i64 (B : Int)] 64 (0, 0)) ∧ w2.heap.size < wx.heap.size ∧ Below w2.heap.size w2 wx))
      case first =>
        go_region_with fail
        all_goals
          go_wp2_with fail
          go_meet
          case rel =>
            exact ⟨rfl, (unhide HA2).new ((bw_alloc w2 _).drew), heap_alloc_new w2 _, by simp, (bw_alloc w2 _).drew⟩
      case rest =>
        obtain ⟨rfl, HC⟩ := hcut
        obtain ⟨hAc, hbk, hsz, hbl⟩ := unhide HC
        have y0 : wc.cell? ⟨w2.heap.size, 0, none⟩ = some (.int .u8 kd) := by simp [World.cell?, hbk]
        have y1 : wc.cell? ⟨w2.heap.size, 1, none⟩ = some (.int .i64 nn) := by simp [World.cell?, hbk]
        have y2 : wc.cell? ⟨w2.heap.size, 2, none⟩ = some (.int .i64 (fa : Int)) := by simp [World.cell?, hbk]
        have y3 : wc.cell? ⟨w2.heap.size, 3, none⟩ = some (.int .i64 (B : Int)) := by simp [World.cell?, hbk]
        have yf : ∀ j, wc.frozen? ⟨w2.heap.size, j, none⟩ = false := fun j => by simp [World.frozen?, hbk]
        have cm2 := hAc.cells.1
        have cB2 : wc.cell? ⟨g, B, none⟩ = some (.int .i64 (fb : Int)) := by
          have := hAc.at (unhide HP).2.2.2.2.1
          rw [(unhide HF).2] at this; exact this
        have hsb : (wc.setCell ⟨w2.heap.size, 3, none⟩ (.int .i64 (fb : Int))).heap[w2.heap.size]? = some (.cells #[.int .u8 kd, .int .i64 nn, .int .i64 (fa : Int), .int .i64 (fb : Int)] 64 (0, 0)) := by
          simp [World.setCell, Array.getElem?_modify, hbk]
        have HSB := hide hsb
        clear hAc hbk hsb cm cA cB dA dB zA zB eA eB hmw hgw
        go_upto_region 11 with fail
        go_cut [63] from 63 to 71 (fun s63 wx => s63 = .pointer (some ⟨mp, 0, none⟩) ∧ Hid (Ac w wx b sv mb rb rv' L R' mp (.slice (some ⟨g, 0, none⟩) ph.length cp) ph ∧ Below w2.heap.size w2 wx) ∧ wx.cell? ⟨w2.heap.size, 0, none⟩ = some (.int .u8 kd) ∧ wx.cell? ⟨w2.heap.size, 1, none⟩ = some (.int .i64 nn) ∧ wx.cell? ⟨w2.heap.size, 2, none⟩ = some (.int .i64 (fa : Int)) ∧ wx.cell? ⟨w2.heap.size, 3, none⟩ = some (.int .i64 (fb : Int)))
        case first =>
          go_region_with fail
          all_goals
            go_wp2_with fail
            go_meet
            case rel =>
              have hb9 : Below w2.heap.size w2 (wc.setCell ⟨w2.heap.size, 3, none⟩ (.int .i64 (fb : Int))).drew := ((unhide HC).2.2.2.setCell (by simp) _).drew
              have hk : ∀ W : World, W.heap = (wc.setCell ⟨w2.heap.size, 3, none⟩ (.int .i64 (fb : Int))).heap → W.cell? ⟨w2.heap.size, 0, none⟩ = some (.int .u8 kd) ∧ W.cell? ⟨w2.heap.size, 1, none⟩ = some (.int .i64 nn) ∧ W.cell? ⟨w2.heap.size, 2, none⟩ = some (.int .i64 (fa : Int)) ∧ W.cell? ⟨w2.heap.size, 3, none⟩ = some (.int .i64 (fb : Int)) := fun W e => by
                simp [World.cell?, e, unhide HSB]
              exact ⟨rfl, ⟨(unhide HA2).new hb9, hb9⟩, hk _ rfl⟩
        case rest =>
          clear y0 y1 y2 y3 yf cm2 cB2 HSB HC hsz hbl HA2
          obtain ⟨rfl, HD, y0, y1, y2, y3⟩ := hcut
          have hD := (unhide HD).1
          have HE3 := hide ((unhide HEX2).new (unhide HD).2)
          have KM := rmake_any rb rv' R' ⟨kd, nn, fa, fb⟩ _ hD.two.rs (unhide HP).2.1
          rw [(unhide HP).1.1] at KM
          simp only at KM
          have hnb := mkN_bd hD.two.rs.good ⟨kd, nn, fa, fb⟩
          obtain ⟨hst, _, hlen, _, _, hx, hRl⟩ := unhide HP
          have hR2 : (mkL R' ⟨kd, nn, fa, fb⟩).length ≤ 3000 + (i + 1) := by have := mkL_len R' ⟨kd, nn, fa, fb⟩; omega
          have hx2 : ∃ x, mkL R' ⟨kd, nn, fa, fb⟩ = R ++ x := by
            obtain ⟨x, hx⟩ := hx
            obtain ⟨r, hr⟩ := mkL_prefix R' ⟨kd, nn, fa, fb⟩
            exact ⟨x ++ r, by rw [hr, hx, List.append_assoc]⟩
          have HP2 := hide (And.intro hst.2 (And.intro hR2 hx2))
          have hnb2 : 0 ≤ ((mkN R' ⟨kd, nn, fa, fb⟩ : Nat) : Int) := by omega
          clear hD hst hlen hx hRl hR2 hx2 HP
          generalize mkN R' ⟨kd, nn, fa, fb⟩ = kn at *
          generalize mkL R' ⟨kd, nn, fa, fb⟩ = R2 at *
          go_wp2_with fail
          refine KM.mono ?_
          rintro e w5 ⟨rfl, rv2, s5⟩
          have A5 := (unhide HD).1.stepR s5
          have HE5 := hide ((unhide HE3).stepR s5)
          have cm5 := A5.cells.1
          have hmw := lt_of_blk A5.blk
          have hrow : w5.ownsRow 0 3 1 (.slice (some ⟨g, 0, none⟩) ph.length cp) ph.length (ph.map (fun m => .int .i64 ((m : Nat) : Int))) := A5.row
          have HA5 := hide A5
          clear A5 s5 KM HD y0 y1 y2 y3
          go_wp2_with (at_builtin; refine wpList_append_own_at _ rfl (.tmp 84) (.tmp 86) 27 rfl 0 3 j0 (.int .i64 0) 1 8 Tryz.underlying27 hj hy0 hy1 hy2 rfl (by decide) _ ph.length _ rfl (World.ownsRow.alloc hrow _) ⟨w5.heap.size, 0, none⟩ 1 1 [_] rfl rfl (cell_one_new _ _ _) ?c2 ?c3 ?c4 ?c5 ?nx)
          case c2 => intro u hu; simp at hu; subst hu; rfl
          case c3 => unfold maxLen; omega
          case c4 => omega
          case c5 => exact Nat.zero_le _
          case nx =>
            intro v' w6 hown' hgrow _ hat
            obtain ⟨q1, q2, A6⟩ := (unhide HA5).push hown' hgrow (by simpa using hat)
            have E6 := (unhide HE5).push hgrow (by simpa using hat)
            obtain ⟨g', cap', rfl⟩ := own_form hown'
            have HR : Hid (Ac w (w6.setCell ⟨mp, 0, none⟩ (.slice (some ⟨g', 0, none⟩) (ph.length + 1) cap')) b sv mb rb rv2 L R2 mp (.slice (some ⟨g', 0, none⟩) (ph.length + 1) cap') (ph ++ [kn]) ∧ Acr L (i + 1) R2 (ph ++ [kn]) ∧ R2.length ≤ 3000 + (i + 1) ∧ (∃ x, R2 = R ++ x) ∧ Ex wr0 (w6.setCell ⟨mp, 0, none⟩ (.slice (some ⟨g', 0, none⟩) (ph.length + 1) cap')) rb rv rv2 mp (.slice (some ⟨g', 0, none⟩) (ph.length + 1) cap')) := ⟨A6, (unhide HP2).1, (unhide HP2).2.1, (unhide HP2).2.2, E6⟩
            clear A6 E6 hown' hgrow hat HA5 HP2 hrow
            go_wp2_with fail
            go_roundw
            case rel => exact ⟨i + 1, rv2, _, R2, ph ++ [kn], by omega, by go_num, HR⟩
            case measure => simp only [intOf]; omega
    · obtain rfl : i = N := by omega
      clear hlt hi
      go_wp2_with fail
      refine KLw.mono ?_
      rintro e w1 ⟨rfl, rfl⟩
      go_wp2_with fail
      go_ret2
      obtain ⟨hAc, hAr, hRl, hx, hEx⟩ := unhide HS
      rw [(unhide HH).1] at hAr
      exact ⟨mp, lv, rv', R', ph, rfl, hAc, hAr, hx, by have := hEx.fr; rw [unhide HW] at this; exact this⟩
end Go.Proofs.YtpcpcgagiapinaaGreatDoor.Tn

/- Map.Numbers of equal rows. -/
namespace Go.Proofs.YtpcpcgagiapinaaGreatDoor.Tn.Pa
open Go.RowKit Go.Maps
end Go.Proofs.YtpcpcgagiapinaaGreatDoor.Tn.Pa

/- What List and Data leave, as plain lists; the terms of one store among those of another that began alike; the contract of Same. -/
namespace Go.Proofs.YtpcpcgagiapinaaGreatDoor.Tn
open Go.RowKit Go.Maps
structure Gro (L L' : List Tm) (n : Int) (k : Nat) : Prop where
  good : Good L'
  pre : ∃ x, L' = L ++ x
  lo : 0 ≤ n
  hi : n ≤ (L'.length : Int)
  len : L'.length ≤ L.length + k
theorem mkN_le (L : List Tm) (t : Tm) : mkN L t ≤ (mkL L t).length := by
  have h := mkL_le L t
  unfold mkN
  split
  · split
    · have := num_le L t; omega
    · split
      · rename_i c1 c2 c3
        unfold mkL
        rw [if_pos ⟨c1, c2, c3⟩]; simp
      · omega
  · omega
theorem Gro.none {L : List Tm} (h : Good L) (k : Nat) : Gro L L 0 k := ⟨h, ⟨[], by simp⟩, by omega, by omega, by omega⟩
theorem Gro.mono {L L' : List Tm} {n : Int} {k k' : Nat} (h : Gro L L' n k) (hk : k ≤ k') : Gro L L' n k' := ⟨h.good, h.pre, h.lo, h.hi, by have := h.len; omega⟩
theorem Acr.ident {L R : List Tm} {ph : List Nat} (h : Acr L L.length R ph) (hG : Good L) (hp : ∃ x, R = L ++ x) : ∀ m, m ≤ L.length → ph.getD m 0 = m := by
  obtain ⟨x, hx⟩ := hp
  have hle : L.length ≤ R.length := by rw [hx]; simp
  intro m
  induction m using Nat.strongRecOn with
  | _ m ih =>
    intro hm
    by_cases m0 : m = 0
    · subst m0; exact h.zero
    · obtain ⟨p1, p2⟩ := hG.parts (m := m) (by omega) hm
      obtain ⟨s1, s2⟩ := hG.tmAt_parts (m := m) (by omega) hm
      have e := h.at_ m (by omega) hm
      have hr := h.rng m (by omega) hm
      have e2 : mapT ph (tmAt L m) = tmAt L m := by
        have a1 := ih (pA L m) p1 (by omega)
        have a2 := ih (pB L m) p2 (by omega)
        unfold mapT
        have b1 : (tmAt L m).a.toNat = pA L m := rfl
        have b2 : (tmAt L m).b.toNat = pB L m := rfl
        rw [b1, b2, a1, a2]
        cases hy : tmAt L m with
        | mk y1 y2 y3 y4 =>
          rw [hy] at s1 s2
          simp only at s1 s2
          rw [s1, s2]
      have e3 : tmAt R m = tmAt L m := by
        rw [hx]
        simp [tmAt, List.getD, List.getElem?_append_left (show m - 1 < L.length by omega)]
      rw [e2, ← e3] at e
      exact h.good.tmAt_inj hr.1 hr.2 (by omega) (by omega) e
set_option maxRecDepth 100000 in
set_option maxHeartbeats 2000000 in
theorem msame_any (mp g np cp k : Nat) (W : World) (hk : k < np) (hn : np ≤ 4000) (h0 : W.cell? ⟨mp, 0, none⟩ = some (.slice (some ⟨g, 0, none⟩) np cp)) (h1 : W.cell? ⟨g, k, none⟩ = some (.int .i64 (k : Int))) :
    Calls Tryz.prog 14 #[.pointer (some ⟨mp, 0, none⟩), .int .i64 (k : Int), .int .i64 (k : Int)] W fun e w' => e = .returned (.bool true) ∧ w' = W := by
  have a1 : (k : Int) < (np : Int) := by omega
  have a2 : (np : Int) ≤ 4000 := by omega
  have a3 : ¬ ((k : Int) < 0) := by omega
  clear hk hn
  go_enter Tryz.func14, Tryz.ntmps14
  go_wp2
  go_ret
  exact ⟨ret_bool (by simp), rfl⟩
end Go.Proofs.YtpcpcgagiapinaaGreatDoor.Tn
