/- The contract of changed. -/
import Derived.Test.YtfnpeiikjiffeaaGreatBaL
import Derived.Test.YtfnpeiikjiffeaaGreatStB
namespace Go.Proofs.YtfnpeiikjiffeaaGreat
open Go.RowKit Go.Maps

/-- A Store in memory. -/
def sc (jb mb : Nat) (dn : Bool) : Obj := .cells #[.pointer (some ⟨jb, 0, none⟩), .map (some mb), .bool dn] 84 (0, 0)
theorem sc_cells {W : World} {sb jb mb : Nat} {dn : Bool} (h : W.heap[sb]? = some (sc jb mb dn)) : W.cell? ⟨sb, 0, none⟩ = some (.pointer (some ⟨jb, 0, none⟩)) ∧ W.cell? ⟨sb, 1, none⟩ = some (.map (some mb)) ∧ W.cell? ⟨sb, 2, none⟩ = some (.bool dn) ∧ ∀ k, W.frozen? ⟨sb, k, none⟩ = false := by
  refine ⟨?_, ?_, ?_, fun k => ?_⟩ <;> simp [World.cell?, World.frozen?, h, sc]
/-- The loop of changed. -/
structure CI (W wr : World) (nb ab : Nat) (m : MM) (l : List PP) (i : Nat) : Prop where
  bel : Below W.heap.size W wr
  pm : PMap wr nb (m.chg (l.take i)) (256 + i)
  am : AMap wr ab ((l.take i).map (·.n)) i
  er : chgE [] l = chgE ((l.take i).map (·.n)) (l.drop i)
  n1 : W.heap.size ≤ nb
  a1 : W.heap.size ≤ ab
  ne : nb ≠ ab
theorem size_zero {t : ByteArray} : t.size = 0 ↔ t = ⟨#[]⟩ := by
  constructor
  · intro h; exact ba_ext (by simpa using List.eq_nil_of_length_eq_zero ((size_list t).trans h))
  · rintro rfl; rfl
theorem text_ne {t : ByteArray} (h : t ≠ ⟨#[]⟩) : t.toList.isEmpty = false := by
  rw [ByteArray.toList_eq]
  cases e : t.data.toList with
  | nil => exact absurd (ba_ext (by rw [e])) h
  | cons x l => rfl
theorem text_eq {t : ByteArray} (h : t = ⟨#[]⟩) : t.toList.isEmpty = true := by
  subst h; rw [ByteArray.toList_eq]; rfl
theorem zeroUnit (w : World) : (zeroValue 119).run Tryz.prog w = .ok (.agg #[]) w := Tryz.zeroValue119 w
theorem chgE_step {ns : List ByteArray} {p : PP} {l : List PP} : chgE ns (p :: l) = if longB p = true then 3 else if p.g = true ∧ p.t.size ≠ 0 then 1 else if inB p.n ns = true then 13 else chgE (ns ++ [p.n]) l := rfl
theorem chg_take {m : MM} {l : List PP} {i : Nat} {p : PP} (h : l[i]? = some p) : m.chg (l.take (i + 1)) = (m.chg (l.take i)).set p := by rw [take_snoc h, chg_snoc]
theorem names_take {l : List PP} {i : Nat} {p : PP} (h : l[i]? = some p) : (l.take (i + 1)).map (·.n) = (l.take i).map (·.n) ++ [p.n] := by rw [take_snoc h]; simp
theorem PMap.shrink {w : World} {b : Nat} {m : MM} {c c' : Nat} (B : PMap w b m c) {ns : List ByteArray} (hn : Nm m ns) (hc : ns.length ≤ c') : PMap w b m c' := by
  obtain ⟨D, h1, h2⟩ := B
  have e : ns.length = Maps.size D := by rw [hn.uniq (nsOf_nm h1 h2), nsOf_len]
  obtain ⟨es, clock, q1, q2, q3, rfl⟩ := h1
  refine ⟨_, ⟨es, clock, q1, q2, ?_, rfl⟩, h2⟩
  rw [e] at hc
  simpa [Maps.size, length_sorted] using hc
set_option maxRecDepth 100000 in
set_option maxHeartbeats 8000000 in
theorem changed_any {W : World} {sb jb mb : Nat} {dn : Bool} {m : MM} {a : Option Addr} {cap : Nat} {l : List PP} (hs : W.heap[sb]? = some (sc jb mb dn)) (hm : PMap W mb m 256) (hl : PrsAt W a l) (hlen : l.length ≤ 262144) :
    Calls Tryz.prog 43 #[.pointer (some ⟨sb, 0, none⟩), .slice a l.length cap] W fun e W' => Below W.heap.size W W' ∧
      ((chgE [] l ≠ 0 ∧ e = .returned (.tuple #[.map none, .int .i64 (chgE [] l)])) ∨ (chgE [] l = 0 ∧ ∃ ns, Nm (m.chg l) ns ∧ ((256 < ns.length ∧ e = .returned (.tuple #[.map none, .int .i64 3])) ∨ (ns.length ≤ 256 ∧ ∃ nb, e = .returned (.tuple #[.map (some nb), .int .i64 0]) ∧ PMap W' nb (m.chg l) 256 ∧ W.heap.size ≤ nb)))) := by
  obtain ⟨c0, c1, c2, -⟩ := sc_cells hs
  obtain ⟨L, hL⟩ : ∃ L, L = l.length := ⟨_, rfl⟩
  have hLi : (L : Int) ≤ 262144 := by omega
  have HL := hide (And.intro hL hlen)
  have HP := hide hl
  have K0 := hide (clone_map hm)
  have hmm := @run_makeMap Tryz.prog
  rw [← hL]
  clear hs hm hl hL hlen
  go_enter Tryz.func43, Tryz.ntmps43
  go_wp2_with fail
  refine (unhide K0).mono ?_
  rintro e W1 ⟨rfl, M1, b1⟩
  obtain ⟨nb, hnb⟩ : ∃ nb, nb = W.heap.size := ⟨_, rfl⟩
  rw [← hnb] at M1 ⊢
  have HM1 := hide (And.intro M1 (And.intro b1 hnb))
  clear K0 M1 b1 hnb c0 c1 c2
  go_wp2_with fail
  clear hmm
  have I0 : CI W (W1.alloc (.map #[] 0)) nb W1.heap.size m l 0 := by
    obtain ⟨h1, h2, h3⟩ := unhide HM1
    exact ⟨bw_tr h2 (bw_alloc _ _), h1.bw (bw_alloc _ _), AMap.made W1, rfl, by omega, h2.size, by have := h1.lt; omega⟩
  obtain ⟨ab, hab⟩ : ∃ ab, ab = W1.heap.size := ⟨_, rfl⟩
  rw [← hab] at I0 ⊢
  have HI0 := hide I0
  clear I0 HM1 hab
  go_loopw [20] (fun iv wr => ∃ i : Nat, i ≤ L ∧ iv = .int .i64 (i : Int) ∧ Hid (CI W wr nb ab m l i)) (fun iv _ => (L - intOf iv).toNat)
  case atStart => exact ⟨0, by omega, rfl, HI0⟩
  case round =>
    clear HI0
    obtain ⟨i, hi, rfl, HR⟩ := hrel
    by_cases hlt : i < L
    · obtain ⟨p, hp⟩ : ∃ p, l[i]? = some p := ⟨_, List.getElem?_eq_getElem (by have := (unhide HL).1; omega)⟩
      obtain ⟨b, off, ha, hcell⟩ := (unhide HP).get hp
      subst ha
      have I := unhide HR
      obtain ⟨p0, p1, p2⟩ := hcell wr I.bel
      obtain ⟨f1, f2⟩ := (unhide HP).fit p (List.mem_of_getElem? hp)
      obtain ⟨X, hX⟩ : ∃ X, X = wr.alloc (.cells #[.string p.n, .string p.t, .bool p.g] 48) := ⟨_, rfl⟩
      have KT := hide (tooLong_any p X f1 f2)
      unfold pairV at KT
      have qX : X.heap[wr.heap.size]? = some (.cells #[.string p.n, .string p.t, .bool p.g] 48 (0, 0)) := by rw [hX]; exact heap_alloc_new _ _
      have bX : Below wr.heap.size wr X := by rw [hX]; exact bw_alloc _ _
      have x0 : X.cell? ⟨wr.heap.size, 0, none⟩ = some (.string p.n) := by simp [World.cell?, qX]
      have x1 : X.cell? ⟨wr.heap.size, 1, none⟩ = some (.string p.t) := by simp [World.cell?, qX]
      have x2 : X.cell? ⟨wr.heap.size, 2, none⟩ = some (.bool p.g) := by simp [World.cell?, qX]
      have HXe := hide hX
      have hii : (i : Int) < (L : Int) := by omega
      have HX := hide (And.intro qX bX)
      have HG : Hid (chgE [] l = if longB p = true then 3 else if p.g = true ∧ p.t.size ≠ 0 then 1 else if inB p.n ((l.take i).map (·.n)) = true then 13 else chgE ((l.take i).map (·.n) ++ [p.n]) (l.drop (i + 1))) := by
        unfold Hid; rw [I.er, drop_cons hp]; rfl
      clear I hcell qX bX
      go_wp2_with fail
      rw [← unhide HXe]
      clear hX
      go_wp2_with fail
      refine (unhide KT).mono ?_
      rintro e Y ⟨rfl, bY⟩
      clear KT x0 x1 x2 p0 p1 p2
      have qY : Y.heap[wr.heap.size]? = some (.cells #[.string p.n, .string p.t, .bool p.g] 48 (0, 0)) := (bY.block _ (lt_of_blk (unhide HX).1)).trans (unhide HX).1
      have y0 : Y.cell? ⟨wr.heap.size, 0, none⟩ = some (.string p.n) := by simp [World.cell?, qY]
      have y1 : Y.cell? ⟨wr.heap.size, 1, none⟩ = some (.string p.t) := by simp [World.cell?, qY]
      have y2 : Y.cell? ⟨wr.heap.size, 2, none⟩ = some (.bool p.g) := by simp [World.cell?, qY]
      have HY := hide (And.intro qY (bw_tr (unhide HX).2 bY))
      have HB : Hid (Below W.heap.size W Y) := bw_tr (unhide HR).bel (unhide HY).2
      clear qY bY HX
      cases hlong : longB p
      · rw [hlong, if_neg (by simp)] at HG
        by_cases ht : p.g = true ∧ p.t.size ≠ 0
        · rw [if_pos ht] at HG
          have ht2 := text_ne (fun c => ht.2 (size_zero.2 c))
          rw [ht.1] at y2
          clear ht HR HY
          go_wp2_with fail
          go_ret2
          exact ⟨unhide HB, Or.inl ⟨by rw [unhide HG]; decide, by rw [unhide HG]; rfl⟩⟩
        · rw [if_neg ht] at HG
          have hte : p.g = false ∨ p.t.toList.isEmpty = true := by
            cases hg : p.g
            · exact Or.inl rfl
            · exact Or.inr (text_eq (size_zero.1 (Classical.byContradiction fun c => ht ⟨hg, c⟩)))
          have AY : AMap Y ab ((l.take i).map (·.n)) i := (unhide HR).am.keep ((unhide HY).2.block _ (unhide HR).am.lt)
          have lk := AY.lookOk (zeroUnit Y) f1
          cases hin : inB p.n ((l.take i).map (·.n))
          · rw [hin] at lk
            rw [hin, if_neg (by simp)] at HG
            obtain ⟨Y2, hY2⟩ : ∃ Y2, Y2 = Y.alloc (.cells #[] 119) := ⟨_, rfl⟩
            have bY2 : Below Y.heap.size Y Y2 := by rw [hY2]; exact bw_alloc _ _
            have A2 : AMap Y2 ab ((l.take i).map (·.n)) i := AY.keep (bY2.block _ AY.lt)
            obtain ⟨Z1, r1, A3, g1⟩ := A2.store (by have := (unhide HL); omega) p.n f1
            have bYw := bw_tr (unhide HY).2 bY2
            have F1 : Fr [ab] wr Z1 := by
              have := (Fr.ofBelow bYw).trans (T := [ab]) (Fr.ofGrown g1) (fun _ _ c => by cases c) (fun _ _ c => by simpa using c)
              exact this
            have habl := (unhide HR).am.lt
            have hnbl := (unhide HR).pm.lt
            have qY2 : Y2.heap[wr.heap.size]? = some (.cells #[.string p.n, .string p.t, .bool p.g] 48 (0, 0)) := (bY2.block _ (lt_of_blk (unhide HY).1)).trans (unhide HY).1
            have q2 : Z1.heap[wr.heap.size]? = some (.cells #[.string p.n, .string p.t, .bool p.g] 48 (0, 0)) := (g1.block _ (lt_of_blk qY2) (fun c => by cases c; omega)).trans qY2
            have P1 : PMap Z1 nb (m.chg (l.take i)) (256 + i) := (unhide HR).pm.keep (F1.block _ hnbl (by simpa using (unhide HR).ne))
            have hzz : Y.heap.size < Z1.heap.size := Nat.lt_of_lt_of_le (by rw [hY2]; simp) g1.size
            have HZ := hide (And.intro P1 (And.intro A3 (And.intro F1 (And.intro q2 (And.intro habl hnbl)))))
            have w0 : Z1.cell? ⟨wr.heap.size, 0, none⟩ = some (.string p.n) := by simp [World.cell?, q2]
            have w1 : Z1.cell? ⟨wr.heap.size, 1, none⟩ = some (.string p.t) := by simp [World.cell?, q2]
            have w2 : Z1.cell? ⟨wr.heap.size, 2, none⟩ = some (.bool p.g) := by simp [World.cell?, q2]
            have w3 : ∀ k, Z1.frozen? ⟨wr.heap.size, k, none⟩ = false := fun k => by simp [World.frozen?, q2]
            have v0 : Y2.cell? ⟨wr.heap.size, 0, none⟩ = some (.string p.n) := by simp [World.cell?, qY2]
            rw [hY2] at v0
            have HY2 := hide hY2
            clear bY2 A2 A3 g1 bYw F1 habl hnbl qY2 q2 P1 AY hzz ht
            rw [hY2] at r1
            clear hY2
            cases hg : p.g
            · rw [hg] at y2 w2
              have KO := hide (owned_any p Z1 f1 f2)
              unfold pairV at KO
              rw [hg] at KO
              go_wp2_with fail
              refine (unhide KO).mono ?_
              rintro e U ⟨rfl, bU⟩
              obtain ⟨P1, A3, F1, q2, habl, hnbl⟩ := unhide HZ
              have qU : U.heap[wr.heap.size]? = some (.cells #[.string p.n, .string p.t, .bool p.g] 48 (0, 0)) := (bU.block _ (lt_of_blk q2)).trans q2
              have t0 : U.cell? ⟨wr.heap.size, 0, none⟩ = some (.string p.n) := by simp [World.cell?, qU]
              have t1 : U.cell? ⟨wr.heap.size, 1, none⟩ = some (.string p.t) := by simp [World.cell?, qU]
              have t2 : U.cell? ⟨wr.heap.size, 2, none⟩ = some (.bool p.g) := by simp [World.cell?, qU]
              have t3 : ∀ k, U.frozen? ⟨wr.heap.size, k, none⟩ = false := fun k => by simp [World.frozen?, qU]
              obtain ⟨V, hV⟩ : ∃ V, V = ((U.setCell ⟨wr.heap.size, 0, none⟩ (.string p.n)).setCell ⟨wr.heap.size, 1, none⟩ (.string p.t)).setCell ⟨wr.heap.size, 2, none⟩ (.bool false) := ⟨_, rfl⟩
              have vv := set3_same U (c := wr.heap.size) (u0 := .string p.n) (u1 := .string p.t) (u2 := .bool false) (by rw [t0]; rfl) (by rw [t1]; rfl) (by rw [t2]; rfl)
              rw [← hV] at vv
              obtain ⟨s0, s1, s2⟩ := vv
              have FV : Fr [ab, wr.heap.size] wr V := by
                have h1 : Fr [ab] wr U := F1.below bU
                have h2 := h1.mono (T := [ab, wr.heap.size]) (fun _ _ c => by simp at c; simp [c])
                rw [hV]
                exact ((h2.setCell (a := ⟨wr.heap.size, 0, none⟩) (Or.inr (by simp)) _).setCell (a := ⟨wr.heap.size, 1, none⟩) (Or.inr (by simp)) _).setCell (a := ⟨wr.heap.size, 2, none⟩) (Or.inr (by simp)) _
              have hkb : ∀ k, k < wr.heap.size → V.heap[k]? = U.heap[k]? := fun k hk => by
                rw [hV, Below.heap_setCell _ _ _ _ (show k ≠ wr.heap.size by omega), Below.heap_setCell _ _ _ _ (show k ≠ wr.heap.size by omega), Below.heap_setCell _ _ _ _ (show k ≠ wr.heap.size by omega)]
              have PU : PMap U nb (m.chg (l.take i)) (256 + i) := P1.bw bU
              have PV : PMap V nb (m.chg (l.take i)) (256 + i) := PU.keep (hkb nb hnbl)
              have AV : AMap V ab ((l.take i).map (·.n) ++ [p.n]) (i + 1) := A3.keep ((hkb ab habl).trans (bU.block _ A3.lt))
              obtain ⟨Z2, r2, P2, g2⟩ := PV.store (by have := (unhide HL); omega) p hg f1
              unfold pairV at r2
              rw [hg] at r2
              have HN : Hid (CI W Z2 nb ab m l (i + 1)) := by
                have I := unhide HR
                have F2 : Fr [nb] V Z2 := by simpa using Fr.ofGrown g2
                have F12 : Fr [ab, wr.heap.size, nb] wr Z2 := FV.trans F2 (fun _ _ c => by simp at c; rcases c with c | c <;> simp [c]) (fun _ _ c => by simp at c; simp [c])
                refine ⟨Fr.toBase I.bel F12 (by intro x hx; simp at hx; have h1 := I.n1; have h2 := I.a1; have h3 := I.bel.size; omega), ?_, ?_, ?_, I.n1, I.a1, I.ne⟩
                · rw [chg_take hp]; exact P2.mono (by omega)
                · rw [names_take hp]; exact AV.keep (F2.block _ AV.lt (by simpa using I.ne.symm))
                · rw [names_take hp]; exact unhide HG
              have HVe := hide hV
              clear KO HZ HR HG P2 g2 hte P1 A3 F1 q2 habl hnbl qU FV hkb PU PV AV hV bU
              have HR2 := hide (And.intro r2 (And.intro s0 (And.intro s1 s2)))
              have j0 := t3 0
              have j1 := t3 1
              have j2 := t3 2
              clear r2 s0 s1 s2 t3 lk r1 w0 w1 w2 w3 v0 y0 y1 y2
              go_wp2_with fail
              rw [← unhide HVe, (unhide HR2).1]
              simp only [Result.andThen]
              rw [Oper.upon_skip]
              clear HR2 HVe t0 t1 t2 j0 j1 j2
              go_wp2_with fail
              go_roundw
              case rel => exact ⟨i + 1, by omega, by go_num, HN⟩
              case measure => simp only [intOf]; omega
            · rw [hg] at y2 w2
              have hte2 : p.t.toList.isEmpty = true := by rcases hte with c | c; rw [hg] at c; cases c; exact c
              obtain ⟨Z2, r2, P2, g2⟩ := (unhide HZ).1.drop p hg f1 0
              have HN : Hid (CI W Z2 nb ab m l (i + 1)) := by
                obtain ⟨P1, A3, F1, q2, habl, hnbl⟩ := unhide HZ
                have I := unhide HR
                have F2 : Fr [nb] Z1 Z2 := by simpa using Fr.ofGrown g2
                have F12 : Fr [ab, nb] wr Z2 := F1.trans F2 (fun _ _ c => by simp at c; simp [c]) (fun _ _ c => by simp at c; simp [c])
                refine ⟨Fr.toBase I.bel F12 (by intro x hx; simp at hx; have h1 := I.n1; have h2 := I.a1; omega), ?_, ?_, ?_, I.n1, I.a1, I.ne⟩
                · rw [chg_take hp]; exact P2.mono (by omega)
                · rw [names_take hp]; exact A3.keep (F2.block _ A3.lt (by simpa using I.ne.symm))
                · rw [names_take hp]; exact unhide HG
              clear HZ HR HG P2 g2 hte
              go_wp2_with fail
              go_roundw
              case rel => exact ⟨i + 1, by omega, by go_num, HN⟩
              case measure => simp only [intOf]; omega
          · rw [hin] at lk
            rw [hin, if_pos rfl] at HG
            clear HR HY ht AY
            rcases hte with hg | hg
            · rw [hg] at y2
              go_wp2_with fail
              go_ret2
              exact ⟨bw_tr (unhide HB) (bw_alloc _ _), Or.inl ⟨by rw [unhide HG]; decide, by rw [unhide HG]; rfl⟩⟩
            · generalize p.g = pg at *
              cases pg
              all_goals
                go_wp2_with fail
                go_ret2
                exact ⟨bw_tr (unhide HB) (bw_alloc _ _), Or.inl ⟨by rw [unhide HG]; decide, by rw [unhide HG]; rfl⟩⟩
      · rw [hlong, if_pos rfl] at HG
        clear HR HY
        go_wp2_with fail
        go_ret2
        exact ⟨unhide HB, Or.inl ⟨by rw [unhide HG]; decide, by rw [unhide HG]; rfl⟩⟩
    · obtain rfl : i = L := by omega
      obtain ⟨ns, hns, hnl⟩ := (unhide HR).pm.names
      have I := unhide HR
      have hLl := (unhide HL).1
      have e1 : l.drop i = [] := by rw [hLl]; exact List.drop_length
      have e2 : l.take i = l := by rw [hLl]; exact List.take_length
      have hE : chgE [] l = 0 := by rw [I.er, e1]; rfl
      have KL := fun ty => I.pm.len hns ty
      rw [e2] at hns
      have hpm := I.pm
      rw [e2] at hpm
      have HF := hide (And.intro hE (And.intro hns (And.intro hpm (And.intro I.bel I.n1))))
      clear I HR hLl e1 e2 hE hns hpm
      obtain ⟨N, hN⟩ : ∃ N, N = ns.length := ⟨_, rfl⟩
      rw [← hN] at KL
      have hNb : (N : Int) ≤ 1000000 := by omega
      have HN := hide hN
      by_cases hb : 256 < N
      · have hbi : (256 : Int) < (N : Int) := by omega
        clear hN hb hnl
        go_wp2_with fail
        go_ret2
        exact ⟨(unhide HF).2.2.2.1, Or.inr ⟨(unhide HF).1, ns, (unhide HF).2.1, Or.inl ⟨by have := unhide HN; omega, rfl⟩⟩⟩
      · have hbi : ¬ (256 : Int) < (N : Int) := by omega
        have HPM : Hid (PMap wr nb (m.chg l) 256) := PMap.shrink (unhide HF).2.2.1 (unhide HF).2.1 (by omega)
        clear hN hb hnl
        go_wp2_with fail
        go_ret2
        exact ⟨(unhide HF).2.2.2.1, Or.inr ⟨(unhide HF).1, ns, (unhide HF).2.1, Or.inr ⟨by have := unhide HN; omega, nb, rfl, unhide HPM, (unhide HF).2.2.2.2⟩⟩⟩
end Go.Proofs.YtfnpeiikjiffeaaGreat
