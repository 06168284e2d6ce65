/- The contract of the document's own Pack: it answers as the plain one. -/
import Derived.Test.YtfnpeiikjiffeaaGreatStB
import Derived.Test.YtfnpeiikjiffeaaGreatWiOut
namespace Go.Proofs.YtfnpeiikjiffeaaGreat
open Go.RowKit Go.Maps

/-- An Out of one's own. -/
def OuI (w wr : World) (b : Nat) (sv : Value) (bs : List UInt8) : Prop := Below w.heap.size w wr ∧ Wi.OR wr b sv bs ∧ w.heap.size ≤ b ∧ ∀ k, sv.ownBlock = some k → w.heap.size ≤ k
theorem OuI.bw {w W W' : World} {b : Nat} {sv : Value} {bs : List UInt8} (h : OuI w W b sv bs) (hb : Below W.heap.size W W') : OuI w W' b sv bs := ⟨bw_tr h.1 hb, h.2.1.new (wfr hb), h.2.2⟩
theorem OuI.step {w W W' : World} {b : Nat} {sv sv' : Value} {bs bs' : List UInt8} (h : OuI w W b sv bs) (k : Wi.OStep W W' b sv sv' bs') : OuI w W' b sv' bs' := by
  obtain ⟨h1, h2, h3, h4⟩ := h
  refine ⟨⟨k.fr.os.trans h1.os, k.fr.tape.trans h1.tape, k.fr.output.trans h1.output, Nat.le_trans h1.size k.fr.size, fun x hx => ?_⟩, k.wr, h3, fun x hx => ?_⟩
  · rw [k.fr.block x (Nat.lt_of_lt_of_le hx h1.size) (fun c => ?_), h1.block x hx]
    simp only [List.mem_cons, Option.mem_toList] at c
    rcases c with c | c
    · omega
    · have := h4 x c; omega
  · rcases k.place x hx with c | c
    · exact h4 x c
    · exact Nat.le_trans h1.size c
theorem oi_text {w W : World} {b : Nat} {sv : Value} {bs : List UInt8} (h : OuI w W b sv bs) (s : ByteArray) (hs : s.size ≤ 65536) (hl : bs.length ≤ 1099511000000) :
    Calls Tryz.prog 31 #[.pointer (some ⟨b, 0, none⟩), .string s] W fun e W' => e = .returned (.tuple #[]) ∧ ∃ sv', OuI w W' b sv' (bs ++ tb s) := by
  refine (Wi.oText_ok b s sv bs W hs h.2.1 hl).mono ?_
  rintro e W' ⟨rfl, sv', k⟩
  exact ⟨rfl, sv', h.step k⟩
theorem oi_list {w W : World} {b : Nat} {sv : Value} {bs : List UInt8} (h : OuI w W b sv bs) (n : Nat) (hs : n ≤ 65536) (hl : bs.length ≤ 1099511000000) :
    Calls Tryz.prog 29 #[.pointer (some ⟨b, 0, none⟩), .int .i64 (n : Int)] W fun e W' => e = .returned (.tuple #[]) ∧ ∃ sv', OuI w W' b sv' (bs ++ Wi.enc n) := by
  refine (Wi.oList_ok b n sv bs W hs h.2.1 hl).mono ?_
  rintro e W' ⟨rfl, sv', k⟩
  exact ⟨rfl, sv', h.step k⟩
set_option maxRecDepth 100000 in
theorem rlong_any (p : PP) (w : World) (h1 : p.n.size ≤ 140737488355328) (h2 : p.t.size ≤ 140737488355328) : Calls Tryz.prog 30 #[pairV p] w fun e w' => e = .returned (.bool (longB p)) ∧ Below w.heap.size w w' := by
  obtain ⟨n, t, g⟩ := p
  simp only [pairV, longB] at *
  by_cases a : 65536 < n.size
  · have ai : (65536 : Int) < (n.size : Int) := by omega
    rw [decide_eq_true a]
    go_enter Tryz.func30, Tryz.ntmps30
    go_wp2
    go_ret
    exact ⟨by simp, (Below.refl _ _).alloc (Nat.le_refl _) _⟩
  · have ai : ¬ (65536 : Int) < (n.size : Int) := by omega
    rw [decide_eq_false a]
    by_cases b : 65536 < t.size
    · have bi : (65536 : Int) < (t.size : Int) := by omega
      rw [decide_eq_true b]
      go_enter Tryz.func30, Tryz.ntmps30
      go_wp2
      go_ret
      exact ⟨by simp, (Below.refl _ _).alloc (Nat.le_refl _) _⟩
    · have bi : ¬ (65536 : Int) < (t.size : Int) := by omega
      rw [decide_eq_false b]
      go_enter Tryz.func30, Tryz.ntmps30
      go_wp2
      go_ret
      exact ⟨by simp, (Below.refl _ _).alloc (Nat.le_refl _) _⟩
set_option maxRecDepth 100000 in
theorem rpack_many {w : World} {a : Option Addr} {cap : Nat} {l : List PP} (h : PrsAt w a l) (hl : 256 < l.length) : Calls Tryz.prog 8 #[.slice a l.length cap] w fun e w' => e = .returned (.tuple #[.string ⟨#[]⟩, .int .i64 3]) ∧ w' = w := by
  have hli : (256 : Int) < (l.length : Int) := by omega
  have hl2 : (l.length : Int) ≤ 140737488355328 := by have := h.len; omega
  clear h hl
  generalize l.length = L at *
  go_enter Tryz.func8, Tryz.ntmps8
  go_wp2
  go_ret2
  exact ⟨rfl, rfl⟩
set_option maxRecDepth 100000 in
set_option maxHeartbeats 4000000 in
theorem rpack_few {w : World} {a : Option Addr} {cap : Nat} {l : List PP} (h : PrsAt w a l) (hl : l.length ≤ 256) : Calls Tryz.prog 8 #[.slice a l.length cap] w fun e w' => e = .returned (.tuple #[.string (if packE none l = 0 then Wi.str (packB l) else ⟨#[]⟩), .int .i64 (packE none l)]) ∧ Below w.heap.size w w' := by
  obtain ⟨L, hL⟩ : ∃ L, L = l.length := ⟨_, rfl⟩
  obtain ⟨R, hR⟩ : ∃ R : ByteArray, R = (if packE none l = 0 then Wi.str (packB l) else ⟨#[]⟩) := ⟨_, rfl⟩
  obtain ⟨x, hx⟩ : ∃ x : Int, x = packE none l := ⟨_, rfl⟩
  rw [← hR, ← hx]
  have HQ : Hid (∀ (y : Int) (R' : ByteArray), packE none l = y → (if y = 0 then Wi.str (packB l) else ⟨#[]⟩) = R' → x = y ∧ R = R') := fun y R' hy hr => ⟨hx.trans hy, by rw [hR, hy, hr]⟩
  clear hR hx
  have HP := hide h
  have hLi : ¬ (256 : Int) < (L : Int) := by omega
  have HL := hide (And.intro hL hl)
  rw [← hL]
  clear h hl hL
  obtain ⟨X, hX⟩ : ∃ X, X = w.alloc (.cells #[.slice none 0 0, .int .i64 0] 61) := ⟨_, rfl⟩
  have I0 : OuI w X w.heap.size (.slice none 0 0) [] := by rw [hX]; exact ⟨bw_alloc _ _, ⟨heap_alloc_new _ _, World.ownsRow_nil _ _ _ _⟩, Nat.le_refl _, fun k hk => by cases hk⟩
  have K1 := hide (oi_list I0 L (by have := (unhide HL); omega) (by simp))
  have HX := hide hX
  clear I0
  go_enter Tryz.func8, Tryz.ntmps8
  go_wp2_with fail
  rw [← unhide HX]
  clear hX
  obtain ⟨bw, hbw⟩ : ∃ b, b = w.heap.size := ⟨_, rfl⟩
  rw [← hbw] at K1 ⊢
  have Hbw := hide hbw
  clear hbw HX
  refine (unhide K1).mono ?_
  rintro e W2 ⟨rfl, sv2, I2⟩
  have HI := hide I2
  clear K1 I2
  go_wp2_with fail
  go_loopw [5] (fun iv wr => ∃ (i : Nat), i ≤ L ∧ iv = .int .i64 (i : Int) ∧ Hid ((∃ sv, OuI w wr bw sv (Wi.enc L ++ body (l.take i))) ∧ packE none l = packE (prevAt l i) (l.drop i) ∧ ∀ p ∈ l.take i, p.n.size ≤ 65536 ∧ p.t.size ≤ 65536)) (fun iv _ => (L - intOf iv).toNat)
  case atStart => exact ⟨0, by omega, rfl, ⟨sv2, by simpa [body] using unhide HI⟩, by simp [prevAt], by simp⟩
  case round =>
    clear HI
    obtain ⟨i, hi, rfl, HR⟩ := hrel
    by_cases hlt : i < L
    · obtain ⟨p, hp⟩ : ∃ p, l[i]? = some p := ⟨_, List.getElem?_eq_getElem (by have := (unhide HL).1; omega)⟩
      obtain ⟨b, off, ha, hcell⟩ := (unhide HP).get hp
      subst ha
      obtain ⟨⟨sv, I⟩, hE, hT⟩ := unhide HR
      obtain ⟨p0, p1, p2⟩ := hcell wr I.1
      obtain ⟨f1, f2⟩ := (unhide HP).fit p (List.mem_of_getElem? hp)
      have KT := hide (rlong_any p wr f1 f2)
      unfold pairV at KT
      have hii : (i : Int) < (L : Int) := by omega
      have HI := hide (And.intro I (And.intro hE hT))
      have HC := hide hcell
      clear HR I hE hT hcell
      go_wp2_with fail
      refine (unhide KT).mono ?_
      rintro e Y ⟨rfl, bY⟩
      clear KT p0 p1 p2
      have HG : Hid (packE none l = if longB p = true then 3 else if p.g = true ∨ risesB (prevAt l i) p.n = false then 1 else packE (some p.n) (l.drop (i + 1))) := by
        rw [(unhide HI).2.1, drop_cons hp]; rfl
      have IY := (unhide HI).1.bw bY
      obtain ⟨y0, y1, y2⟩ := unhide HC Y IY.1
      have HB := hide IY.1
      have HY := hide IY
      clear bY IY
      cases hlong : longB p
      · rw [hlong, if_neg (by simp)] at HG
        have hsz : p.n.size ≤ 65536 ∧ p.t.size ≤ 65536 := by
          simp only [longB, Bool.or_eq_false_iff, decide_eq_false_iff_not] at hlong; omega
        cases hg : p.g
        · rw [hg] at y2
          have HLen : Hid ((Wi.enc L ++ body (l.take i)).length ≤ 100000000) := by
            have h1 := body_len (l.take i) (unhide HI).2.2
            have h2 := Wi.enc_length (L : Int)
            have h3 : (l.take i).length ≤ 256 := by rw [List.length_take]; have := (unhide HL); omega
            have h4 := Nat.mul_le_mul_right 131100 h3
            unfold Hid; rw [List.length_append]; omega
          have HS : Hid (∀ sv', ∀ V, OuI w V bw sv' (Wi.enc L ++ body (l.take i) ++ tb p.n ++ tb p.t) → packE none l = packE (some p.n) (l.drop (i + 1)) → (∃ sv, OuI w V bw sv (Wi.enc L ++ body (l.take (i + 1)))) ∧ packE none l = packE (prevAt l (i + 1)) (l.drop (i + 1)) ∧ ∀ p ∈ l.take (i + 1), p.n.size ≤ 65536 ∧ p.t.size ≤ 65536) := fun sv' V hV hE => by
            rw [take_snoc hp, body_snoc, prevAt_succ hp]
            refine ⟨⟨sv', by simpa [pb] using hV⟩, hE, fun q hq => ?_⟩
            rcases List.mem_append.1 hq with hq | hq
            · exact (unhide HI).2.2 q hq
            · simp at hq; subst hq; exact hsz
          have HSZ := hide hsz
          rw [hg] at HG
          clear HI hsz hlong
          by_cases h0 : i = 0
          · have hz : risesB (prevAt l i) p.n = true := by unfold prevAt; rw [if_pos h0]; rfl
            rw [if_neg (by rw [hz]; simp)] at HG
            have e5 : decide ((0 : Int) < (i : Int)) = false := decide_eq_false (by omega)
            have e6 : decide (0 < i) = false := decide_eq_false (by omega)
            have e7 : ¬ (0 : Int) < (i : Int) := by omega
            have e8 : ¬ 0 < i := by omega
            clear h0 hz
            go_wp2_with fail
            go_quiet (fail)
            all_goals
              obtain ⟨V, hV⟩ : ∃ V, V = Y.drewN nq := ⟨_, rfl⟩
              have bV : Below Y.heap.size Y V := by rw [hV]; exact below_drewN (Below.refl _ _) _
              rw [← hV]
              clear hV
              have IV := (unhide HY).bw bV
              obtain ⟨v0, -, -⟩ := unhide HC V IV.1
              have K1 := hide (oi_text IV p.n (unhide HSZ).1 (by have := unhide HLen; omega))
              clear IV y0 y1 y2
              go_wp2_with fail
              refine (unhide K1).mono ?_
              rintro e V1 ⟨rfl, sv1, J1⟩
              obtain ⟨-, z1, -⟩ := unhide HC V1 J1.1
              have K2 := hide (oi_text J1 p.t (unhide HSZ).2 (by have := unhide HLen; have := tb_len p.n; have := (unhide HSZ).1; rw [List.length_append]; omega))
              clear K1 J1 v0
              go_wp2_with fail
              refine (unhide K2).mono ?_
              rintro e V2 ⟨rfl, sv2', J2⟩
              have HJ := hide (unhide HS sv2' V2 J2 (unhide HG))
              clear K2 J2 z1
              go_wp2_with fail
              go_roundw
              case rel => exact ⟨_, by omega, by go_num, HJ⟩
              case measure => simp only [intOf]; omega
          · obtain ⟨q, hq⟩ : ∃ q, l[i - 1]? = some q := ⟨_, List.getElem?_eq_getElem (by have := (unhide HL).1; omega)⟩
            obtain ⟨b', off', ha', hcell'⟩ := (unhide HP).get hq
            obtain ⟨rfl, rfl⟩ : b = b' ∧ off = off' := by simpa using ha'
            obtain ⟨n0, -, -⟩ := hcell' Y (unhide HB)
            obtain ⟨j, hj⟩ : ∃ j, j = i - 1 := ⟨_, rfl⟩
            rw [← hj] at n0
            have e1 : (i : Int) - 1 = (j : Int) := by omega
            have e2 : wrap64 ((i : Int) - 1) = (j : Int) := by unfold wrap64; omega
            have e3 : IntKind.i64.wrap (j : Int) = (j : Int) := wrap_i64 (by omega) (by omega)
            have e4 : (j : Int) < (L : Int) := by omega
            have e5 : decide ((0 : Int) < (i : Int)) = true := decide_eq_true (by omega)
            have e6 : decide (0 < i) = true := decide_eq_true (by omega)
            have e7 : (0 : Int) < (i : Int) := by omega
            have hpr : prevAt l i = some q.n := by unfold prevAt; rw [if_neg h0, hq]; rfl
            have hcmp := cmp_rises q.n p.n
            rw [← hpr] at hcmp
            clear hpr hcell' ha' hq hj
            cases hz : risesB (prevAt l i) p.n
            · rw [hz] at hcmp
              rw [hz, if_pos (Or.inr rfl)] at HG
              obtain ⟨rfl, rfl⟩ := unhide HQ 1 ⟨#[]⟩ (unhide HG) rfl
              simp only [Bool.not_false] at hcmp
              clear HY HLen HG HQ HS
              go_wp2_with fail
              go_quiet (fail)
              all_goals
                go_wp2_with fail
                go_ret2
                exact ⟨rfl, below_drewN (unhide HB) _⟩
            · rw [hz] at hcmp
              rw [hz, if_neg (by simp)] at HG
              simp only [Bool.not_true] at hcmp
              go_wp2_with fail
              go_quiet (fail)
              all_goals
                obtain ⟨V, hV⟩ : ∃ V, V = Y.drewN nq := ⟨_, rfl⟩
                have bV : Below Y.heap.size Y V := by rw [hV]; exact below_drewN (Below.refl _ _) _
                rw [← hV]
                clear hV
                have IV := (unhide HY).bw bV
                obtain ⟨v0, -, -⟩ := unhide HC V IV.1
                have K1 := hide (oi_text IV p.n (unhide HSZ).1 (by have := unhide HLen; omega))
                clear IV y0 y1 y2
                go_wp2_with fail
                refine (unhide K1).mono ?_
                rintro e V1 ⟨rfl, sv1, J1⟩
                obtain ⟨-, z1, -⟩ := unhide HC V1 J1.1
                have K2 := hide (oi_text J1 p.t (unhide HSZ).2 (by have := unhide HLen; have := tb_len p.n; have := (unhide HSZ).1; rw [List.length_append]; omega))
                clear K1 J1 v0
                go_wp2_with fail
                refine (unhide K2).mono ?_
                rintro e V2 ⟨rfl, sv2', J2⟩
                have HJ := hide (unhide HS sv2' V2 J2 (unhide HG))
                clear K2 J2 z1
                go_wp2_with fail
                go_roundw
                case rel => exact ⟨_, by omega, by go_num, HJ⟩
                case measure => simp only [intOf]; omega
        · rw [hg] at y2
          rw [hg, if_pos (Or.inl rfl)] at HG
          obtain ⟨rfl, rfl⟩ := unhide HQ 1 ⟨#[]⟩ (unhide HG) rfl
          clear HI HY HG HQ
          go_wp2_with fail
          go_quiet (fail)
          all_goals
            go_wp2_with fail
            go_ret2
            exact ⟨rfl, below_drewN (unhide HB) _⟩
      · rw [hlong, if_pos rfl] at HG
        obtain ⟨rfl, rfl⟩ := unhide HQ 3 ⟨#[]⟩ (unhide HG) rfl
        clear HI HY HG HQ
        go_wp2_with fail
        go_ret2
        exact ⟨rfl, unhide HB⟩
    · obtain rfl : i = L := by omega
      obtain ⟨⟨sv, I⟩, hE, hT⟩ := unhide HR
      have K3 := hide (Wi.oBytes_any bw sv _ wr I.2.1)
      have hLl := (unhide HL).1
      have e1 : l.drop i = [] := by rw [hLl]; exact List.drop_length
      have e2 : l.take i = l := by rw [hLl]; exact List.take_length
      have HE : Hid (packE none l = 0 ∧ Wi.enc (i : Int) ++ body (l.take i) = packB l) := ⟨by rw [hE, e1]; rfl, by rw [e2, hLl]; rfl⟩
      have HB := hide I.1
      obtain ⟨rfl, rfl⟩ := unhide HQ 0 (Wi.str (packB l)) (unhide HE).1 rfl
      rw [(unhide HE).2] at K3
      clear HR I hE hT hLl e1 e2 HQ HE
      go_wp2_with (first | (go_at_call 32; refine (unhide K3).mono ?_; rintro e w3 ⟨rfl, rfl⟩))
      go_ret2
      exact ⟨rfl, unhide HB⟩
/-- The document's own Pack. -/
theorem rpack_any {w : World} {a : Option Addr} {cap : Nat} {l : List PP} (h : PrsAt w a l) : Calls Tryz.prog 8 #[.slice a l.length cap] w fun e w' => e = .returned (.tuple #[.string (packS l), .int .i64 (packX l)]) ∧ Below w.heap.size w w' := by
  by_cases c : 256 < l.length
  · have e1 : packX l = 3 := by unfold packX; rw [if_pos c]
    have e2 : packS l = ⟨#[]⟩ := by unfold packS; rw [e1]; rfl
    rw [e1, e2]
    refine (rpack_many h c).mono ?_
    rintro e w' ⟨rfl, rfl⟩
    exact ⟨rfl, Below.refl _ _⟩
  · have e1 : packX l = packE none l := by unfold packX; rw [if_neg c]
    have e2 : packS l = if packE none l = 0 then Wi.str (packB l) else ⟨#[]⟩ := by unfold packS; rw [e1]; rfl
    rw [e1, e2]
    exact rpack_few h (by omega)
end Go.Proofs.YtfnpeiikjiffeaaGreat
