/- The contract of Pack. -/
import Derived.Test.YtfnpeiikjiffeaaGreatStA
namespace Go.Proofs.YtfnpeiikjiffeaaGreat
open Go.RowKit Go.Maps

theorem wfr {w w' : World} (h : Below w.heap.size w w') : Wi.Fr [] w w' := ⟨h.os, h.tape, h.output, h.size, fun k hk _ => h.block k hk⟩
/-- A Writer of one's own. -/
def WI (w wr : World) (b : Nat) (sv : Value) (bs : List UInt8) : Prop := Below w.heap.size w wr ∧ Wi.WR wr b sv bs ∧ w.heap.size ≤ b ∧ ∀ k, sv.ownBlock = some k → w.heap.size ≤ k
theorem WI.bw {w W W' : World} {b : Nat} {sv : Value} {bs : List UInt8} (h : WI w W b sv bs) (hb : Below W.heap.size W W') : WI w W' b sv bs := ⟨bw_tr h.1 hb, h.2.1.new (wfr hb), h.2.2⟩
theorem WI.step {w W W' : World} {b : Nat} {sv sv' : Value} {bs bs' : List UInt8} (h : WI w W b sv bs) (k : Wi.WStep W W' b sv sv' bs') : WI w W' b sv' bs' := by
  obtain ⟨h1, h2, h3, h4⟩ := h
  refine ⟨⟨k.fr.os.trans h1.os, k.fr.tape.trans h1.tape, k.fr.output.trans h1.output, Nat.le_trans h1.size k.fr.size, fun x hx => ?_⟩, k.wr, h3, fun x hx => ?_⟩
  · rw [k.fr.block x (Nat.lt_of_lt_of_le hx h1.size) (fun c => ?_), h1.block x hx]
    simp only [List.mem_cons, Option.mem_toList] at c
    rcases c with c | c
    · omega
    · have := h4 x c; omega
  · rcases k.place x hx with c | c
    · exact h4 x c
    · exact Nat.le_trans h1.size c
theorem wi_new (w : World) : Calls Tryz.prog 24 #[] w fun e w' => e = .returned (.pointer (some ⟨w.heap.size, 0, none⟩)) ∧ WI w w' w.heap.size (.slice none 0 0) [] := by
  refine (Wi.newWriter_any w).mono ?_
  rintro e w' ⟨rfl, rfl⟩
  exact ⟨rfl, bw_alloc _ _, ⟨heap_alloc_new _ _, World.ownsRow_nil _ _ _ _⟩, Nat.le_refl _, fun k hk => by cases hk⟩
theorem wi_text {w W : World} {b : Nat} {sv : Value} {bs : List UInt8} (h : WI w W b sv bs) (s : ByteArray) (hs : s.size ≤ 65536) (hl : bs.length ≤ 1099511627000) :
    Calls Tryz.prog 27 #[.pointer (some ⟨b, 0, none⟩), .string s] W fun e W' => e = .returned (.int .i64 0) ∧ (∃ sv', WI w W' b sv' (bs ++ tb s)) ∧ ∀ x, x < W.heap.size → x ≠ b → sv.ownBlock ≠ some x → W'.heap[x]? = W.heap[x]? := by
  refine (Wi.wText_ok b s sv bs W hs h.2.1 hl).mono ?_
  rintro e W' ⟨rfl, sv', k⟩
  exact ⟨rfl, ⟨sv', h.step k⟩, fun x hx h1 h2 => k.fr.block x hx (by simp [h1, h2])⟩
theorem WI.lt {w W : World} {b : Nat} {sv : Value} {bs : List UInt8} (h : WI w W b sv bs) : b < W.heap.size ∧ ∀ k, sv.ownBlock = some k → k < W.heap.size := ⟨lt_of_blk h.2.1.blk, fun k hk => (World.ownsRow.lt h.2.1.own k hk).2⟩
theorem wi_list {w W : World} {b : Nat} {sv : Value} {bs : List UInt8} (h : WI w W b sv bs) (n : Nat) (hs : n ≤ 65536) (hl : bs.length ≤ 1099511627000) :
    Calls Tryz.prog 25 #[.pointer (some ⟨b, 0, none⟩), .int .i64 (n : Int)] W fun e W' => e = .returned (.int .i64 0) ∧ ∃ sv', WI w W' b sv' (bs ++ Wi.enc n) := by
  refine (Wi.wList_ok b n sv bs W (by omega) (by omega) h.2.1 (by omega)).mono ?_
  rintro e W' ⟨rfl, sv', k⟩
  exact ⟨rfl, sv', h.step k⟩
theorem wi_bytes {w W : World} {b : Nat} {sv : Value} {bs : List UInt8} (h : WI w W b sv bs) :
    Calls Tryz.prog 28 #[.pointer (some ⟨b, 0, none⟩)] W fun e W' => e = .returned (.string (Wi.str bs)) ∧ W' = W := Wi.wBytes_any b sv bs W h.2.1
def prevAt (l : List PP) (i : Nat) : Option ByteArray := if i = 0 then none else l[i - 1]?.map (·.n)
theorem body_len (l : List PP) (hl : ∀ p ∈ l, p.n.size ≤ 65536 ∧ p.t.size ≤ 65536) : (body l).length ≤ l.length * 131100 := by
  induction l with
  | nil => simp [body]
  | cons p l ih =>
    have h1 := ih (fun q hq => hl q (by simp [hq]))
    obtain ⟨h2, h2'⟩ := hl p (by simp)
    have h3 := tb_len p.n
    have h4 := tb_len p.t
    have h5 : (body (p :: l)).length = (tb p.n).length + (tb p.t).length + (body l).length := by simp [body, pb, Nat.add_assoc]
    rw [h5, List.length_cons, Nat.add_mul]
    omega
theorem less_lt (x y : List UInt8) : Op.bytesLess x y = decide (x < y) := by
  induction x generalizing y with
  | nil => cases y <;> simp [Op.bytesLess]
  | cons a x ih =>
    cases y with
    | nil => simp [Op.bytesLess]
    | cons b y =>
      have h := ih y
      simp only [Op.bytesLess, List.cons_lt_cons_iff, h]
      by_cases h1 : a < b
      · simp [h1]
      · by_cases h2 : a = b
        · simp [h2]
        · simp [h1, h2]
theorem cmp_rises (a p : ByteArray) : (Op.bytesLess p.toList a.toList || p.toList == a.toList) = !(risesB (some a) p) := by
  rw [ByteArray.toList_eq, ByteArray.toList_eq]
  show (Op.bytesLess p.data.toList a.data.toList || p.data.toList == a.data.toList) = !(decide (a.data.toList < p.data.toList))
  rw [less_lt]
  generalize p.data.toList = x
  generalize a.data.toList = y
  by_cases h : y < x
  · have h1 : ¬ x < y := fun c => List.lt_irrefl _ (List.lt_trans c h)
    have h2 : ¬ x = y := fun c => by subst c; exact List.lt_irrefl _ h
    simp [h, h1, h2]
  · by_cases h1 : x < y
    · simp [h, h1]
    · have h2 : x = y := List.le_antisymm (List.not_lt.1 h) (List.not_lt.1 h1)
      subst h2
      simp [h]
theorem packE_step {q : Option ByteArray} {p : PP} {l : List PP} : packE q (p :: l) = if longB p = true then 3 else if p.g = true ∨ risesB q p.n = false then 1 else packE (some p.n) l := rfl
theorem drop_cons {l : List PP} {i : Nat} {p : PP} (h : l[i]? = some p) : l.drop i = p :: l.drop (i + 1) := by
  obtain ⟨hi, e⟩ := List.getElem?_eq_some_iff.1 h
  rw [List.drop_eq_getElem_cons hi, e]
theorem take_snoc {l : List PP} {i : Nat} {p : PP} (h : l[i]? = some p) : l.take (i + 1) = l.take i ++ [p] := by rw [List.take_add_one, h]; rfl
theorem prevAt_succ {l : List PP} {i : Nat} {p : PP} (h : l[i]? = some p) : prevAt l (i + 1) = some p.n := by simp [prevAt, h]
set_option maxRecDepth 100000 in
theorem pack_many {w : World} {a : Option Addr} {cap : Nat} {l : List PP} (h : PrsAt w a l) (hl : 256 < l.length) : Calls Tryz.prog 7 #[.slice a l.length cap] w fun e w' => e = .returned (.tuple #[.string ⟨#[]⟩, .int .i64 3]) ∧ w' = w := by
  have hli : (256 : Int) < (l.length : Int) := by omega
  have hl2 : (l.length : Int) ≤ 140737488355328 := by have := h.len; omega
  clear h hl
  generalize l.length = L at *
  go_enter Tryz.func7, Tryz.ntmps7
  go_wp2
  go_ret2
  exact ⟨rfl, rfl⟩
set_option maxRecDepth 100000 in
set_option maxHeartbeats 4000000 in
theorem pack_few {w : World} {a : Option Addr} {cap : Nat} {l : List PP} (h : PrsAt w a l) (hl : l.length ≤ 256) : Calls Tryz.prog 7 #[.slice a l.length cap] w fun e w' => e = .returned (.tuple #[.string (if packE none l = 0 then Wi.str (packB l) else ⟨#[]⟩), .int .i64 (packE none l)]) ∧ Below w.heap.size w w' := by
  obtain ⟨L, hL⟩ : ∃ L, L = l.length := ⟨_, rfl⟩
  obtain ⟨R, hR⟩ : ∃ R : ByteArray, R = (if packE none l = 0 then Wi.str (packB l) else ⟨#[]⟩) := ⟨_, rfl⟩
  obtain ⟨x, hx⟩ : ∃ x : Int, x = packE none l := ⟨_, rfl⟩
  rw [← hR, ← hx]
  have HQ : Hid (∀ (y : Int) (R' : ByteArray), packE none l = y → (if y = 0 then Wi.str (packB l) else ⟨#[]⟩) = R' → x = y ∧ R = R') := fun y R' hy hr => ⟨hx.trans hy, by rw [hR, hy, hr]⟩
  clear hR hx
  have K0 := hide (wi_new w)
  have HP := hide h
  have hLi : ¬ (256 : Int) < (L : Int) := by omega
  have HL := hide (And.intro hL hl)
  rw [← hL]
  clear h hl hL
  go_enter Tryz.func7, Tryz.ntmps7
  go_wp2_with fail
  refine (unhide K0).mono ?_
  rintro e W1 ⟨rfl, I1⟩
  have K1 := hide (wi_list I1 L (by have := (unhide HL); omega) (by simp))
  obtain ⟨bw, hbw⟩ : ∃ b, b = w.heap.size := ⟨_, rfl⟩
  rw [← hbw] at K1 ⊢
  have Hbw := hide hbw
  clear K0 I1 hbw
  go_wp2_with fail
  refine (unhide K1).mono ?_
  rintro e W2 ⟨rfl, sv2, I2⟩
  have HI := hide I2
  clear K1 I2
  go_wp2_with fail
  go_loopw [17] (fun iv wr => ∃ (i : Nat), i ≤ L ∧ iv = .int .i64 (i : Int) ∧ Hid ((∃ sv, WI w wr bw sv (Wi.enc L ++ body (l.take i))) ∧ packE none l = packE (prevAt l i) (l.drop i) ∧ ∀ p ∈ l.take i, p.n.size ≤ 65536 ∧ p.t.size ≤ 65536)) (fun iv _ => (L - intOf iv).toNat)
  case atStart => exact ⟨0, by omega, rfl, ⟨sv2, by simpa [body] using unhide HI⟩, by simp [prevAt], by simp⟩
  case round =>
    clear HI
    obtain ⟨i, hi, rfl, HR⟩ := hrel
    by_cases hlt : i < L
    · obtain ⟨p, hp⟩ : ∃ p, l[i]? = some p := ⟨_, List.getElem?_eq_getElem (by have := (unhide HL).1; omega)⟩
      obtain ⟨b, off, ha, hcell⟩ := (unhide HP).get hp
      subst ha
      obtain ⟨⟨sv, I⟩, hE, hT⟩ := unhide HR
      obtain ⟨p0, p1, p2⟩ := hcell wr I.1
      obtain ⟨f1, f2⟩ := (unhide HP).fit p (List.mem_of_getElem? hp)
      obtain ⟨X, hX⟩ : ∃ X, X = wr.alloc (.cells #[.string p.n, .string p.t, .bool p.g] 48) := ⟨_, rfl⟩
      have KT := hide (tooLong_any p X f1 f2)
      unfold pairV at KT
      have qX : X.heap[wr.heap.size]? = some (.cells #[.string p.n, .string p.t, .bool p.g] 48 (0, 0)) := by rw [hX]; exact heap_alloc_new _ _
      have IX := I.bw (show Below wr.heap.size wr X by rw [hX]; exact bw_alloc _ _)
      have x0 : X.cell? ⟨wr.heap.size, 0, none⟩ = some (.string p.n) := by simp [World.cell?, qX]
      have x1 : X.cell? ⟨wr.heap.size, 1, none⟩ = some (.string p.t) := by simp [World.cell?, qX]
      have x2 : X.cell? ⟨wr.heap.size, 2, none⟩ = some (.bool p.g) := by simp [World.cell?, qX]
      have HXe := hide hX
      have hii : (i : Int) < (L : Int) := by omega
      have HSV := hide I.lt
      have HI := hide (And.intro IX (And.intro qX (And.intro hE (And.intro hT hcell))))
      clear HR I hE hT hcell IX qX
      go_wp2_with fail
      rw [← unhide HXe]
      clear hX
      go_wp2_with fail
      refine (unhide KT).mono ?_
      rintro e Y ⟨rfl, bY⟩
      clear KT x0 x1 x2
      have HG : Hid (packE none l = if longB p = true then 3 else if p.g = true ∨ risesB (prevAt l i) p.n = false then 1 else packE (some p.n) (l.drop (i + 1))) := by
        rw [(unhide HI).2.2.1, drop_cons hp]; rfl
      have HL1 := hide bY
      have qY : Y.heap[wr.heap.size]? = some (.cells #[.string p.n, .string p.t, .bool p.g] 48 (0, 0)) := (bY.block _ (lt_of_blk (unhide HI).2.1)).trans (unhide HI).2.1
      have y0 : Y.cell? ⟨wr.heap.size, 0, none⟩ = some (.string p.n) := by simp [World.cell?, qY]
      have y1 : Y.cell? ⟨wr.heap.size, 1, none⟩ = some (.string p.t) := by simp [World.cell?, qY]
      have y2 : Y.cell? ⟨wr.heap.size, 2, none⟩ = some (.bool p.g) := by simp [World.cell?, qY]
      have HY := hide (And.intro qY bY)
      clear qY bY p0 p1 p2
      cases hlong : longB p
      · rw [hlong, if_neg (by simp)] at HG
        cases hg : p.g
        · rw [hg] at y2
          have HN : Hid (∀ V, Below Y.heap.size Y V → V.cell? ⟨wr.heap.size, 0, none⟩ = some (.string p.n) ∧ V.cell? ⟨wr.heap.size, 1, none⟩ = some (.string p.t)) := fun V hV => by
            have q' : V.heap[wr.heap.size]? = _ := (hV.block _ (lt_of_blk (unhide HY).1)).trans (unhide HY).1
            exact ⟨by simp [World.cell?, q'], by simp [World.cell?, q']⟩
          have hsz : p.n.size ≤ 65536 ∧ p.t.size ≤ 65536 := by
            simp only [longB, Bool.or_eq_false_iff, decide_eq_false_iff_not] at hlong; omega
          have HF : Hid (∀ V, Below Y.heap.size Y V → WI w V bw sv (Wi.enc L ++ body (l.take i)) ∧ (Wi.enc L ++ body (l.take i)).length ≤ 100000000) := fun V hV => by
            refine ⟨(unhide HI).1.bw (bw_tr (unhide HL1) hV), ?_⟩
            have h1 := body_len (l.take i) (unhide HI).2.2.2.1
            have h2 := Wi.enc_length (L : Int)
            have h3 : (l.take i).length ≤ 256 := by rw [List.length_take]; have := (unhide HL); omega
            have h4 := Nat.mul_le_mul_right 131100 h3
            rw [List.length_append]; omega
          have HS : Hid (∀ sv', ∀ V, WI w V bw sv' (Wi.enc L ++ body (l.take i) ++ tb p.n ++ tb p.t) → packE none l = packE (some p.n) (l.drop (i + 1)) → (∃ sv, WI w V bw sv (Wi.enc L ++ body (l.take (i + 1)))) ∧ packE none l = packE (prevAt l (i + 1)) (l.drop (i + 1)) ∧ ∀ p ∈ l.take (i + 1), p.n.size ≤ 65536 ∧ p.t.size ≤ 65536) := fun sv' V hV hE => by
            rw [take_snoc hp, body_snoc, prevAt_succ hp]
            refine ⟨⟨sv', by simpa [pb] using hV⟩, hE, fun q hq => ?_⟩
            rcases List.mem_append.1 hq with hq | hq
            · exact (unhide HI).2.2.2.1 q hq
            · simp at hq; subst hq; exact hsz
          have KX1 := hide (fun V hV => wi_text ((unhide HF) V hV).1 p.n hsz.1 (by have := ((unhide HF) V hV).2; omega))
          have KX2 := hide (fun V sv' (hV : WI w V bw sv' (Wi.enc L ++ body (l.take i) ++ tb p.n)) => wi_text hV p.t hsz.2 (by have := ((unhide HF) Y (Below.refl _ _)).2; have := tb_len p.n; have := hsz.1; rw [List.length_append]; omega))
          have HB := hide (bw_tr (unhide HI).1.1 (unhide HL1))
          rw [hg] at HG
          by_cases h0 : i = 0
          · subst h0
            have hz : risesB (prevAt l 0) p.n = true := rfl
            rw [if_neg (by rw [hz]; simp)] at HG
            clear HI HL1 HF
            go_wp2_with fail
            go_quiet (fail)
            all_goals
              obtain ⟨V, hV⟩ : ∃ V, V = Y.drewN nq := ⟨_, rfl⟩
              have bV : Below Y.heap.size Y V := by rw [hV]; exact below_drewN (Below.refl _ _) _
              rw [← hV]
              clear hV
              obtain ⟨v0, v1⟩ := unhide HN V bV
              have K1 := hide (unhide KX1 V bV)
              have qV : V.heap[wr.heap.size]? = some (.cells #[.string p.n, .string p.t, .bool p.g] 48 (0, 0)) := (bV.block _ (lt_of_blk (unhide HY).1)).trans (unhide HY).1
              have HQV := hide qV
              clear qV
              go_wp2_with fail
              refine (unhide K1).mono ?_
              rintro e V1 ⟨rfl, ⟨sv1, J1⟩, fV⟩
              have q1 : V1.heap[wr.heap.size]? = some (.cells #[.string p.n, .string p.t, .bool p.g] 48 (0, 0)) := (fV _ (lt_of_blk (unhide HQV)) (by have := (unhide HSV).1; omega) (fun c => by have := (unhide HSV).2 _ c; omega)).trans (unhide HQV)
              have z1 : V1.cell? ⟨wr.heap.size, 1, none⟩ = some (.string p.t) := by simp [World.cell?, q1]
              have K2 := hide (unhide KX2 V1 sv1 J1)
              clear K1 J1 fV q1 v0 v1 y0 y1 y2
              go_wp2_with fail
              refine (unhide K2).mono ?_
              rintro e V2 ⟨rfl, ⟨sv2', J2⟩, -⟩
              have HJ := hide (unhide HS sv2' V2 J2 (unhide HG))
              clear K2 J2
              go_wp2_with fail
              go_roundw
              case rel => exact ⟨_, by omega, by go_num, HJ⟩
              case measure => simp only [intOf]; omega
          · obtain ⟨q, hq⟩ : ∃ q, l[i - 1]? = some q := ⟨_, List.getElem?_eq_getElem (by have := (unhide HL).1; omega)⟩
            obtain ⟨b', off', ha', hcell'⟩ := (unhide HP).get hq
            obtain ⟨rfl, rfl⟩ : b = b' ∧ off = off' := by simpa using ha'
            obtain ⟨n0, -, -⟩ := hcell' Y (unhide HB)
            obtain ⟨j, hj⟩ : ∃ j, j = i - 1 := ⟨_, rfl⟩
            rw [← hj] at n0
            have e1 : (i : Int) - 1 = (j : Int) := by omega
            have e2 : wrap64 ((i : Int) - 1) = (j : Int) := by unfold wrap64; omega
            have e3 : IntKind.i64.wrap (j : Int) = (j : Int) := wrap_i64 (by omega) (by omega)
            have e4 : (j : Int) < (L : Int) := by omega
            have e5 : decide ((0 : Int) < (i : Int)) = true := decide_eq_true (by omega)
            have e6 : decide (0 < i) = true := decide_eq_true (by omega)
            have e7 : (0 : Int) < (i : Int) := by omega
            have hpr : prevAt l i = some q.n := by unfold prevAt; rw [if_neg h0, hq]; rfl
            have hcmp := cmp_rises q.n p.n
            rw [← hpr] at hcmp
            clear hpr hcell' ha' hq hj
            cases hz : risesB (prevAt l i) p.n
            · rw [hz] at hcmp
              rw [hz, if_pos (Or.inr rfl)] at HG
              obtain ⟨rfl, rfl⟩ := unhide HQ 1 ⟨#[]⟩ (unhide HG) rfl
              simp only [Bool.not_false] at hcmp
              clear HI HY HL1 HF HG HQ HS KX1 KX2 HN
              go_wp2_with fail
              go_quiet (fail)
              all_goals
                go_wp2_with fail
                go_ret2
                exact ⟨rfl, below_drewN (unhide HB) _⟩
            · rw [hz] at hcmp
              rw [hz, if_neg (by simp)] at HG
              simp only [Bool.not_true] at hcmp
              clear HI HL1 HF
              go_wp2_with fail
              go_quiet (fail)
              all_goals
                obtain ⟨V, hV⟩ : ∃ V, V = Y.drewN nq := ⟨_, rfl⟩
                have bV : Below Y.heap.size Y V := by rw [hV]; exact below_drewN (Below.refl _ _) _
                rw [← hV]
                clear hV
                obtain ⟨v0, v1⟩ := unhide HN V bV
                have K1 := hide (unhide KX1 V bV)
                have qV : V.heap[wr.heap.size]? = some (.cells #[.string p.n, .string p.t, .bool p.g] 48 (0, 0)) := (bV.block _ (lt_of_blk (unhide HY).1)).trans (unhide HY).1
                have HQV := hide qV
                clear qV
                go_wp2_with fail
                refine (unhide K1).mono ?_
                rintro e V1 ⟨rfl, ⟨sv1, J1⟩, fV⟩
                have q1 : V1.heap[wr.heap.size]? = some (.cells #[.string p.n, .string p.t, .bool p.g] 48 (0, 0)) := (fV _ (lt_of_blk (unhide HQV)) (by have := (unhide HSV).1; omega) (fun c => by have := (unhide HSV).2 _ c; omega)).trans (unhide HQV)
                have z1 : V1.cell? ⟨wr.heap.size, 1, none⟩ = some (.string p.t) := by simp [World.cell?, q1]
                have K2 := hide (unhide KX2 V1 sv1 J1)
                clear K1 J1 fV q1 v0 v1 y0 y1 y2
                go_wp2_with fail
                refine (unhide K2).mono ?_
                rintro e V2 ⟨rfl, ⟨sv2', J2⟩, -⟩
                have HJ := hide (unhide HS sv2' V2 J2 (unhide HG))
                clear K2 J2
                go_wp2_with fail
                go_roundw
                case rel => exact ⟨_, by omega, by go_num, HJ⟩
                case measure => simp only [intOf]; omega
        · rw [hg] at y2
          rw [hg, if_pos (Or.inl rfl)] at HG
          have HB := hide (bw_tr (unhide HI).1.1 (unhide HL1))
          obtain ⟨rfl, rfl⟩ := unhide HQ 1 ⟨#[]⟩ (unhide HG) rfl
          clear HI HY HL1 HG HQ
          go_wp2_with fail
          go_quiet (fail)
          all_goals
            go_wp2_with fail
            go_ret2
            exact ⟨rfl, below_drewN (unhide HB) _⟩
      · rw [hlong, if_pos rfl] at HG
        have HB := hide (bw_tr (unhide HI).1.1 (unhide HL1))
        obtain ⟨rfl, rfl⟩ := unhide HQ 3 ⟨#[]⟩ (unhide HG) rfl
        clear HI HY HL1 HG HQ
        go_wp2_with fail
        go_ret2
        exact ⟨rfl, unhide HB⟩
    · obtain rfl : i = L := by omega
      obtain ⟨⟨sv, I⟩, hE, hT⟩ := unhide HR
      have K3 := hide (wi_bytes I)
      have hLl := (unhide HL).1
      have e1 : l.drop i = [] := by rw [hLl]; exact List.drop_length
      have e2 : l.take i = l := by rw [hLl]; exact List.take_length
      have HE : Hid (packE none l = 0 ∧ Wi.enc (i : Int) ++ body (l.take i) = packB l) := ⟨by rw [hE, e1]; rfl, by rw [e2, hLl]; rfl⟩
      have HB := hide I.1
      obtain ⟨rfl, rfl⟩ := unhide HQ 0 (Wi.str (packB l)) (unhide HE).1 rfl
      rw [(unhide HE).2] at K3
      clear HR I hE hT hLl e1 e2 HQ HE
      go_wp2_with (first | (go_at_call 28; refine (unhide K3).mono ?_; rintro e w3 ⟨rfl, rfl⟩))
      go_ret2
      exact ⟨rfl, unhide HB⟩
/-- Pack. -/
theorem pack_any {w : World} {a : Option Addr} {cap : Nat} {l : List PP} (h : PrsAt w a l) : Calls Tryz.prog 7 #[.slice a l.length cap] w fun e w' => e = .returned (.tuple #[.string (packS l), .int .i64 (packX l)]) ∧ Below w.heap.size w w' := by
  by_cases c : 256 < l.length
  · have e1 : packX l = 3 := by unfold packX; rw [if_pos c]
    have e2 : packS l = ⟨#[]⟩ := by unfold packS; rw [e1]; rfl
    rw [e1, e2]
    refine (pack_many h c).mono ?_
    rintro e w' ⟨rfl, rfl⟩
    exact ⟨rfl, Below.refl _ _⟩
  · have e1 : packX l = packE none l := by unfold packX; rw [if_neg c]
    have e2 : packS l = if packE none l = 0 then Wi.str (packB l) else ⟨#[]⟩ := by unfold packS; rw [e1]; rfl
    rw [e1, e2]
    exact pack_few h (by omega)
end Go.Proofs.YtfnpeiikjiffeaaGreat
