/- Texts joined: StI StJ. -/
import Derived.Test.YtfnpeiikjiffeaaGreatBaM
/- The contracts of found and Open. -/
namespace Go.Proofs.YtfnpeiikjiffeaaGreat
open Go.RowKit Go.Maps

theorem make_map (n : Int) (w : World) : (Instr.makeMap 82 (some (.int .i64 n))).run Tryz.prog w = .ok (.map (some w.heap.size)) (w.alloc (.map #[] 0)) := by
  simp [Instr.makeMap, go_sem, run_underlying Tryz.underlying82, Result.andThen]
set_option maxRecDepth 100000 in
theorem found_zero {w W : World} {d : Nat} {S : DS} {rs : List Res} {jb : Nat} {t : ByteArray} (h : ED w W d S (jr jb d 0 t false :: rs)) :
    Calls Tryz.prog 41 #[.pointer (some ⟨jb, 0, none⟩)] W fun e W' => e = .returned (.tuple #[.slice none 0 0, .int .i64 0]) ∧ W' = W := by
  have KS := hide (jseq_any h)
  clear h
  go_enter Tryz.func41, Tryz.ntmps41
  go_wp2_with (first | (go_at_call 49; refine (unhide KS).mono ?_; rintro e w1 ⟨rfl, rfl⟩))
  go_ret2
  exact ⟨rfl, rfl⟩
set_option maxRecDepth 100000 in
theorem found_some {w W : World} {d : Nat} {S : DS} {rs : List Res} {jb n : Nat} {t : ByteArray} (h : ED w W d S (jr jb d n t false :: rs)) (hn : 0 < n) (hu : S.up = true) (ht : t.size ≤ 140737488355328) {l : List PP} (hl : unpackP t = some l) :
    Calls Tryz.prog 41 #[.pointer (some ⟨jb, 0, none⟩)] W fun e W' => ∃ v, e = .returned (.tuple #[v, .int .i64 0]) ∧ QRow W W' v l := by
  have KS := hide (jseq_any h)
  have KG := hide (get_any h)
  rw [if_neg (by simp [hu]), if_neg (by simp [hu])] at KG
  have KU := hide (unpack_any t W ht)
  have HL := hide hl
  have n1 : ¬ (n : Int) = 0 := by omega
  have n2 : ((n : Int) == 0) = false := by simp; omega
  have n3 : decide ((n : Int) = 0) = false := decide_eq_false n1
  clear h hn hu hl ht
  go_enter Tryz.func41, Tryz.ntmps41
  go_wp2_with (first | (go_at_call 49; refine (unhide KS).mono ?_; rintro e w1 ⟨rfl, rfl⟩) | (go_at_call 66; refine (unhide KG).mono ?_; rintro e w1 ⟨rfl, rfl⟩))
  refine (unhide KU).mono ?_
  rintro e W1 ⟨b1, ⟨hu, rfl⟩ | ⟨l', v, hu, rfl, hP, hn⟩⟩
  · exact absurd (hu.symm.trans (unhide HL)) (by simp)
  · obtain rfl : l' = l := by rw [unhide HL] at hu; simpa using hu.symm
    have HF := hide (And.intro b1 (And.intro hP hn))
    clear b1 hP hn hu KU KS KG
    go_wp2_with fail
    go_ret2
    exact ⟨v, rfl, (unhide HF).1, (unhide HF).2.1, (unhide HF).2.2⟩
theorem FZ_box {X Z : World} {mb k : Nat} {o : Obj} (g : X.drew.grownBy Z (some mb)) (h : X.heap[k]? = some o) (hk : k ≠ mb) : Z.heap[k]? = X.heap[k]? := g.block k (lt_of_blk (w := X) h) (fun c => by cases c; exact hk rfl)
/-- What a disk's text is of: the pairs m. -/
def Holds7 (n : Nat) (t : ByteArray) (m : MM) : Prop := (n = 0 ∧ m = MM.nil) ∨ (0 < n ∧ ∃ ns, Nm m ns ∧ Fits m ∧ ns.length ≤ 256 ∧ t = packT m ns)
/-- Open's loop: the Store is made, the first i pairs are in its map. -/
structure OI (W wr : World) (sb jb mb : Nat) (v : Value) (l : List PP) (i : Nat) : Prop where
  bel : Below W.heap.size W wr
  row : PRow wr v l
  pm : PMap wr mb (MM.nil.chg (l.take i)) i
  st : wr.heap[sb]? = some (sc jb mb false)
  m1 : W.heap.size ≤ mb
  s1 : W.heap.size ≤ sb
  ne : sb ≠ mb
set_option maxRecDepth 100000 in
set_option maxHeartbeats 8000000 in
theorem sopen_core {w W : World} {d : Nat} {S : DS} {rs : List Res} (E : ED w W d S rs) {n : Nat} {t : ByteArray} (hg : Good S n t) {l : List PP} (hf : ∀ jb W', ED w W' d S (jr jb d n t false :: rs) → Calls Tryz.prog 41 #[.pointer (some ⟨jb, 0, none⟩)] W' fun e W'' => ∃ v, e = .returned (.tuple #[v, .int .i64 0]) ∧ QRow W' W'' v l) (hl : l.length ≤ 256) (hfit : ∀ p ∈ l, p.n.size ≤ 65536 ∧ p.t.size ≤ 65536 ∧ p.g = false) :
    Calls Tryz.prog 14 #[.pointer (some ⟨d, 0, none⟩)] W fun e W' => ∃ sb, e = .returned (.tuple #[.pointer (some ⟨sb, 0, none⟩), .int .i64 0]) ∧ ES w W' d S sb n t (MM.nil.chg l) false false rs := by
  have K0 := hide (good_open E hg)
  have HF := hide (And.intro hf (And.intro hl hfit))
  have hmm := make_map
  clear E hf hl hfit
  go_enter Tryz.func14, Tryz.ntmps14
  go_wp2_with fail
  refine (unhide K0).mono ?_
  rintro e W1 ⟨jb, rfl, E1⟩
  have K1 := hide ((unhide HF).1 jb W1 E1)
  have HE1 := hide E1
  clear K0 E1
  go_wp2_with fail
  refine (unhide K1).mono ?_
  rintro e W2 ⟨v, rfl, hQ⟩
  obtain ⟨av, cv, hv⟩ := hQ.row.form
  subst hv
  have HQ := hide hQ
  obtain ⟨L, hL⟩ : ∃ L, L = l.length := ⟨_, rfl⟩
  rw [← hL] at HQ ⊢
  have HL := hide hL
  have hLi : (L : Int) ≤ 256 := by have := (unhide HF).2.1; omega
  clear K1 hQ hL
  go_wp2_with fail
  clear hmm
  obtain ⟨mb, hmb⟩ : ∃ mb, mb = W2.heap.size := ⟨_, rfl⟩
  obtain ⟨sb, hsb⟩ : ∃ sb, sb = W2.heap.size + 1 := ⟨_, rfl⟩
  obtain ⟨X0, hX0⟩ : ∃ X0, X0 = (W2.alloc (.map #[] 0)).alloc (.cells #[.pointer (some ⟨jb, 0, none⟩), .map (some W2.heap.size), .bool false] 84) := ⟨_, rfl⟩
  have HI0 : Hid (OI W1 X0 sb jb mb (.slice av L cv) l 0) := by
    have hQ := unhide HQ
    have b1 : Below W2.heap.size W2 X0 := by rw [hX0]; exact bw_tr (bw_alloc _ _) (bw_alloc _ _)
    have hz := hQ.bel.size
    refine ⟨bw_tr hQ.bel b1, hQ.row.bw b1, ?_, ?_, by omega, by omega, by omega⟩
    · rw [hmb, hX0]; exact (PMap.made W2).bw (bw_alloc _ _)
    · rw [hsb, hX0, hmb]
      have := heap_alloc_new (W2.alloc (.map #[] 0)) (.cells #[.pointer (some ⟨jb, 0, none⟩), .map (some W2.heap.size), .bool false] 84)
      simpa [sc] using this
  rw [← hX0, ← hsb, ← hmb]
  clear hX0 hsb hmb HQ
  go_loopw [33] (fun iv wr => ∃ i : Nat, i ≤ L ∧ iv = .int .i64 (i : Int) ∧ Hid (OI W1 wr sb jb mb (.slice av L cv) l i)) (fun iv _ => (L - intOf iv).toNat)
  case atStart => exact ⟨0, by omega, rfl, HI0⟩
  case round =>
    clear HI0
    obtain ⟨i, hi, rfl, HR⟩ := hrel
    by_cases hlt : i < L
    · obtain ⟨p, hp⟩ : ∃ p, l[i]? = some p := ⟨_, List.getElem?_eq_getElem (by have := unhide HL; omega)⟩
      have I := unhide HR
      obtain ⟨f1, f2, hgo⟩ := (unhide HF).2.2 p (List.mem_of_getElem? hp)
      have hA : PrsAt wr av l := by
        have hr := I.row
        rw [unhide HL] at hr
        exact hr.prs (by have := (unhide HF).2.1; omega) (fun x hx => by have := (unhide HF).2.2 x hx; omega)
      obtain ⟨b, off, ha, hcell⟩ := hA.get hp
      subst ha
      obtain ⟨p0, p1, p2⟩ := hcell wr (Below.refl _ _)
      rw [hgo] at p2
      obtain ⟨X, hX⟩ : ∃ X, X = wr.alloc (.cells #[.string p.n, .string p.t, .bool false] 48) := ⟨_, rfl⟩
      have qX : X.heap[wr.heap.size]? = some (.cells #[.string p.n, .string p.t, .bool false] 48 (0, 0)) := by rw [hX]; exact heap_alloc_new _ _
      have bX : Below wr.heap.size wr X := by rw [hX]; exact bw_alloc _ _
      have hstl := lt_of_blk I.st
      have hpml := I.pm.lt
      have st2 : X.heap[sb]? = some (sc jb mb false) := (bX.block _ hstl).trans I.st
      have bXd : Below wr.heap.size wr X.drew := bw_tr bX (bw_drew X)
      obtain ⟨Z, r2, P2, g2⟩ := (I.pm.bw bXd).store (by have := (unhide HF).2.1; have := unhide HL; omega) p hgo (by omega)
      have FZ : Fr [mb] wr Z := (Fr.ofBelow bXd).trans (T := [mb]) (Fr.ofGrown g2) (fun _ _ c => by cases c) (fun _ _ c => by simpa using c)
      have HN : Hid (OI W1 Z sb jb mb (.slice (some ⟨b, off, none⟩) L cv) l (i + 1)) := by
        refine ⟨Fr.toBase I.bel FZ (by intro x hx; simp at hx; subst hx; exact I.m1), ?_, ?_, ?_, I.m1, I.s1, I.ne⟩
        · refine I.row.keep (fun k hk => FZ.block k (World.ownsRow.lt I.row k hk).2 ?_)
          intro c
          have c : k = mb := by simpa using c
          subst c
          obtain ⟨cur, hc⟩ := own_kind I.row hk
          obtain ⟨es, clock, hb⟩ := I.pm.block
          rw [hb] at hc; cases hc
        · rw [chg_take hp]; exact P2
        · rw [FZ.block sb hstl (by simpa using I.ne)]; exact I.st
      unfold pairV at r2
      rw [hgo] at r2
      have HC : Hid (∀ Y : World, Y.heap[wr.heap.size]? = X.heap[wr.heap.size]? → Y.heap[sb]? = X.heap[sb]? → Y.cell? ⟨sb, 1, none⟩ = some (.map (some mb)) ∧ Y.cell? ⟨wr.heap.size, 0, none⟩ = some (.string p.n) ∧ Y.cell? ⟨wr.heap.size, 1, none⟩ = some (.string p.t) ∧ Y.cell? ⟨wr.heap.size, 2, none⟩ = some (.bool false)) := fun Y h1 h2 => by
        rw [qX] at h1; rw [st2] at h2
        refine ⟨(sc_cells h2).2.1, ?_, ?_, ?_⟩ <;> simp [World.cell?, h1]
      have pX := unhide HC X rfl rfl
      have pD := unhide HC X.drew rfl rfl
      have pZ := unhide HC Z (by rw [FZ_box g2 qX (by omega)]) (by rw [g2.block sb (Nat.lt_of_lt_of_le hstl bXd.size) (fun c => by cases c; exact I.ne rfl)]; rfl)
      have hii : (i : Int) < (L : Int) := by omega
      have HXe := hide hX
      clear I hA hcell qX bX hstl hpml st2 bXd P2 g2 FZ HR HC
      go_wp2_with fail
      rw [← unhide HXe]
      clear hX
      obtain ⟨x0, x1, x2, x3⟩ := pX
      obtain ⟨y0, y1, y2, y3⟩ := pD
      go_region_held3 (fun w' : World => w'.cell? ⟨sb, 1, none⟩ = some (.map (some mb)) ∧ w'.cell? ⟨wr.heap.size, 0, none⟩ = some (.string p.n) ∧ w'.cell? ⟨wr.heap.size, 1, none⟩ = some (.string p.t) ∧ w'.cell? ⟨wr.heap.size, 2, none⟩ = some (.bool false)) (first | exact ⟨x0, x1, x2, x3⟩ | exact ⟨y0, y1, y2, y3⟩ | exact pZ) (fail)
      all_goals
        clear x0 x1 x2 x3 y0 y1 y2 y3 pZ r2
        go_wp2_with fail
        go_roundw
        case rel => exact ⟨i + 1, by omega, by go_num, HN⟩
        case measure => simp only [intOf]; omega
    · obtain rfl : i = L := by omega
      have I := unhide HR
      have e1 : l.take i = l := by rw [unhide HL]; exact List.take_length
      have hpm := I.pm
      rw [e1] at hpm
      have E2 := (unhide HE1).new I.bel
      have HFin : Hid (ES w wr d S sb n t (MM.nil.chg l) false false rs) := by
        obtain ⟨Z, hEnv⟩ := unhide HE1
        refine ⟨jb, mb, Z, ?_⟩
        have h1 : Env w wr (resM mb (MM.nil.chg l) 256 :: resD d S Z :: jr jb d n t false :: rs) := hEnv.add (resM mb (MM.nil.chg l) 256) I.bel (hpm.mono (by have := (unhide HF).2.1; have := unhide HL; omega)) (fun x hx => by simp [resM] at hx; subst hx; exact I.m1)
        have h2 : Env w wr (sR sb jb mb false :: resM mb (MM.nil.chg l) 256 :: resD d S Z :: jr jb d n t false :: rs) := by
          refine h1.addOld (sR sb jb mb false) ?_ ?_ ?_
          · intro q hq; simp at hq; subst hq; exact I.st
          · intro x hx; simp [sR, resBs] at hx; subst hx; have := (unhide HE1).bel.size; have := I.s1; omega
          · intro r hr x hx c
            simp [sR, resBs] at hx; subst hx
            rcases List.mem_cons.1 hr with rfl | hr
            · simp [resM] at c; exact I.ne c
            · have := r.lt W1 (hEnv.hold r hr) _ c; have := I.s1; omega
        exact h2.perm (by
          refine List.Perm.trans (List.Perm.cons _ (List.Perm.swap _ _ _)) ?_
          refine List.Perm.trans (List.Perm.swap _ _ _) (List.Perm.cons _ ?_)
          refine List.Perm.trans (List.Perm.cons _ (List.Perm.swap _ _ _)) ?_
          exact List.Perm.swap _ _ _)
      clear I hpm E2 HR e1
      go_wp2_with fail
      go_ret2
      exact ⟨sb, rfl, unhide HFin⟩
end Go.Proofs.YtfnpeiikjiffeaaGreat

/- A Store with its disk, as one thing; Open and Change where nothing is cut. -/
namespace Go.Proofs.YtfnpeiikjiffeaaGreat
open Go.RowKit Go.Maps

theorem room_le {S : DS} (h : S.ok) : room6 S ≤ 131072 := by have := h.n2; unfold room6; omega
theorem sopen_any {w W : World} {d : Nat} {S : DS} {rs : List Res} (E : ED w W d S rs) {n : Nat} {t : ByteArray} (hg : Good S n t) {m : MM} (hm : Holds7 n t m) :
    Calls Tryz.prog 14 #[.pointer (some ⟨d, 0, none⟩)] W fun e W' => ∃ sb, e = .returned (.tuple #[.pointer (some ⟨sb, 0, none⟩), .int .i64 0]) ∧ ES w W' d S sb n t m false false rs := by
  rcases hm with ⟨rfl, rfl⟩ | ⟨hn, ns, h1, h2, h3, rfl⟩
  · refine sopen_core E hg (l := []) ?_ (by simp) (by simp)
    intro jb W' E'
    refine (found_zero E').mono ?_
    rintro e W'' ⟨rfl, rfl⟩
    exact ⟨_, rfl, Below.refl _ _, prow_nil _, fun k hk => by cases hk⟩
  · have hx := packT_x h1 h2 h3
    have hsz := hg.r
    have := room_le E.ok
    have hu : unpackP (packT m ns) = some (pairsOf m ns) := unpackP_pack hx
    have K := sopen_core E hg (l := pairsOf m ns) (fun jb W' E' => found_some E' hn hg.up (by omega) hu) (by simp [pairsOf]; exact h3) (pairsOf_fit h1 h2)
    rw [pairsOf_chg h1] at K
    exact K
/-- A Store with its disk. -/
structure SX where
  d : Nat
  sb : Nat
  jb : Nat
  mb : Nat
  n : Nat
  S : DS
  Z : List Nat
  t : ByteArray
  m : MM
def SX.res (x : SX) : List Res := [resD x.d x.S x.Z, jr x.jb x.d x.n x.t false, sR x.sb x.jb x.mb false, resM x.mb x.m 256]
structure SX.ok (x : SX) (N c : Nat) : Prop where
  good : Good x.S x.n x.t
  hold : Holds7 x.n x.t x.m
  cut : x.S.cut = none
  N : x.S.N = N
  cnt : x.S.cnt ≤ c
  fits : Fits x.m
theorem SX.solid (x : SX) : ∀ r ∈ x.res, Solid r := by
  intro r hr
  simp only [SX.res, List.mem_cons, List.not_mem_nil, or_false] at hr
  rcases hr with rfl | rfl | rfl | rfl
  · exact solid_D _ _ _
  · exact jr_solid _ _ _ _ _
  · exact sR_solid _ _ _ _
  · exact solid_M _ _ _
theorem SX.es {x : SX} {w W : World} {rs : List Res} (h : Env w W (x.res ++ rs)) : ES w W x.d x.S x.sb x.n x.t x.m false false rs := ⟨x.jb, x.mb, x.Z, h⟩
theorem ES.sx {w W : World} {d : Nat} {S : DS} {sb n : Nat} {t : ByteArray} {m : MM} {rs : List Res} (h : ES w W d S sb n t m false false rs) : ∃ x : SX, Env w W (x.res ++ rs) ∧ x.d = d ∧ x.S = S ∧ x.sb = sb ∧ x.n = n ∧ x.t = t ∧ x.m = m := by
  obtain ⟨jb, mb, Z, h⟩ := h
  exact ⟨⟨d, sb, jb, mb, n, S, Z, t, m⟩, h, rfl, rfl, rfl, rfl, rfl, rfl⟩
theorem SX.ok.mono {x : SX} {N c c' : Nat} (h : x.ok N c) (hc : c ≤ c') : x.ok N c' := ⟨h.good, h.hold, h.cut, h.N, Nat.le_trans h.cnt hc, h.fits⟩
def roomN (N : Nat) : Nat := (N - 2) / 2 * 64
theorem SX.ok.room {x : SX} {N c : Nat} (h : x.ok N c) : room6 x.S = roomN N := by unfold room6 roomN; rw [h.N]
/-- Open of a disk that was made just now. -/
theorem sx_open {w W : World} {d : Nat} {N : Nat} {rs : List Res} (E : ED w W d (DS.new N) rs) (hN : 4 ≤ N) :
    Calls Tryz.prog 14 #[.pointer (some ⟨d, 0, none⟩)] W fun e W' => ∃ x : SX, e = .returned (.tuple #[.pointer (some ⟨x.sb, 0, none⟩), .int .i64 0]) ∧ Env w W' (x.res ++ rs) ∧ x.ok N 0 ∧ x.d = d ∧ x.n = 0 ∧ x.m = MM.nil := by
  refine (sopen_any E (good_new hN) (m := MM.nil) (Or.inl ⟨rfl, rfl⟩)).mono ?_
  rintro e W' ⟨sb, rfl, hE⟩
  obtain ⟨x, h1, h2, h3, h4, h5, h6, h7⟩ := hE.sx
  refine ⟨x, by rw [h4], h1, ⟨?_, ?_, by rw [h3]; rfl, by rw [h3]; rfl, by rw [h3]; exact Nat.le_refl _, by rw [h7]; exact fits_nil⟩, h2, h5, h7⟩
  · rw [h3, h5, h6]; exact good_new hN
  · rw [h5, h6, h7]; exact Or.inl ⟨rfl, rfl⟩
theorem costN_le {s : ByteArray} {r : Nat} (h : s.size ≤ r) (hr : r ≤ 131072) : costN s.size ≤ 5000 := by rw [costN_rnds]; unfold rnds; omega
/-- Change where nothing is cut. -/
theorem sx_change {w W : World} {x : SX} {rs : List Res} {N c : Nat} (h : Env w W (x.res ++ rs)) (hok : x.ok N c) (hsol : ∀ r ∈ rs, Solid r) (hn : x.n ≤ 1000) (hc : c ≤ 500000) {a : Option Addr} {cap : Nat} {l : List PP} (hl : PrsAt W a l) (hlen : l.length ≤ 262144) :
    Calls Tryz.prog 15 #[.pointer (some ⟨x.sb, 0, none⟩), .slice a l.length cap] W fun e W' => ∃ (y : Int) (x' : SX), e = .returned (.int .i64 y) ∧ Env w W' (x'.res ++ rs) ∧ x'.ok N (c + 5000) ∧ x'.d = x.d ∧ x'.sb = x.sb ∧
      ((¬ Okay x.m l (roomN N) ∧ y ≠ 0 ∧ (chgE [] l ≠ 0 → y = chgE [] l) ∧ x'.m = x.m ∧ x'.n = x.n) ∨ (Okay x.m l (roomN N) ∧ y = 0 ∧ x'.m = x.m.chg l ∧ x'.n = x.n + 1)) := by
  have hE := SX.es h
  have hcnt := hok.cnt
  have hrm := room_le (S := x.S) (hE.ed.ok)
  refine (change_any hE hok.good.up hok.good.N4 hok.fits hsol hl hlen (P0 := fun T S' => Good S' (x.n + 1) T ∧ S'.cut = none ∧ S'.cnt ≤ x.S.cnt + 5000 ∧ S'.N = x.S.N) (P6 := fun _ => False) ?_).mono ?_
  · intro ns h1 h2 h3 jb rs' W' hs E'
    refine (good_put E' hs hok.good hok.cut (by omega) _ h3 (by omega)).mono ?_
    rintro e W'' ⟨S', rfl, g1, g2, g3, g4, g5⟩
    exact ⟨0, rfl, Or.inl ⟨rfl, S', ⟨g1, g2, by rw [g3]; have := costN_le h3 hrm; omega, g4⟩, g5⟩⟩
  · rintro e W' ⟨y, rfl, ⟨hb, hy, hye, -, hS⟩ | ⟨hb, rfl, S', ns, h1, h2, h3, ⟨g1, g2, g3, g4⟩, hS⟩ | ⟨_, _, _, _, _, _, hF, _⟩⟩
    · obtain ⟨x', q1, q2, q3, q4, q5, q6, q7⟩ := hS.sx
      refine ⟨y, x', rfl, q1, ⟨by rw [q3, q5, q6]; exact hok.good, by rw [q5, q6, q7]; exact hok.hold, by rw [q3]; exact hok.cut, by rw [q3]; exact hok.N, by rw [q3]; omega, by rw [q7]; exact hok.fits⟩, q2, q4, Or.inl ⟨by rw [← hok.room]; exact hb, hy, hye, q7, q5⟩⟩
    · obtain ⟨x', q1, q2, q3, q4, q5, q6, q7⟩ := hS.sx
      have hfit : Fits (x.m.chg l) := hok.fits.chg (fun p hp => ((chgE_iff.1 hb.1).1 p hp).1)
      refine ⟨0, x', rfl, q1, ⟨by rw [q3, q5, q6]; exact g1, by rw [q5, q6, q7]; exact Or.inr ⟨by omega, ns, h1, hfit, h2, rfl⟩, by rw [q3]; exact g2, by rw [q3, g4]; exact hok.N, by rw [q3]; omega, by rw [q7]; exact hfit⟩, q2, q4, Or.inr ⟨by rw [← hok.room]; exact hb, rfl, q7, q5⟩⟩
    · exact hF.elim
end Go.Proofs.YtfnpeiikjiffeaaGreat
