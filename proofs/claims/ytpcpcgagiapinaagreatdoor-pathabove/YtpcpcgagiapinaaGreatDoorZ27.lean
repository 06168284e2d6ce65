/- Texts joined: PbI PbJ PcA PcB PcC. -/
import Derived.Test.YtpcpcgagiapinaaGreatDoorZ25
import Derived.Test.YtpcpcgagiapinaaGreatDoorZ26
import Derived.Test.YtpcpcgagiapinaaGreatDoorZ10
import Derived.Test.YtpcpcgagiapinaaGreatDoorZ24
/- What path.Make needs of a tree: its targets are nodes that are there. Trees of one's own as a thing. No walk is in this text. -/
namespace Go.Proofs.YtpcpcgagiapinaaGreatDoor.Tn.Pa
open Go.RowKit Go.Maps
theorem rsl_at {T : List Nd} (ok : Ok T) : ∀ x, x < T.length → ∀ z ∈ rsl T x, ∃ y : Nat, z = (y : Int) ∧ y < T.length ∧ Go.Proofs.YtpcpcgagiapinaaGreatDoor.pos (ndAt T y) = true := by
  obtain ⟨g1, g2, g3, g4, g5⟩ := ok.wd.facts
  have hnd := ok.nd
  rw [g2] at hnd ⊢
  have hpos : ∀ x, x < 2 * nlv T - 1 → Go.Proofs.YtpcpcgagiapinaaGreatDoor.pos (ndAt T x) = true → ∀ z ∈ rsl T x, ∃ y : Nat, z = (y : Int) ∧ y < 2 * nlv T - 1 ∧ Go.Proofs.YtpcpcgagiapinaaGreatDoor.pos (ndAt T y) = true := fun x hx hp z hz => by
    rw [rsl_pos hp] at hz
    rcases List.mem_cons.1 hz with rfl | hz
    · exact ⟨x, rfl, hx, hp⟩
    · obtain ⟨u, hu, rfl⟩ := List.mem_map.1 hz
      rcases ndM_un (hnd x hx) with e | ⟨_, _, e⟩
      · rw [e] at hu; simp at hu
      · obtain ⟨⟨s1, s2, s3, _⟩, _⟩ := span_of g1 hx
        have := (unM_bounds e).2 u hu
        exact ⟨2 * u.toNat, by omega, by omega, this.2.2⟩
  refine node_ind g1 (fun x hx ho => ?_) (fun x hx ho i1 i2 => ?_)
  · cases hp : Go.Proofs.YtpcpcgagiapinaaGreatDoor.pos (ndAt T x)
    · rw [rsl_leaf hp ho]; simp
    · exact hpos x hx hp
  · cases hp : Go.Proofs.YtpcpcgagiapinaaGreatDoor.pos (ndAt T x)
    · rw [rsl_par g1 hx hp ho]; intro z hz; rcases List.mem_append.1 hz with h | h
      · exact i1 z h
      · exact i2 z h
    · exact hpos x hx hp
theorem held_may {L : List Tm} {T : List Nd} (h : heldB L T = true) : mayB T = true := by unfold heldB at h; simp only [Bool.and_eq_true] at h; exact h.1
theorem held_thr {L : List Tm} {T : List Nd} (h : heldB L T = true) {x : Nat} (hx : x < T.length) (hp : Go.Proofs.YtpcpcgagiapinaaGreatDoor.pos (ndAt T x) = true) : thr L.length (ndAt T x).pub = true := by
  unfold heldB at h
  simp only [Bool.and_eq_true, List.all_eq_true, Bool.or_eq_true, decide_eq_true_eq] at h
  rcases h.2 _ (ndAt_mem hx) with c | c
  · unfold Go.Proofs.YtpcpcgagiapinaaGreatDoor.pos at hp; simp [c] at hp
  · exact c
theorem make_facts {L : List Tm} {T : List Nd} {i : Nat} {fl : List Int} (h : heldB L T = true) (hl : hasL T (i : Int) = true) :
    i ≤ 7 ∧ T.length ≤ 15 ∧ (pth T i).length ≤ 3 ∧ (tgt T i fl).length = (pth T i).length ∧ (∀ l ∈ tgt T i fl, l.length ≤ 72) ∧ (∀ l ∈ tgt T i fl, ∀ y ∈ l, 0 ≤ y ∧ y.toNat < T.length ∧ thr L.length (ndAt T y.toNat).pub = true) ∧ askE T (i : Int) = 0
    ∧ (((2 * i : Nat) : Int) :: pth T i).Nodup ∧ ∀ y ∈ pth T i, 0 ≤ y ∧ y.toNat < T.length ∧ y % 2 = 1 := by
  have hm := held_may h
  obtain ⟨h1, h2⟩ := hasL_pos hl
  have ok := mayB_okn hm (nlv_pos (by omega))
  obtain ⟨g1, g2, g3, g4, g5⟩ := ok.wd.facts
  obtain ⟨d1, d2, d3, d4, d5, d6⟩ := up_of g1 h1
  have d7 := up_len g1 h1
  have hpl := prs_len T i
  have hodd : ∀ y ∈ pth T i, ∃ x : Nat, y = x ∧ x ∈ upN (nlv T) i := fun y hy => by
    unfold pth at hy
    obtain ⟨p, hp, rfl⟩ := List.mem_map.1 hy
    exact ⟨p.1, rfl, (prs_mem hp).1⟩
  have hot : ∀ l ∈ oth T i, ∃ s, s < T.length ∧ l = rsl T s := fun l hl => by
    unfold oth at hl
    obtain ⟨p, hp, rfl⟩ := List.mem_map.1 hl
    obtain ⟨_, _, s, hs, e⟩ := prs_mem hp
    exact ⟨s, by have := d6 s (List.of_mem_zip hs).2; omega, e⟩
  have htg : ∀ l ∈ tgt T i fl, ∃ s, s < T.length ∧ ∃ f : Int → Bool, l = (rsl T s).filter f := fun l hl => by
    unfold tgt at hl
    obtain ⟨l', hl', rfl⟩ := List.mem_map.1 hl
    obtain ⟨s, hs, rfl⟩ := hot l' hl'
    exact ⟨s, hs, _, rfl⟩
  refine ⟨by omega, by omega, by unfold pth; rw [List.length_map]; omega, by unfold tgt oth pth; simp, fun l hl => ?_, fun l hl y hy => ?_, ?_, ?_, fun y hy => ?_⟩
  · obtain ⟨s, hs, f, rfl⟩ := htg l hl
    exact Nat.le_trans (List.length_filter_le _ _) (rsl_72 ok.wd ok.sm hs)
  · obtain ⟨s, hs, f, rfl⟩ := htg l hl
    obtain ⟨y, rfl, hy1, hy2⟩ := rsl_at ok s hs y (List.mem_filter.1 hy).1
    exact ⟨by omega, by simpa using hy1, by simpa using held_thr h hy1 hy2⟩
  · unfold askE; simp [hm, hl]
  · refine List.nodup_cons.2 ⟨fun c => ?_, ?_⟩
    · obtain ⟨x, hx, hu⟩ := hodd _ c
      have := (d5 x hu).2
      omega
    · unfold pth
      have hsub : ((prs T i).map fun p => (p.1 : Int)).Sublist ((upN (nlv T) i).map fun (x : Nat) => (x : Int)) := by
        have h1 : ((prs T i).map (·.1)).Sublist (upN (nlv T) i) := by
          unfold prs
          refine List.Sublist.trans (List.Sublist.map _ (List.filter_sublist)) ?_
          rw [List.map_map]
          have : ((fun x : Nat × List Int => x.1) ∘ fun p : Nat × Nat => (p.1, rsl T p.2)) = Prod.fst := rfl
          rw [this, List.map_fst_zip (by omega)]
          exact List.Sublist.refl _
        have h2 := h1.map (fun (x : Nat) => (x : Int))
        rw [List.map_map] at h2
        exact h2
      refine List.Sublist.nodup hsub ?_
      have hn := d4
      exact List.pairwise_map.2 (hn.imp (fun h c => h (by omega)))
  · obtain ⟨x, rfl, hu⟩ := hodd y hy
    have := d5 x hu
    exact ⟨by omega, by simp; omega, by omega⟩
def otrZ (v : Value) (us : List Value) : List Nat := v.ownBlock.toList ++ us.filterMap Value.ownBlock
theorem mem_otrZ {v : Value} {us : List Value} {x : Nat} : x ∈ otrZ v us ↔ v.ownBlock = some x ∨ ∃ (i : Nat) (u : Value), us[i]? = some u ∧ u.ownBlock = some x := by
  unfold otrZ
  rw [List.mem_append, List.mem_filterMap]
  constructor
  · rintro (h | ⟨u, hu, hk⟩)
    · exact Or.inl (by simpa using h)
    · obtain ⟨i, hi⟩ := List.mem_iff_getElem?.1 hu
      exact Or.inr ⟨i, u, hi, hk⟩
  · rintro (h | ⟨i, u, hu, hk⟩)
    · exact Or.inl (by simpa using h)
    · exact Or.inr ⟨u, List.mem_of_getElem? hu, hk⟩
theorem OTr.pickU {B : Nat} {w : World} {v : Value} {T : List Nd} {us : List Value} (h : OTr B w v T us) {i : Nat} {u : Value} (hu : us[i]? = some u) : ∃ n, T[i]? = some n ∧ Ints B w u n.un := by
  have hlt : i < T.length := by rw [← h.ul]; exact (List.getElem?_eq_some_iff.1 hu).1
  exact ⟨T[i], List.getElem?_eq_getElem hlt, h.un i _ u (List.getElem?_eq_getElem hlt) hu⟩
theorem OTr.ltZ {B : Nat} {w : World} {v : Value} {T : List Nd} {us : List Value} (h : OTr B w v T us) : ∀ x ∈ otrZ v us, B ≤ x ∧ x < w.heap.size := fun x hx => by
  rcases mem_otrZ.1 hx with c | ⟨i, u, hu, c⟩
  · exact World.ownsRow.lt h.row x c
  · obtain ⟨n, _, hn⟩ := OTr.pickU h hu
    exact World.ownsRow.lt hn x c
theorem OTr.keepZ {B : Nat} {w w' : World} {v : Value} {T : List Nd} {us : List Value} {S : List Nat} (h : OTr B w v T us) (hf : Fr S w w') (hd : ∀ x ∈ otrZ v us, x ∉ S) : OTr B w' v T us := by
  have kp : ∀ x ∈ otrZ v us, w'.heap[x]? = w.heap[x]? := fun x hx => hf.block x (OTr.ltZ h x hx).2 (hd x hx)
  exact ⟨h.ul, own_keep h.row (fun k hk => kp k (mem_otrZ.2 (Or.inl hk))), fun i n u hn hu => own_keep (h.un i n u hn hu) (fun k hk => kp k (mem_otrZ.2 (Or.inr ⟨i, u, hu, hk⟩))), h.apart⟩
def resT (v : Value) (T : List Nd) (us : List Value) : Res := ⟨otrZ v us, fun w => OTr 0 w v T us, fun _ _ _ h hf hd => OTr.keepZ h hf hd, fun _ h x hx => (OTr.ltZ h x hx).2⟩
theorem rfix_rr {B : Nat} {w : World} {b : Nat} {sv : Value} {mb : Nat} {L : List Tm} {v : Value} {ls : List (List Int)} {us : List Value} (h : RR B w v ls us) (hs : St w b sv mb L) : Rfix (fun W => Fr (foot b sv mb) w W) v ls := by
  obtain ⟨a, c, rfl⟩ := own_slice h.row
  refine ⟨a, c, rfl, fun q => ?_⟩
  obtain ⟨g, cp, e, hg, -⟩ := own_open h.row q
  simp only [Value.slice.injEq] at e
  obtain ⟨rfl, -, -⟩ := e
  refine ⟨g, 0, rfl, fun i l hl => ?_⟩
  have hlt : i < us.length := by rw [h.ul]; exact (List.getElem?_eq_some_iff.1 hl).1
  have hu : us[i]? = some us[i] := List.getElem?_eq_getElem hlt
  refine ⟨us[i], fun W hW => ?_, nfix_ints (h.un i l _ hl hu) hs⟩
  obtain ⟨cur, hb⟩ := own_kind h.row (k := g) rfl
  have h' : W.ownsRow B 27 1 (.slice (some ⟨g, 0, none⟩) ls.length c) ls.length us := own_keep h.row (fun k hk => by simp [Value.ownBlock] at hk; subst hk; rw [hW.block _ (lt_of_blk hb) (hs.notin hb (by decide) (by decide))])
  have := own_cell h' (g := g) rfl (j := i) hu
  rw [Nat.zero_add]
  exact this
def mkPl (T : List Nd) (i : Nat) : List Int := ((2 * i : Nat) : Int) :: pth T i
def mkT (T : List Nd) (i : Nat) (ee : Int) (p : List Tm × Nat) : List Nd := setT T i ee (((nrK (mkPl T i) p).2.2.getD 0 0 : Nat) : Int) (((nrK (mkPl T i) p).2.2.drop 1).map fun (x : Nat) => (x : Int))
theorem kpF_pubs (z : List (Nat × Int)) (L : List Tm) (hz : ∀ q ∈ z, 1 ≤ q.1 ∧ q.1 ≤ L.length) : ∀ i, i ≤ z.length → L.length + 2 * i + 2 ≤ 1048576 → (∀ x ∈ (kpF z L i).2.2, 1 ≤ x ∧ x ≤ (kpF z L i).1.length) ∧ (∀ k ∈ (kpF z L i).2.1, 1 ≤ k.2 ∧ k.2 ≤ (kpF z L i).1.length) ∧ (kpF z L i).2.1.map (·.1) = (z.take i).map (·.2)
  | 0, _, _ => by simp [kpF]
  | i + 1, hi, hl => by
    obtain ⟨h1, h2, h3⟩ := kpF_pubs z L hz i (by omega) (by omega)
    have hle := kpF_len z L i
    have hzi : z[i]? = some z[i] := List.getElem?_eq_getElem (by omega)
    have hg := hz z[i] (List.mem_of_getElem? hzi)
    have gd : Gd ((kpF z L i).1, (z[i]).1) := ⟨hg.1, by simp only; omega⟩
    have hk := key_gd gd (by simp only; omega)
    have hkl := key_len ((kpF z L i).1, (z[i]).1)
    simp only at hkl
    have hp : Gd (pub ((kpF z L i).1, (z[i]).1)) := gd_of (may_pb hk) (by omega)
    have hpl := mkL_le (key ((kpF z L i).1, (z[i]).1)).1 ⟨5, 0, ((key ((kpF z L i).1, (z[i]).1)).2 : Int), 0⟩
    have e : kpF z L (i + 1) = kpS (kpF z L i) z[i] := by simp only [kpF]; rw [getD_of hzi]
    rw [e]
    simp only [kpS]
    have hpe : (pub ((kpF z L i).1, (z[i]).1)).1.length = (mkL (key ((kpF z L i).1, (z[i]).1)).1 ⟨5, 0, ((key ((kpF z L i).1, (z[i]).1)).2 : Int), 0⟩).length := rfl
    refine ⟨fun x hx => ?_, fun k hk' => ?_, ?_⟩
    · rcases List.mem_append.1 hx with hx | hx
      · have := h1 x hx; omega
      · simp at hx; subst hx; exact hp
    · rcases List.mem_append.1 hk' with hx | hx
      · have := h2 k hx; omega
      · simp at hx; subst hx
        have h4 := hk.1; have h5 := hk.2
        simp only
        omega
    · rw [List.map_append, h3, List.take_add_one, hzi, List.map_append]
      rfl
theorem nrK_facts {T : List Nd} {i : Nat} {p : List Tm × Nat} (hg : Gd p) (hl : p.1.length + 1000 ≤ 1048575) (hpl : (mkPl T i).length ≤ 4) :
    (nrK (mkPl T i) p).2.1.length = (mkPl T i).length ∧ (nrK (mkPl T i) p).2.2.length = (mkPl T i).length ∧ (∀ x ∈ (nrK (mkPl T i) p).2.2, 1 ≤ x) ∧ (nrK (mkPl T i) p).2.1.map (·.1) = mkPl T i := by
  obtain ⟨pl, hpe⟩ : ∃ pl, pl = mkPl T i := ⟨_, rfl⟩
  rw [← hpe] at hpl ⊢
  have hle := kpF_len ((row p pl.length).zip pl) (sec p pl.length).1 pl.length
  have hsl := sec_len p pl.length
  have hr := row_rng hg pl.length (by omega)
  have hzl : ((row p pl.length).zip pl).length = pl.length := by rw [List.length_zip, row_len]; omega
  obtain ⟨h1, h2, h3⟩ := kpF_pubs ((row p pl.length).zip pl) (sec p pl.length).1 (fun q hq => hr q.1 (List.of_mem_zip hq).1) pl.length (by omega) (by omega)
  refine ⟨hle.2.2.1, hle.2.2.2, fun x hx => (h1 x hx).1, ?_⟩
  unfold nrK
  rw [h3, List.take_of_length_le (by omega), List.map_snd_zip (by rw [row_len]; omega)]
end Go.Proofs.YtpcpcgagiapinaaGreatDoor.Tn.Pa

/- The contract of path.Make, where it is not refused. -/
namespace Go.Proofs.YtpcpcgagiapinaaGreatDoor.Tn.Pa
open Go.RowKit Go.Maps
theorem trd_of_fix {F : World → Prop} {W : World} {v : Value} {T : List Nd} (h : Tfix F v T) (hW : F W) (h1 : T.length ≤ 140737488355328) (h2 : ∀ n ∈ T, n.un.length ≤ 140737488355328) : Trd W v T := by
  refine ⟨h1, h2, ?_⟩
  rcases h with h | ⟨g, o, c, us, e, hh⟩
  · exact Or.inl h
  · rcases Nat.eq_zero_or_pos T.length with q | q
    · have e0 := List.eq_nil_of_length_eq_zero q
      exact Or.inl ⟨e0, _, c, by rw [e, q]⟩
    · refine Or.inr ⟨g, o, c, e, lt_of_cell (hh W hW 0 q).1.c0, fun i n hi => ?_⟩
      have hlt := (List.getElem?_eq_some_iff.1 hi).1
      have e1 : ndAt T i = n := by have := ndAt_of hlt; rw [hi] at this; simpa using this.symm
      have := hh W hW i hlt
      rw [e1] at this
      exact ⟨us i, this⟩
theorem blk4c (w : World) (o1 o2 o3 o4 : Obj) : (((w.alloc o1).alloc o2).alloc o3).heap.size = w.heap.size + 3 ∧ Below w.heap.size w ((((w.alloc o1).alloc o2).alloc o3).alloc o4) :=
  ⟨by simp, ((((Below.refl _ _).alloc (Nat.le_refl _) _).alloc (by simp) _).alloc (by simp; omega) _).alloc (by simp; omega) _⟩
def mkO (b : Nat) (sv : Value) (mb : Nat) (T : List Nd) (i : Nat) (ee : Int) (fl : List Int) (p : List Tm × Nat) (r kv qv : Value) (us : List Value) : List Res :=
  [resS b sv mb (nrQ T (mkPl T i) (tgt T i fl) p).1, resT r (mkT T i ee p) us, resW 71 2 kv (nrK (mkPl T i) p).2.1.length (kysC (srt (nrK (mkPl T i) p).2.1)), resW 76 3 qv (nrQ T (mkPl T i) (tgt T i fl) p).2.length (slsC (nrQ T (mkPl T i) (tgt T i fl) p).2)]
set_option maxRecDepth 100000 in
set_option maxHeartbeats 8000000 in
theorem pMake_ok {b : Nat} {sv : Value} {mb : Nat} {w : World} (p : List Tm × Nat) (T : List Nd) (v fv : Value) (i : Nat) (ee : Int) (fl : List Int)
    (h : St w b sv mb p.1) (hg : Gd p) (hT : Tfix (fun W => Fr (foot b sv mb) w W) v T) (hTb : ∀ W, Fr (foot b sv mb) w W → Tab W) (hfv : Nums w fv fl) (hh : heldB p.1 T = true) (hL : hasL T (i : Int) = true) (he : 0 ≤ ee) (hl : p.1.length + 1000 ≤ 1048575) :
    Calls Tryz.prog 23 #[.pointer (some ⟨b, 0, none⟩), .agg #[v], .int .i64 (i : Int), .int .i64 ee, .int .i64 (p.2 : Nat), fv] w fun e w' => ∃ r kv qv us, e = .returned (.tuple #[.agg #[r], kv, qv, .int .i64 ((sec p (mkPl T i).length).2 : Nat), .int .i64 0]) ∧ ∃ sv', EF (foot b sv mb) w w' (mkO b sv' mb T i ee fl p r kv qv us) := by
  obtain ⟨m1, m2, m3, m4, m5, m6, m7, m8, m9⟩ := make_facts (fl := fl) hh hL
  have hun : ∀ n ∈ T, n.un.length ≤ 140737488355328 := fun n hn => by
    obtain ⟨j, hj⟩ := List.mem_iff_getElem?.1 hn
    have hlt := (List.getElem?_eq_some_iff.1 hj).1
    have ok := mayB_okn (held_may hh) (by omega)
    have e1 : ndAt T j = n := by have := ndAt_of hlt; rw [hj] at this; simpa using this.symm
    have := (ok.sm j hlt).1
    rw [e1] at this
    omega
  have HTD : Hid (∀ W, Fr (foot b sv mb) w W → Trd W v T ∧ Tab W) := fun W hW => ⟨trd_of_fix hT hW (by omega) hun, hTb W hW⟩
  obtain ⟨nf1, nf2, nf3, nf4⟩ := nrK_facts (T := T) (i := i) hg hl (by unfold mkPl; simp; omega)
  obtain ⟨ta, tc, rfl⟩ := hT.slice
  obtain ⟨fa, fc, rfl⟩ := nums_slice hfv
  obtain ⟨NT, hNT⟩ : ∃ NT, NT = T.length := ⟨_, rfl⟩
  obtain ⟨FL, hFL⟩ : ∃ FL, FL = fl.length := ⟨_, rfl⟩
  obtain ⟨A, hA⟩ : ∃ A, A = w.heap.size := ⟨_, rfl⟩
  obtain ⟨w0, hw0⟩ : ∃ w0, w0 = (((w.alloc (.cells #[.slice ta NT tc] 44)).alloc (.cells #[.int .i64 (i : Int)] 3)).alloc (.cells #[.int .i64 (p.2 : Nat)] 3)).alloc (.cells #[nilV] 44) := ⟨_, rfl⟩
  have e0 : EF (foot b sv mb) w w0 [resS b sv mb p.1, resC (A + 3) #[nilV] 44, resC (A + 2) #[.int .i64 (p.2 : Nat)] 3, resC (A + 1) #[.int .i64 (i : Int)] 3, resC A #[.slice ta NT tc] 44] := by
    have := ((((EF.one w (resS b sv mb p.1) h).newC #[.slice ta NT tc] 44).newC #[.int .i64 (i : Int)] 3).newC #[.int .i64 (p.2 : Nat)] 3).newC #[nilV] 44
    simp only [World.size_alloc] at this
    rw [hw0, hA]
    exact this.up 4 rfl
  have x0 : Below w.heap.size w w0 := by rw [hw0]; exact (blk4c w _ _ _ _).2
  have HC : Hid (∀ W, Below w0.heap.size w0 W → EF (foot b sv mb) w W [resS b sv mb p.1, resC (A + 3) #[nilV] 44, resC (A + 2) #[.int .i64 (p.2 : Nat)] 3, resC (A + 1) #[.int .i64 (i : Int)] 3, resC A #[.slice ta NT tc] 44]) := fun W hW => e0.new hW
  rw [← hNT, ← hFL]
  rw [← hNT] at hT HTD
  rw [← hFL] at hfv
  have KM := hide (hmissing_any (show St w0 b sv mb p.1 from e0.hd))
  have KP : Hid (∀ W, Below w0.heap.size w0 W → Calls Tryz.prog 65 #[.agg #[.slice ta NT tc], .int .i64 (i : Int)] W fun e w' => ∃ r, e = .returned (.tuple #[r, .int .i64 0]) ∧ Ints W.heap.size w' r (pth T i) ∧ Below W.heap.size W w') := fun W hW => by
    obtain ⟨q1, q2⟩ := unhide HTD W (unhide HC W hW).fr
    have := pathX_any q1 q2 (i : Int)
    rw [m7] at this
    simpa using this
  have KT : Hid (∀ W, Below w0.heap.size w0 W → Calls Tryz.prog 66 #[.agg #[.slice ta NT tc], .int .i64 (i : Int), .slice fa FL fc] W fun e w' => ∃ r us, e = .returned (.tuple #[r, .int .i64 0]) ∧ RR W.heap.size w' r (tgt T i fl) us ∧ Below W.heap.size W w') := fun W hW => by
    obtain ⟨q1, q2⟩ := unhide HTD W (unhide HC W hW).fr
    have := targets_any q1 (hfv.bw (bw_tr x0 hW)) q2 (i : Int)
    unfold tgtR at this
    rw [m7] at this
    simpa using this
  have KH : Hid (∀ W, Below w0.heap.size w0 W → Calls Tryz.prog 34 #[.pointer (some ⟨b, 0, none⟩), .int .i64 (p.2 : Nat)] W fun e w' => e = .returned (.bool true) ∧ Below W.heap.size W w') := fun W hW => by
    have := hhas_any (show St W b sv mb p.1 from (unhide HC W hW).hd) (p.2 : Nat)
    rw [hg.thr] at this
    exact this
  have KTr : Hid (∀ W, Below w0.heap.size w0 W → Calls Tryz.prog 47 #[.pointer (some ⟨b, 0, none⟩), .agg #[.slice ta NT tc]] W fun e w' => e = .returned (.bool true) ∧ Below W.heap.size W w') := fun W hW => by
    obtain ⟨q1, q2⟩ := unhide HTD W (unhide HC W hW).fr
    have := htree_any (show St W b sv mb p.1 from (unhide HC W hW).hd) _ T q1 q2
    rw [hh] at this
    exact this
  have KA : Hid (∀ W nb tb nv tv us, Below w0.heap.size w0 W → W.heap[nb]? = some (.cells #[nv] 27 (0, 0)) → W.heap[tb]? = some (.cells #[tv] 133 (0, 0)) → Ints 0 W nv (pth T i) → RR 0 W tv (tgt T i fl) us → Calls Tryz.prog 67 #[.pointer (some ⟨b, 0, none⟩), .int .i64 64, .func (.func 68) #[] #[.pointer (some ⟨A, 0, none⟩), .pointer (some ⟨A + 1, 0, none⟩), .pointer (some ⟨nb, 0, none⟩), .pointer (some ⟨tb, 0, none⟩), .pointer (some ⟨A + 2, 0, none⟩)]] W fun e w' => ∃ kv pv qv, e = .returned (.tuple #[.agg #[kv, pv, qv, .int .i64 ((sec p (mkPl T i).length).2 : Nat)], .int .i64 0]) ∧ ∃ sv', EF (foot b sv mb) w w' (mkR b sv' mb T (mkPl T i) (tgt T i fl) p kv pv qv ++ [resC (A + 3) #[nilV] 44, resC (A + 2) #[.int .i64 (p.2 : Nat)] 3, resC (A + 1) #[.int .i64 (i : Int)] 3, resC A #[.slice ta NT tc] 44])) := fun W nb tb nv tv us hW hnb htb hnv htv => by
    have eW := unhide HC W hW
    have stW : St W b sv mb p.1 := eW.hd
    have hmn : ∀ V, Fr (foot b sv mb) W V → Fr (foot b sv mb) w V := fun V hV => eW.fr.trans hV (fun _ _ c => c) (fun _ _ c => c)
    refine (aonR stW 64 (by omega) (by omega) _ ((sec p (mkPl T i).length).2) (fun sv kv pv qv => mkR b sv mb T (mkPl T i) (tgt T i fl) p kv pv qv) (nrK (mkPl T i) p).2.1.length (nrK (mkPl T i) p).2.2.length (nrQ T (mkPl T i) (tgt T i fl) p).2.length (fun F sv kv pv qv w' W' hE => ⟨own_slice (show W'.ownsRow 0 71 2 kv _ _ from hE.nth 1 rfl), own_slice (show W'.ownsRow 0 3 1 pv _ _ from hE.nth 2 rfl), own_slice (show W'.ownsRow 0 76 3 qv _ _ from hE.nth 3 rfl)⟩) (fun V hV => ?_)).mono ?_
    · have eV := eW.new hV
      have hmV : ∀ X, Fr (foot b sv mb) V X → Fr (foot b sv mb) w X := fun X hX => eV.fr.trans hX (fun _ _ c => c) (fun _ _ c => c)
      have stV : St V b sv mb p.1 := eV.hd
      have hnv' : Ints 0 V nv (pth T i) := Ints.bw hnv hV
      exact make1_any p T (.slice ta NT tc) nv tv i (pth T i) (tgt T i fl) A (A + 1) nb tb (A + 2) stV hg (hT.mono hmV) hnv' (rfix_rr (htv.bw hV) stV) (eV.nth 4 rfl) (eV.nth 3 rfl) (kept_blk hnb hV) (kept_blk htb hV) (eV.nth 2 rfl) m1 m3 (by omega) m5 m6 m2 hl
    · rintro e w' ⟨kv, pv, qv, e1, sv', k⟩
      exact ⟨kv, pv, qv, e1, sv', eW.join k⟩
  obtain ⟨P0, hP0⟩ : ∃ P0 : Nat, P0 = (nrK (mkPl T i) p).2.2.getD 0 0 := ⟨_, rfl⟩
  obtain ⟨PS, hPS⟩ : ∃ PS : List Nat, PS = (nrK (mkPl T i) p).2.2.drop 1 := ⟨_, rfl⟩
  have hPX : (nrK (mkPl T i) p).2.2 = P0 :: PS := by
    rw [hP0, hPS]
    have : 0 < (nrK (mkPl T i) p).2.2.length := by rw [nf2]; unfold mkPl; simp
    cases q : (nrK (mkPl T i) p).2.2 with
    | nil => rw [q] at this; simp at this
    | cons a l => simp
  have hPL : PS.length = (pth T i).length := by
    have := nf2; rw [hPX] at this; unfold mkPl at this; simpa using this
  have hset : setE T (i : Int) ee (P0 : Int) (PS.map fun (x : Nat) => (x : Int)) = 0 := by
    have h1 : 1 ≤ P0 := nf3 P0 (by rw [hPX]; simp)
    have h2 : (PS.map fun (x : Nat) => (x : Int)).any (fun q => decide (q < 1)) = false := by
      rw [List.any_eq_false]
      intro y hy
      obtain ⟨x, hx, rfl⟩ := List.mem_map.1 hy
      have := nf3 x (by rw [hPX]; simp [hx])
      simp; omega
    unfold setE
    rw [if_neg (by simp [held_may hh]; omega), if_neg (by simp [hL]), if_neg (by simp only [List.length_map, Int.toNat_natCast, h2]; simp [hPL])]
  have KS : Hid (∀ W pv, Fr (foot b sv mb) w W → Nums W pv (PS.map fun (x : Nat) => (x : Int)) → Calls Tryz.prog 70 #[.agg #[.slice ta NT tc], .int .i64 (i : Int), .int .i64 ee, .int .i64 (P0 : Int), pv] W fun e w' => ∃ r us, e = .returned (.tuple #[.agg #[r], .int .i64 0]) ∧ OTr W.heap.size w' r (mkT T i ee p) us ∧ Below W.heap.size W w') := fun W pv hW hpv => by
    obtain ⟨q1, q2⟩ := unhide HTD W hW
    have := set_ok q1 hpv q2 (i : Int) ee (P0 : Int) hset
    unfold mkT
    rw [← hP0, ← hPS]
    simpa using this
  have KR : Hid (∀ W kv, W.ownsRow 0 71 2 kv (nrK (mkPl T i) p).2.1.length (kysC (nrK (mkPl T i) p).2.1) → Calls Tryz.prog 53 #[kv] W fun e w' => e = .returned kv ∧ w'.ownsRow 0 71 2 kv (nrK (mkPl T i) p).2.1.length (kysC (srt (nrK (mkPl T i) p).2.1)) ∧ Fr kv.ownBlock.toList W w') := fun W kv hkv =>
    rising_any hkv (by intro c; rw [c] at nf1; unfold mkPl at nf1; simp at nf1) (by rw [nf1]; unfold mkPl; simp; omega) (by rw [nf4]; exact m8)
  have HPX := hide (And.intro hPX hPL)
  have HEND : Hid (∀ F w W sv r kv qv us, EF F w W [resS b sv mb (nrQ T (mkPl T i) (tgt T i fl) p).1, resT r (mkT T i ee p) us, resW 71 2 kv (nrK (mkPl T i) p).2.1.length (kysC (srt (nrK (mkPl T i) p).2.1)), resW 76 3 qv (nrQ T (mkPl T i) (tgt T i fl) p).2.length (slsC (nrQ T (mkPl T i) (tgt T i fl) p).2)] → EF F w W (mkO b sv mb T i ee fl p r kv qv us)) := fun F w W sv r kv qv us q => q
  obtain ⟨cm, hcm⟩ : ∃ cm : Nat, cm = (sec p (mkPl T i).length).2 := ⟨_, rfl⟩
  rw [← hcm] at KA ⊢
  have HE0 := hide e0
  have HW := hide hw0
  have HA := hide hA
  have d1 := blk_cell (i := 0) (show w0.heap[A]? = some (.cells #[.slice ta NT tc] 44 (0, 0)) from e0.nth 4 rfl) rfl
  have d2 := blk_cell (i := 0) (show w0.heap[A + 1]? = some (.cells #[.int .i64 (i : Int)] 3 (0, 0)) from e0.nth 3 rfl) rfl
  have q1 : decide (ee < 0) = false := decide_eq_false (by omega)
  clear h hg hT hTb hfv hh hL hl m1 m2 m3 m4 m5 m6 m7 m8 m9 nf1 nf2 nf3 nf4 hun hNT hFL hA hw0 e0 x0 hPX hPL hset hP0 hPS hcm HTD he
  generalize p.2 = seed at *
  go_enter Tryz.func23, Tryz.ntmps23
  go_upto_region 1 with fail
  rw [← unhide HA, ← unhide HW, show A + 1 + 1 + 1 = A + 3 from rfl, show A + 1 + 1 = A + 2 from rfl]
  go_wp2_with fail
  refine (unhide KM).mono ?_
  rintro e w0 ⟨rfl, rfl⟩
  have K1 := hide (unhide KP w0 (Below.refl _ _))
  clear KM KP
  go_wp2_with fail
  refine (unhide K1).mono ?_
  rintro e w1 ⟨nv, rfl, hnv, b1⟩
  obtain ⟨na, nc, rfl⟩ := own_slice hnv
  obtain ⟨NN, hNN⟩ : ∃ NN, NN = (pth T i).length := ⟨_, rfl⟩
  rw [← hNN] at hnv ⊢
  obtain ⟨w2, hw2⟩ : ∃ w2, w2 = w1.alloc (.cells #[.slice na NN nc] 27) := ⟨_, rfl⟩
  obtain ⟨nb, hnb⟩ : ∃ nb, nb = w1.heap.size := ⟨_, rfl⟩
  have b2 : Below w0.heap.size w0 w2 := by rw [hw2]; exact b1.alloc b1.size _
  have hnbb : w2.heap[nb]? = some (.cells #[.slice na NN nc] 27 (0, 0)) := by rw [hw2, hnb]; exact heap_alloc_new _ _
  have hnv2 : Ints 0 w2 (.slice na NN nc) (pth T i) := by rw [hw2]; exact own_base (Ints.bw hnv (bwA' _ _)) (Nat.zero_le _)
  have HW2 := hide (And.intro hw2 hnb)
  have K2 := hide (unhide KT w2 b2)
  have e2 := unhide HC w2 b2
  have d1' := blk_cell (i := 0) (show w2.heap[A]? = some (.cells #[.slice ta NT tc] 44 (0, 0)) from e2.nth 4 rfl) rfl
  have d2' := blk_cell (i := 0) (show w2.heap[A + 1]? = some (.cells #[.int .i64 (i : Int)] 3 (0, 0)) from e2.nth 3 rfl) rfl
  have HB2 := hide b2
  have HNB := hide hnbb
  have HNV := hide hnv2
  clear K1 KT hnv b1 hw2 hnb d1 d2 hNN b2 hnbb hnv2 e2
  go_upto_region 4 with fail
  rw [← (unhide HW2).1, ← (unhide HW2).2]
  clear HW2
  go_wp2_with fail
  refine (unhide K2).mono ?_
  rintro e w3 ⟨tv, us, rfl, htv, b3⟩
  obtain ⟨ra, rc, rfl⟩ := own_slice htv.row
  obtain ⟨TN, hTN⟩ : ∃ TN, TN = (tgt T i fl).length := ⟨_, rfl⟩
  rw [← hTN] at htv ⊢
  obtain ⟨w4, hw4⟩ : ∃ w4, w4 = w3.alloc (.cells #[.slice ra TN rc] 133) := ⟨_, rfl⟩
  obtain ⟨tb, htb⟩ : ∃ tb, tb = w3.heap.size := ⟨_, rfl⟩
  have c4 : Below w2.heap.size w2 w4 := by rw [hw4]; exact b3.alloc b3.size _
  have b4 : Below w0.heap.size w0 w4 := bw_tr (unhide HB2) c4
  have htbb : w4.heap[tb]? = some (.cells #[.slice ra TN rc] 133 (0, 0)) := by rw [hw4, htb]; exact heap_alloc_new _ _
  have htv4 : RR w2.heap.size w4 (.slice ra TN rc) (tgt T i fl) us := by rw [hw4]; exact htv.bw (bwA' _ _)
  have e4 := unhide HC w4 b4
  have g1 := blk_cell (i := 0) (show w4.heap[A]? = some (.cells #[.slice ta NT tc] 44 (0, 0)) from e4.nth 4 rfl) rfl
  have g2 := blk_cell (i := 0) (show w4.heap[A + 2]? = some (.cells #[.int .i64 (seed : Nat)] 3 (0, 0)) from e4.nth 2 rfl) rfl
  have HW4 := hide (And.intro hw4 htb)
  have K4 := hide (unhide KH w4 b4)
  have HR4 := hide (And.intro htv4 (And.intro htbb (And.intro c4 b4)))
  clear K2 KH d1' d2' htv b3 hTN hw4 htb b4 htbb htv4 c4 e4
  go_upto_region 5 with fail
  rw [← (unhide HW4).1, ← (unhide HW4).2]
  clear HW4
  go_wp2_with fail
  refine (unhide K4).mono ?_
  rintro e w5 ⟨rfl, b5⟩
  have b5' : Below w0.heap.size w0 w5 := bw_tr (unhide HR4).2.2.2 b5
  have e5 := unhide HC w5 b5'
  have g3 := blk_cell (i := 0) (show w5.heap[A]? = some (.cells #[.slice ta NT tc] 44 (0, 0)) from e5.nth 4 rfl) rfl
  have K5 := hide (unhide KTr w5 b5')
  have HB5 := hide (And.intro b5 b5')
  clear K4 KTr g1 g2 b5 b5' e5
  go_wp2_with fail
  refine (unhide K5).mono ?_
  rintro e w6 ⟨rfl, b6⟩
  have c6 : Below w4.heap.size w4 w6 := bw_tr (unhide HB5).1 b6
  have d6 : Below w2.heap.size w2 w6 := bw_tr (unhide HR4).2.2.1 c6
  have K6 := hide (unhide KA w6 nb tb _ _ us (bw_tr (unhide HB5).2 b6) (kept_blk (unhide HNB) d6) (kept_blk (unhide HR4).2.1 c6) (Ints.bw (unhide HNV) d6) (RR.bw ⟨(unhide HR4).1.ul, own_base (unhide HR4).1.row (Nat.zero_le _), fun j l u hl hu => own_base ((unhide HR4).1.un j l u hl hu) (Nat.zero_le _), (unhide HR4).1.apart⟩ c6))
  clear K5 KA g3 b6 c6 d6 HB5 HR4 HNV HNB HB2
  go_wp2_with fail
  refine (unhide K6).mono ?_
  rintro e w7 ⟨kv, pv, qv, rfl, sv7, E7⟩
  obtain ⟨ka, kc, rfl⟩ := own_slice (show w7.ownsRow 0 71 2 kv _ _ from E7.nth 1 rfl)
  obtain ⟨qa, qc, rfl⟩ := own_slice (show w7.ownsRow 0 76 3 qv _ _ from E7.nth 3 rfl)
  have hpvr := (show NRow 0 w7 pv (nrK (mkPl T i) p).2.2 from E7.nth 2 rfl)
  rw [(unhide HPX).1] at hpvr
  obtain ⟨pg, pc, hpv, -, hpc, -⟩ := own_open hpvr (by simp)
  rw [List.length_cons] at hpv hpc
  obtain ⟨PL, hPL⟩ : ∃ PL, PL = PS.length := ⟨_, rfl⟩
  rw [← hPL] at hpv hpc
  obtain ⟨N1, hN1⟩ : ∃ N1, N1 = PL + 1 := ⟨_, rfl⟩
  rw [← hN1] at hpv hpc
  subst hpv
  have hpcM : pc ≤ maxLen := by
    rcases hpvr.2 with ⟨c, _⟩ | ⟨g', cap', cur, e, _, _, _, q2, _⟩
    · cases c
    · simp only [Value.slice.injEq] at e; obtain ⟨_, _, rfl⟩ := e; exact q2
  obtain ⟨KN, hKN⟩ : ∃ KN, KN = (nrK (mkPl T i) p).2.1.length := ⟨_, rfl⟩
  obtain ⟨QN, hQN⟩ : ∃ QN, QN = (nrQ T (mkPl T i) (tgt T i fl) p).2.length := ⟨_, rfl⟩
  obtain ⟨kv, hkv⟩ : ∃ kv, kv = Value.slice ka KN kc := ⟨_, rfl⟩
  obtain ⟨qv, hqv⟩ : ∃ qv, qv = Value.slice qa QN qc := ⟨_, rfl⟩
  rw [← hKN, ← hQN, ← hkv, ← hqv] at E7
  rw [← hKN, ← hQN]
  obtain ⟨w8, hw8⟩ : ∃ w8, w8 = w7.alloc (.cells #[.slice ka KN kc, .slice (some ⟨pg, 0, none⟩) N1 pc, .slice qa QN qc, .int .i64 (cm : Int)] 137) := ⟨_, rfl⟩
  obtain ⟨rb, hrb⟩ : ∃ rb, rb = w7.heap.size := ⟨_, rfl⟩
  have E8 := E7.newC #[.slice ka KN kc, .slice (some ⟨pg, 0, none⟩) N1 pc, .slice qa QN qc, .int .i64 (cm : Int)] 137
  rw [← hw8, ← hrb] at E8
  have HS : Hid (∀ W rs, EF (foot b sv mb) w W (resC rb #[.slice ka KN kc, .slice (some ⟨pg, 0, none⟩) N1 pc, .slice qa QN qc, .int .i64 (cm : Int)] 137 :: resS b sv7 mb (nrQ T (mkPl T i) (tgt T i fl) p).1 :: resW 71 2 kv (nrK (mkPl T i) p).2.1.length (kysC (nrK (mkPl T i) p).2.1) :: resN (.slice (some ⟨pg, 0, none⟩) N1 pc) (nrK (mkPl T i) p).2.2 :: resW 76 3 qv (nrQ T (mkPl T i) (tgt T i fl) p).2.length (slsC (nrQ T (mkPl T i) (tgt T i fl) p).2) :: rs ++ [resC (A + 2) #[.int .i64 (seed : Nat)] 3, resC (A + 1) #[.int .i64 (i : Int)] 3, resC A #[.slice ta NT tc] 44]) → W.cell? ⟨A, 0, none⟩ = some (.slice ta NT tc) ∧ W.cell? ⟨A + 1, 0, none⟩ = some (.int .i64 (i : Int)) ∧ W.cell? ⟨rb, 1, none⟩ = some (.slice (some ⟨pg, 0, none⟩) N1 pc) ∧ W.cell? ⟨pg, 0, none⟩ = some (.int .i64 (P0 : Int))) := fun W rs hE => by
    have r1 : W.heap[A]? = some (.cells #[.slice ta NT tc] 44 (0, 0)) := hE.hold (resC A #[.slice ta NT tc] 44) (by simp)
    have r2 : W.heap[A + 1]? = some (.cells #[.int .i64 (i : Int)] 3 (0, 0)) := hE.hold (resC (A + 1) #[.int .i64 (i : Int)] 3) (by simp)
    have r3 : W.heap[rb]? = some (.cells #[.slice ka KN kc, .slice (some ⟨pg, 0, none⟩) N1 pc, .slice qa QN qc, .int .i64 (cm : Int)] 137 (0, 0)) := hE.hd
    have r4 : NRow 0 W (.slice (some ⟨pg, 0, none⟩) N1 pc) (nrK (mkPl T i) p).2.2 := hE.nth 3 rfl
    rw [(unhide HPX).1] at r4
    exact ⟨blk_cell r1 rfl, blk_cell r2 rfl, blk_cell r3 rfl, r4.at (g := pg) rfl rfl⟩
  obtain ⟨o, ho⟩ : ∃ o, (pc = 1 ∧ o = 0) ∨ (¬ pc = 1 ∧ o = 1) := by
    by_cases q : pc = 1
    · exact ⟨_, Or.inl ⟨q, rfl⟩⟩
    · exact ⟨_, Or.inr ⟨q, rfl⟩⟩
  have HNU : Hid (∀ W, NRow 0 W (.slice (some ⟨pg, 0, none⟩) N1 pc) (P0 :: PS) → Nums W (.slice (some ⟨pg, o, none⟩) (N1 - 1) (pc - 1)) (PS.map fun (x : Nat) => (x : Int))) := fun W hr => by
    refine Or.inr ⟨pg, o, pc - 1, by rw [List.length_map, ← hPL]; rw [show N1 - 1 = PL by omega], by rw [List.length_map, ← hPL]; omega, by omega, fun j z hj => ?_⟩
    rw [List.getElem?_map] at hj
    obtain ⟨x, hx, rfl⟩ := Option.map_eq_some_iff.1 hj
    have hjl := (List.getElem?_eq_some_iff.1 hx).1
    have := hr.at (g := pg) rfl (i := j + 1) (m := x) (by simpa using hx)
    have ho1 : o = 1 := by omega
    rw [ho1, Nat.add_comm 1 j]
    exact this
  have E9 := E8.new (Below.refl _ _).drew
  have S0 := unhide HS w8 [resC (A + 3) #[nilV] 44] E8
  have S1 := unhide HS w8.drew [resC (A + 3) #[nilV] 44] E9
  have hn9 : NRow 0 w8.drew (.slice (some ⟨pg, 0, none⟩) N1 pc) (P0 :: PS) := by have : NRow 0 w8.drew (.slice (some ⟨pg, 0, none⟩) N1 pc) (nrK (mkPl T i) p).2.2 := E9.nth 3 rfl; rwa [(unhide HPX).1] at this
  have HN9 := hide hn9
  have HE9 := hide E9
  have HW8 := hide (And.intro hw8 hrb)
  have HVs := hide (And.intro hkv (And.intro hqv (And.intro hKN hQN)))
  have q2 : (1 : Int) ≤ (N1 : Int) := by omega
  have q3 : (1 : Int) ≤ (pc : Int) := by omega
  have q4 : (N1 : Int) ≤ (pc : Int) := by omega
  have q5 : N1 ≤ pc := by omega
  have q6 : 1 ≤ N1 := by omega
  have q7 : (0 : Int) < (N1 : Int) := by omega
  have q8 : 0 < N1 := by omega
  clear E7 E8 E9 hw8 hrb hpvr hn9 hkv hqv hKN hQN hPL hN1 K6
  rcases ho with ⟨hcJ, rfl⟩ | ⟨hcJ, rfl⟩
  · subst hcJ
    obtain rfl : N1 = 1 := by omega
    go_upto_region 8 with fail
    rw [← (unhide HW8).1, ← (unhide HW8).2]
    clear HW8
    go_upto_region 10 with fail
    go_region_held3 (fun w' : World => w'.cell? ⟨A, 0, none⟩ = some (.slice ta NT tc) ∧ w'.cell? ⟨A + 1, 0, none⟩ = some (.int .i64 (i : Int)) ∧ w'.cell? ⟨rb, 1, none⟩ = some (.slice (some ⟨pg, 0, none⟩) 1 1) ∧ w'.cell? ⟨pg, 0, none⟩ = some (.int .i64 (P0 : Int))) (first | with_reducible exact S0 | with_reducible exact S1 | with_reducible exact S2 | with_reducible exact S3 | go_keep) (first
        | (go_at_call 70; refine (unhide KS _ _ (unhide HE9).fr (unhide HNU _ (unhide HN9))).mono ?_; rintro e_ z1 ⟨r, us2, rfl, ho, b10⟩; obtain ⟨r1, r2, hr⟩ := own_slice ho.row; subst hr; have E10 := (unhide HE9).add (resT _ (mkT T i ee p) us2) b10 (OTr.mono ho (Nat.zero_le _)) (fun x hx => (OTr.ltZ ho x hx).1); have S2 := unhide HS z1 [resC (A + 3) #[nilV] 44] E10.drop; have B10 : z1.heap[A + 3]? = some (.cells #[nilV] 44 (0, 0)) := E10.nth 6 rfl; have y0 := blk_cell (i := 0) B10 rfl; have yf := blk_froz (i := 0) B10; have E11 := (E10.up 6 rfl).poke (i := 0) (.slice r1 (mkT T i ee p).length r2); have S3 := unhide HS _ [] E11.drop.drop)
        | fail)
    obtain ⟨rfl, rfl, -, -⟩ := unhide HVs
    obtain ⟨z2, hz2⟩ : ∃ z2, z2 = z1.setCell ⟨A + 3, 0, none⟩ (.slice r1 (mkT T i ee p).length r2) := ⟨_, rfl⟩
    rw [← hz2] at E11
    obtain ⟨MN, hMN⟩ : ∃ MN, MN = (mkT T i ee p).length := ⟨_, rfl⟩
    rw [← hMN] at E11
    have HS2 : Hid (∀ W rs, EF (foot b sv mb) w W (resC (A + 3) #[.slice r1 MN r2] 44 :: resC rb #[.slice ka KN kc, .slice (some ⟨pg, 0, none⟩) 1 1, .slice qa QN qc, .int .i64 (cm : Int)] 137 :: rs) → W.cell? ⟨A + 3, 0, none⟩ = some (.slice r1 MN r2) ∧ W.cell? ⟨rb, 0, none⟩ = some (.slice ka KN kc) ∧ W.cell? ⟨rb, 2, none⟩ = some (.slice qa QN qc) ∧ W.cell? ⟨rb, 3, none⟩ = some (.int .i64 (cm : Int))) := fun W rs hE => by
      have r1 := hE.hd
      have r2 := hE.nth 1 rfl
      exact ⟨blk_cell (i := 0) r1 rfl, blk_cell (i := 0) r2 rfl, blk_cell (i := 2) r2 rfl, blk_cell (i := 3) r2 rfl⟩
    have E11b := (E11.up 2 rfl).up 1 rfl
    have E12 := E11b.new (Below.refl _ _).drew
    have S4 := unhide HS2 z2 _ E11b
    have S5 := unhide HS2 z2.drew _ E12
    have hk12 : z2.drew.ownsRow 0 71 2 (.slice ka KN kc) (nrK (mkPl T i) p).2.1.length (kysC (nrK (mkPl T i) p).2.1) := E12.nth 4 rfl
    have K13 := hide (unhide KR _ _ hk12)
    have HE12 := hide E12
    have HZ2 := hide (And.intro hz2 hMN)
    clear E10 E11 E11b E12 S0 S1 S2 S3 B10 y0 yf ho b10 hk12 hz2 HE9 HN9 HNU KS KR HS q2 q3 q4 q5 q6 q7 q8 hMN HC HE0 HW HA
    rw [← (unhide HZ2).2]
    rw [← (unhide HZ2).2] at HZ2
    rw [← (unhide HZ2).1]
    go_upto_region 13 with fail
    go_region_held3 (fun w' : World => w'.cell? ⟨A + 3, 0, none⟩ = some (.slice r1 MN r2) ∧ w'.cell? ⟨rb, 0, none⟩ = some (.slice ka KN kc) ∧ w'.cell? ⟨rb, 2, none⟩ = some (.slice qa QN qc) ∧ w'.cell? ⟨rb, 3, none⟩ = some (.int .i64 (cm : Int))) (first | with_reducible exact S4 | with_reducible exact S5 | with_reducible exact S6 | with_reducible exact S7 | go_keep) (first
        | (go_at_call 53; refine (unhide K13).mono ?_; rintro e_ z3 ⟨rfl, own3, fr3⟩; have E13 := (((unhide HE12).up 4 rfl).step (r' := resW 71 2 (.slice ka KN kc) (nrK (mkPl T i) p).2.1.length (kysC (srt (nrK (mkPl T i) p).2.1))) ⟨fr3, fun x hx => Or.inl hx⟩ own3); have E14 := (E13.up 2 rfl).up 2 rfl; have S6 := unhide HS2 z3 _ E14; have B14 : z3.heap[A + 3]? = some (.cells #[.slice r1 MN r2] 44 (0, 0)) := E14.hd; have yf := blk_froz (i := 0) B14; have E15 := E14.poke (i := 0) (.slice r1 MN r2); have S7 := unhide HS2 _ _ E15)
        | fail)
    have HF := hide ((((E15.up 6 rfl).up 3 rfl).up 4 rfl).up 5 rfl)
    have hb15 := blk_cell (i := 0) (show _ = some (Obj.cells #[.slice r1 MN r2] 44 (0, 0)) from E15.hd) rfl
    obtain ⟨V, hV⟩ : ∃ V, V = z3.setCell ⟨A + 3, 0, none⟩ (.slice r1 MN r2) := ⟨_, rfl⟩
    rw [← hV] at HF hb15
    have HV := hide hV
    clear E13 E14 E15 S4 S5 S6 S7 B14 yf fr3 own3 HE12 K13 HS2 HZ2 hV
    go_wp2_with fail
    rw [← unhide HV]
    exact bodyPost_ret (v := .tuple #[.agg #[.slice r1 MN r2], .slice ka KN kc, .slice qa QN qc, .int .i64 (cm : Int), .int .i64 0]) (by simp [results, Tryz.results23, go_sem, hb15]) rfl ⟨_, _, _, us2, rfl, sv7, unhide HEND _ _ _ _ _ _ _ _ ((unhide HF).sub (.cons_cons _ (.cons_cons _ (.cons_cons _ (.cons_cons _ (List.nil_sublist _))))))⟩
  · skip
    go_upto_region 8 with fail
    rw [← (unhide HW8).1, ← (unhide HW8).2]
    clear HW8
    go_upto_region 10 with fail
    go_region_held3 (fun w' : World => w'.cell? ⟨A, 0, none⟩ = some (.slice ta NT tc) ∧ w'.cell? ⟨A + 1, 0, none⟩ = some (.int .i64 (i : Int)) ∧ w'.cell? ⟨rb, 1, none⟩ = some (.slice (some ⟨pg, 0, none⟩) N1 pc) ∧ w'.cell? ⟨pg, 0, none⟩ = some (.int .i64 (P0 : Int))) (first | with_reducible exact S0 | with_reducible exact S1 | with_reducible exact S2 | with_reducible exact S3 | go_keep) (first
        | (go_at_call 70; refine (unhide KS _ _ (unhide HE9).fr (unhide HNU _ (unhide HN9))).mono ?_; rintro e_ z1 ⟨r, us2, rfl, ho, b10⟩; obtain ⟨r1, r2, hr⟩ := own_slice ho.row; subst hr; have E10 := (unhide HE9).add (resT _ (mkT T i ee p) us2) b10 (OTr.mono ho (Nat.zero_le _)) (fun x hx => (OTr.ltZ ho x hx).1); have S2 := unhide HS z1 [resC (A + 3) #[nilV] 44] E10.drop; have B10 : z1.heap[A + 3]? = some (.cells #[nilV] 44 (0, 0)) := E10.nth 6 rfl; have y0 := blk_cell (i := 0) B10 rfl; have yf := blk_froz (i := 0) B10; have E11 := (E10.up 6 rfl).poke (i := 0) (.slice r1 (mkT T i ee p).length r2); have S3 := unhide HS _ [] E11.drop.drop)
        | fail)
    obtain ⟨rfl, rfl, -, -⟩ := unhide HVs
    obtain ⟨z2, hz2⟩ : ∃ z2, z2 = z1.setCell ⟨A + 3, 0, none⟩ (.slice r1 (mkT T i ee p).length r2) := ⟨_, rfl⟩
    rw [← hz2] at E11
    obtain ⟨MN, hMN⟩ : ∃ MN, MN = (mkT T i ee p).length := ⟨_, rfl⟩
    rw [← hMN] at E11
    have HS2 : Hid (∀ W rs, EF (foot b sv mb) w W (resC (A + 3) #[.slice r1 MN r2] 44 :: resC rb #[.slice ka KN kc, .slice (some ⟨pg, 0, none⟩) N1 pc, .slice qa QN qc, .int .i64 (cm : Int)] 137 :: rs) → W.cell? ⟨A + 3, 0, none⟩ = some (.slice r1 MN r2) ∧ W.cell? ⟨rb, 0, none⟩ = some (.slice ka KN kc) ∧ W.cell? ⟨rb, 2, none⟩ = some (.slice qa QN qc) ∧ W.cell? ⟨rb, 3, none⟩ = some (.int .i64 (cm : Int))) := fun W rs hE => by
      have r1 := hE.hd
      have r2 := hE.nth 1 rfl
      exact ⟨blk_cell (i := 0) r1 rfl, blk_cell (i := 0) r2 rfl, blk_cell (i := 2) r2 rfl, blk_cell (i := 3) r2 rfl⟩
    have E11b := (E11.up 2 rfl).up 1 rfl
    have E12 := E11b.new (Below.refl _ _).drew
    have S4 := unhide HS2 z2 _ E11b
    have S5 := unhide HS2 z2.drew _ E12
    have hk12 : z2.drew.ownsRow 0 71 2 (.slice ka KN kc) (nrK (mkPl T i) p).2.1.length (kysC (nrK (mkPl T i) p).2.1) := E12.nth 4 rfl
    have K13 := hide (unhide KR _ _ hk12)
    have HE12 := hide E12
    have HZ2 := hide (And.intro hz2 hMN)
    clear E10 E11 E11b E12 S0 S1 S2 S3 B10 y0 yf ho b10 hk12 hz2 HE9 HN9 HNU KS KR HS q2 q3 q4 q5 q6 q7 q8 hMN HC HE0 HW HA
    rw [← (unhide HZ2).2]
    rw [← (unhide HZ2).2] at HZ2
    rw [← (unhide HZ2).1]
    go_upto_region 13 with fail
    go_region_held3 (fun w' : World => w'.cell? ⟨A + 3, 0, none⟩ = some (.slice r1 MN r2) ∧ w'.cell? ⟨rb, 0, none⟩ = some (.slice ka KN kc) ∧ w'.cell? ⟨rb, 2, none⟩ = some (.slice qa QN qc) ∧ w'.cell? ⟨rb, 3, none⟩ = some (.int .i64 (cm : Int))) (first | with_reducible exact S4 | with_reducible exact S5 | with_reducible exact S6 | with_reducible exact S7 | go_keep) (first
        | (go_at_call 53; refine (unhide K13).mono ?_; rintro e_ z3 ⟨rfl, own3, fr3⟩; have E13 := (((unhide HE12).up 4 rfl).step (r' := resW 71 2 (.slice ka KN kc) (nrK (mkPl T i) p).2.1.length (kysC (srt (nrK (mkPl T i) p).2.1))) ⟨fr3, fun x hx => Or.inl hx⟩ own3); have E14 := (E13.up 2 rfl).up 2 rfl; have S6 := unhide HS2 z3 _ E14; have B14 : z3.heap[A + 3]? = some (.cells #[.slice r1 MN r2] 44 (0, 0)) := E14.hd; have yf := blk_froz (i := 0) B14; have E15 := E14.poke (i := 0) (.slice r1 MN r2); have S7 := unhide HS2 _ _ E15)
        | fail)
    have HF := hide ((((E15.up 6 rfl).up 3 rfl).up 4 rfl).up 5 rfl)
    have hb15 := blk_cell (i := 0) (show _ = some (Obj.cells #[.slice r1 MN r2] 44 (0, 0)) from E15.hd) rfl
    obtain ⟨V, hV⟩ : ∃ V, V = z3.setCell ⟨A + 3, 0, none⟩ (.slice r1 MN r2) := ⟨_, rfl⟩
    rw [← hV] at HF hb15
    have HV := hide hV
    clear E13 E14 E15 S4 S5 S6 S7 B14 yf fr3 own3 HE12 K13 HS2 HZ2 hV
    go_wp2_with fail
    rw [← unhide HV]
    exact bodyPost_ret (v := .tuple #[.agg #[.slice r1 MN r2], .slice ka KN kc, .slice qa QN qc, .int .i64 (cm : Int), .int .i64 0]) (by simp [results, Tryz.results23, go_sem, hb15]) rfl ⟨_, _, _, us2, rfl, sv7, unhide HEND _ _ _ _ _ _ _ _ ((unhide HF).sub (.cons_cons _ (.cons_cons _ (.cons_cons _ (.cons_cons _ (List.nil_sublist _))))))⟩
end Go.Proofs.YtpcpcgagiapinaaGreatDoor.Tn.Pa

/- The contracts of path.isPub, path.follows, path.origin, path.hasLeaf. -/
namespace Go.Proofs.YtpcpcgagiapinaaGreatDoor.Tn.Pa
open Go.RowKit Go.Maps
theorem getT_fit {w : World} {b : Nat} {sv : Value} {mb : Nat} {L : List Tm} (h : St w b sv mb L) (x : Int) : (getT L x).ok := by
  cases ht : thr L.length x
  · have e : getT L x = ⟨0, 0, 0, 0⟩ := by simp [getT, ht]
    rw [e]; constructor <;> simp
  · obtain ⟨i, t, -, hi, -, e⟩ := thr_open ht
    rw [e]; exact h.fit t (List.mem_of_getElem? hi)
theorem eq_tm {w : World} {b : Nat} {sv : Value} {mb : Nat} {L : List Tm} (h : St w b sv mb L) (x : Int) {u : Tm} (hu : u.ok) (W : World) : (Op.equalIn 10000 64 (.agg #[.int .u8 (getT L x).kd, .int .i64 (getT L x).n, .int .i64 (getT L x).a, .int .i64 (getT L x).b]) (.agg #[.int .u8 u.kd, .int .i64 u.n, .int .i64 u.a, .int .i64 u.b])).run Tryz.prog W = .ok (decide (getT L x = u)) W := equal_tm W (getT_fit h x) hu
def i64b (s : Int) : Prop := -9223372036854775808 ≤ s ∧ s ≤ 9223372036854775807
def isP (L : List Tm) (x s : Int) : Bool := thr L.length x && decide (getT L x = ⟨5, 0, s, 0⟩)
def folB (L : List Tm) (x s : Int) : Bool := thr L.length x && decide (getT L x = ⟨4, 1, s, 0⟩)
def orgB (L : List Tm) (x : Int) : Bool := decide ((getT L x).kd = 5) && decide (getT L (getT L x).a = ⟨4, 2, (getT L (getT L x).a).a, 0⟩)
def orgK (L : List Tm) (x : Int) : Int := if orgB L x = true then (getT L x).a else 0
def orgS (L : List Tm) (x : Int) : Int := if orgB L x = true then (getT L (getT L x).a).a else 0
theorem ok_s {k l s : Int} (hk : 0 ≤ k ∧ k ≤ 255) (hl : 0 ≤ l ∧ l ≤ 100) (hs : i64b s) : Tm.ok ⟨k, l, s, 0⟩ := by
  obtain ⟨h1, h2⟩ := hs
  constructor <;> simp <;> omega
set_option maxRecDepth 100000 in
set_option maxHeartbeats 2000000 in
theorem isPub_any {b : Nat} {sv : Value} {mb : Nat} {L : List Tm} {w : World} (h : St w b sv mb L) (x s : Int) (hs : i64b s) :
    Calls Tryz.prog 121 #[.pointer (some ⟨b, 0, none⟩), .int .i64 x, .int .i64 s] w fun e w' => e = .returned (.bool (isP L x s)) ∧ Below w.heap.size w w' := by
  have K := hide (get_any b sv mb L x w h)
  have he := fun W => eq_tm h x (ok_s (k := 5) (l := 0) (by omega) (by omega) hs) W
  simp only at he
  obtain ⟨q, hq⟩ : ∃ q, q = decide (getT L x = ⟨5, 0, s, 0⟩) := ⟨_, rfl⟩
  have HR : Hid (isP L x s = (thr L.length x && q)) := by unfold Hid isP; rw [hq]
  rw [← hq] at he
  have HE := hide he
  clear h hq hs he
  generalize thr L.length x = tb at *
  generalize (getT L x).kd = t0 at *
  generalize (getT L x).n = t1 at *
  generalize (getT L x).a = t2 at *
  generalize (getT L x).b = t3 at *
  go_enter Tryz.func121, Tryz.ntmps121
  go_wp2_with fail
  refine (unhide K).mono ?_
  rintro e w1 ⟨rfl, b1⟩
  obtain ⟨W, hW⟩ : ∃ W, W = w1.alloc (.cells #[.int .u8 t0, .int .i64 t1, .int .i64 t2, .int .i64 t3] 64) := ⟨_, rfl⟩
  have B2 : Hid (Below w.heap.size w W) := by unfold Hid; rw [hW]; exact b1.alloc b1.size _
  have hb : W.heap[w1.heap.size]? = some (.cells #[.int .u8 t0, .int .i64 t1, .int .i64 t2, .int .i64 t3] 64 (0, 0)) := by rw [hW]; exact heap_alloc_new _ _
  have c0 := blk_cell (i := 0) hb rfl
  have c1 := blk_cell (i := 1) hb rfl
  have c2 := blk_cell (i := 2) hb rfl
  have c3 := blk_cell (i := 3) hb rfl
  have HW := hide hW
  have he := unhide HE
  clear K b1 hW hb HE
  go_upto_region 2 with fail
  rw [← unhide HW]
  clear HW
  cases tb <;>
  · go_wp2
    go_ret
    rw [unhide HR]
    exact ⟨by simp, unhide B2⟩
end Go.Proofs.YtpcpcgagiapinaaGreatDoor.Tn.Pa

/- The contracts of path.follows, path.origin, path.hasLeaf. -/
namespace Go.Proofs.YtpcpcgagiapinaaGreatDoor.Tn.Pa
open Go.RowKit Go.Maps
set_option maxRecDepth 100000 in
set_option maxHeartbeats 2000000 in
theorem follows_any {b : Nat} {sv : Value} {mb : Nat} {L : List Tm} {w : World} (h : St w b sv mb L) (x s : Int) (hs : i64b s) :
    Calls Tryz.prog 50 #[.pointer (some ⟨b, 0, none⟩), .int .i64 x, .int .i64 s] w fun e w' => e = .returned (.bool (folB L x s)) ∧ Below w.heap.size w w' := by
  have K := hide (get_any b sv mb L x w h)
  have he := fun W => eq_tm h x (ok_s (k := 4) (l := 1) (by omega) (by omega) hs) W
  simp only at he
  obtain ⟨q, hq⟩ : ∃ q, q = decide (getT L x = ⟨4, 1, s, 0⟩) := ⟨_, rfl⟩
  have HR : Hid (folB L x s = (thr L.length x && q)) := by unfold Hid folB; rw [hq]
  rw [← hq] at he
  have HE := hide he
  clear h hq hs he
  generalize thr L.length x = tb at *
  generalize (getT L x).kd = t0 at *
  generalize (getT L x).n = t1 at *
  generalize (getT L x).a = t2 at *
  generalize (getT L x).b = t3 at *
  have KA := hide (fun W => afterPath_any W s)
  go_enter Tryz.func50, Tryz.ntmps50
  go_wp2_with fail
  refine (unhide K).mono ?_
  rintro e w1 ⟨rfl, b1⟩
  obtain ⟨W, hW⟩ : ∃ W, W = w1.alloc (.cells #[.int .u8 t0, .int .i64 t1, .int .i64 t2, .int .i64 t3] 64) := ⟨_, rfl⟩
  have B1 : Hid (Below w.heap.size w W) := by unfold Hid; rw [hW]; exact b1.alloc b1.size _
  have B2 : Hid (Below w.heap.size w W.drew) := (unhide B1).drew
  have hb : W.heap[w1.heap.size]? = some (.cells #[.int .u8 t0, .int .i64 t1, .int .i64 t2, .int .i64 t3] 64 (0, 0)) := by rw [hW]; exact heap_alloc_new _ _
  have HS : Hid (∀ V, Below W.drew.heap.size W.drew V → V.cell? ⟨w1.heap.size, 0, none⟩ = some (.int .u8 t0) ∧ V.cell? ⟨w1.heap.size, 1, none⟩ = some (.int .i64 t1) ∧ V.cell? ⟨w1.heap.size, 2, none⟩ = some (.int .i64 t2) ∧ V.cell? ⟨w1.heap.size, 3, none⟩ = some (.int .i64 t3)) := fun V hV => by
    have q := kept_blk (w := W.drew) (show W.drew.heap[w1.heap.size]? = _ from hb) hV
    exact ⟨blk_cell (i := 0) q rfl, blk_cell (i := 1) q rfl, blk_cell (i := 2) q rfl, blk_cell (i := 3) q rfl⟩
  have S1 := unhide HS W.drew (Below.refl _ _)
  have S0 : W.cell? ⟨w1.heap.size, 0, none⟩ = some (.int .u8 t0) ∧ W.cell? ⟨w1.heap.size, 1, none⟩ = some (.int .i64 t1) ∧ W.cell? ⟨w1.heap.size, 2, none⟩ = some (.int .i64 t2) ∧ W.cell? ⟨w1.heap.size, 3, none⟩ = some (.int .i64 t3) := S1
  obtain ⟨BB, hBB⟩ : ∃ BB, BB = w1.heap.size := ⟨_, rfl⟩
  rw [← hBB] at HS S0 S1
  have HW := hide (And.intro hW hBB)
  have he := unhide HE
  clear K b1 hW hb HE hBB
  go_upto_region 2 with fail
  rw [← (unhide HW).1, ← (unhide HW).2]
  clear HW
  obtain ⟨c0, c1, c2, c3⟩ := S0
  obtain ⟨d0, d1, d2, d3⟩ := S1
  cases tb
  · go_quiet (fail)
    have BX : Hid (∀ n, Below w.heap.size w (W.drewN n)) := fun n => below_drewN (unhide B1) n
    go_wp2
    go_ret
    rw [unhide HR]
    exact ⟨by simp, unhide BX _⟩
  · go_region_law ((go_simp; go_wp2_with (first | (go_at_call 52; refine (unhide KA _).mono ?_; rintro e_ z1 ⟨rfl, b2⟩; obtain ⟨g0, g1, g2, g3⟩ := unhide HS _ b2))))
    all_goals
      go_wp2_with fail
      exact bodyPost_ret (v := .bool q) (by simp [results, Tryz.results50, go_sem]) rfl ⟨by rw [unhide HR]; simp, bw_tr (unhide B2) b2⟩
end Go.Proofs.YtpcpcgagiapinaaGreatDoor.Tn.Pa

/- The contracts of path.origin and path.hasLeaf. -/
namespace Go.Proofs.YtpcpcgagiapinaaGreatDoor.Tn.Pa
open Go.RowKit Go.Maps
set_option maxRecDepth 100000 in
set_option maxHeartbeats 4000000 in
theorem origin_any {b : Nat} {sv : Value} {mb : Nat} {L : List Tm} {w : World} (h : St w b sv mb L) (x : Int) :
    Calls Tryz.prog 49 #[.pointer (some ⟨b, 0, none⟩), .int .i64 x] w fun e w' => e = .returned (.tuple #[.int .i64 (orgK L x), .int .i64 (orgS L x)]) ∧ Below w.heap.size w w' := by
  have K := hide (get_any b sv mb L x w h)
  have K2 : Hid (∀ W, Below w.heap.size w W → _) := fun W hW => get_any b sv mb L (getT L x).a W (h.bw hW)
  have ho := getT_fit h (getT L x).a
  have he := fun W => eq_tm h (getT L x).a (ok_s (k := 4) (l := 2) (by omega) (by omega) (show i64b (getT L (getT L x).a).a from ⟨ho.a1, ho.a2⟩)) W
  simp only at he
  obtain ⟨q, hq⟩ : ∃ q, q = decide (getT L (getT L x).a = ⟨4, 2, (getT L (getT L x).a).a, 0⟩) := ⟨_, rfl⟩
  have HK : Hid (orgB L x = (decide ((getT L x).kd = 5) && q) ∧ orgK L x = (if orgB L x = true then (getT L x).a else 0) ∧ orgS L x = (if orgB L x = true then (getT L (getT L x).a).a else 0)) := by
    refine ⟨?_, rfl, rfl⟩
    unfold orgB; rw [hq]
  rw [← hq] at he
  have HE := hide he
  clear h hq he ho
  generalize orgK L x = rk at *
  generalize orgS L x = rs at *
  generalize orgB L x = rb at *
  generalize thr L.length x = tb at *
  generalize thr L.length (getT L x).a = tb2 at *
  generalize (getT L (getT L x).a).kd = u0 at *
  generalize (getT L (getT L x).a).n = u1 at *
  generalize (getT L (getT L x).a).a = u2 at *
  generalize (getT L (getT L x).a).b = u3 at *
  generalize (getT L x).kd = t0 at *
  generalize (getT L x).n = t1 at *
  generalize (getT L x).a = t2 at *
  generalize (getT L x).b = t3 at *
  have KN := hide (fun W => nodeKey_any W u2)
  go_enter Tryz.func49, Tryz.ntmps49
  go_wp2_with fail
  refine (unhide K).mono ?_
  rintro e w1 ⟨rfl, b1⟩
  obtain ⟨W, hW⟩ : ∃ W, W = w1.alloc (.cells #[.int .u8 t0, .int .i64 t1, .int .i64 t2, .int .i64 t3] 64) := ⟨_, rfl⟩
  have B1 : Hid (Below w.heap.size w W) := by unfold Hid; rw [hW]; exact b1.alloc b1.size _
  obtain ⟨A, hA⟩ : ∃ A, A = w1.heap.size := ⟨_, rfl⟩
  have hb : W.heap[A]? = some (.cells #[.int .u8 t0, .int .i64 t1, .int .i64 t2, .int .i64 t3] 64 (0, 0)) := by rw [hW, hA]; exact heap_alloc_new _ _
  have c2 := blk_cell (i := 2) hb rfl
  have HW := hide (And.intro hW hA)
  have HB := hide hb
  have Q2 := hide (unhide K2 W (unhide B1))
  clear K K2 b1 hW hb hA
  go_upto_region 2 with fail
  rw [← (unhide HW).1, ← (unhide HW).2]
  clear HW
  go_wp2_with fail
  refine (unhide Q2).mono ?_
  rintro e w2 ⟨rfl, b2⟩
  obtain ⟨V, hV⟩ : ∃ V, V = w2.alloc (.cells #[.int .u8 u0, .int .i64 u1, .int .i64 u2, .int .i64 u3] 64) := ⟨_, rfl⟩
  have b3 : Below W.heap.size W V := by rw [hV]; exact b2.alloc b2.size _
  have B3 : Hid (Below w.heap.size w V) := bw_tr (unhide B1) b3
  obtain ⟨C, hC⟩ : ∃ C, C = w2.heap.size := ⟨_, rfl⟩
  have hc : V.heap[C]? = some (.cells #[.int .u8 u0, .int .i64 u1, .int .i64 u2, .int .i64 u3] 64 (0, 0)) := by rw [hV, hC]; exact heap_alloc_new _ _
  have ha := kept_blk (unhide HB) b3
  have HS : Hid (∀ Y, Below V.heap.size V Y → (Y.cell? ⟨A, 0, none⟩ = some (.int .u8 t0) ∧ Y.cell? ⟨A, 2, none⟩ = some (.int .i64 t2)) ∧ Y.cell? ⟨C, 0, none⟩ = some (.int .u8 u0) ∧ Y.cell? ⟨C, 1, none⟩ = some (.int .i64 u1) ∧ Y.cell? ⟨C, 2, none⟩ = some (.int .i64 u2) ∧ Y.cell? ⟨C, 3, none⟩ = some (.int .i64 u3)) := fun Y hY => by
    have q1 := kept_blk ha hY
    have q2 := kept_blk hc hY
    exact ⟨⟨blk_cell (i := 0) q1 rfl, blk_cell (i := 2) q1 rfl⟩, blk_cell (i := 0) q2 rfl, blk_cell (i := 1) q2 rfl, blk_cell (i := 2) q2 rfl, blk_cell (i := 3) q2 rfl⟩
  obtain ⟨⟨a0, a2⟩, c0, c1, c2, c3⟩ := unhide HS V (Below.refl _ _)
  obtain ⟨⟨d0, d2⟩, e0, e1, e2, e3⟩ := unhide HS V.drew (Below.refl _ _).drew
  have HV := hide (And.intro hV hC)
  have BX : Hid (∀ n, Below w.heap.size w (V.drewN n)) := fun n => below_drewN (unhide B3) n
  clear Q2 b2 hV hC hc ha HB b3
  go_upto_region 3 with fail
  rw [← (unhide HV).1, ← (unhide HV).2]
  clear HV
  by_cases hk : t0 = 5
  · have z1 : decide (t0 = 5) = true := by simpa using hk
    have HK2 : Hid (rk = (if q = true then t2 else 0) ∧ rs = (if q = true then u2 else 0)) := by
      obtain ⟨h1, h2, h3⟩ := unhide HK
      rw [h1, z1, Bool.true_and] at h2 h3
      exact ⟨h2, h3⟩
    subst hk
    have he := unhide HE
    clear HK HE z1
    cases q
    · obtain ⟨rfl, rfl⟩ : rk = 0 ∧ rs = 0 := by have := unhide HK2; simpa using this
      go_cut [32] from 32 to 39 (fun v wx => v = .bool true ∧ Hid (Below w.heap.size w wx))
      case first =>
        go_region_law ((go_simp; go_wp2_with (first | (go_at_call 88; refine (unhide KN _).mono ?_; rintro e_ z1 ⟨rfl, b4⟩; obtain ⟨⟨f0, f2⟩, g0, g1, g2, g3⟩ := unhide HS _ (bw_tr (Below.refl _ _).drew b4)))))
        all_goals
          go_wp2_with fail
          go_meet
          case rel => exact ⟨rfl, bw_tr (unhide B3).drew b4⟩
      case rest =>
        obtain ⟨rfl, hb⟩ := hcut
        clear a0 a2 c0 c1 c2 c3 d0 d2 e0 e1 e2 e3
        go_wp2
        go_ret2
        exact ⟨rfl, unhide hb⟩
    · obtain ⟨rfl, rfl⟩ : rk = t2 ∧ rs = u2 := by have := unhide HK2; simpa using this
      go_cut [32] from 32 to 39 (fun v wx => v = .bool false ∧ Hid (Below V.heap.size V wx))
      case first =>
        go_region_law ((go_simp; go_wp2_with (first | (go_at_call 88; refine (unhide KN _).mono ?_; rintro e_ z1 ⟨rfl, b4⟩; obtain ⟨⟨f0, f2⟩, g0, g1, g2, g3⟩ := unhide HS _ (bw_tr (Below.refl _ _).drew b4)))))
        all_goals
          go_wp2_with fail
          go_meet
          case rel => exact ⟨rfl, bw_tr (Below.refl _ _).drew b4⟩
      case rest =>
        obtain ⟨rfl, hb⟩ := hcut
        have BY : Hid (∀ n, Below w.heap.size w (wc.drewN n)) := fun n => below_drewN (bw_tr (unhide B3) (unhide hb)) n
        clear a0 a2 c0 c1 c2 c3 d0 d2 e0 e1 e2 e3
        obtain ⟨⟨a0, a2⟩, c0, c1, c2, c3⟩ := unhide HS wc (unhide hb)
        clear a0 c0 c1 c3
        go_wp2_with fail
        go_quiet (fail)
        go_wp2
        go_ret2
        exact ⟨rfl, unhide BY _⟩
  · have z1 : (t0 == 5) = false := by simpa using hk
    have z2 : decide (t0 = 5) = false := by simpa using hk
    have z3 : (t0 != 5) = true := by simpa using hk
    have HK2 : Hid (rk = 0 ∧ rs = 0) := by
      obtain ⟨h1, h2, h3⟩ := unhide HK
      rw [h1, z2] at h2 h3
      exact ⟨by simpa using h2, by simpa using h3⟩
    clear HK HE
    obtain ⟨rfl, rfl⟩ := unhide HK2
    go_quiet (fail)
    go_wp2
    go_ret2
    exact ⟨rfl, unhide BX _⟩
set_option maxRecDepth 100000 in
set_option maxHeartbeats 4000000 in
theorem hasLeafP_any {w : World} {v : Value} {T : List Nd} (h : Trd w v T) (hT : Tab w) (hm : mayB T = true) (i : Int) :
    Calls Tryz.prog 71 #[.agg #[v], .int .i64 i] w fun e w' => e = .returned (.bool (hasL T i)) ∧ Below w.heap.size w w' := by
  obtain ⟨a, c, rfl⟩ := h.slice
  obtain ⟨w0, hw0⟩ : ∃ w0, w0 = w.alloc (.cells #[.slice a T.length c] 44) := ⟨_, rfl⟩
  have x0 : Below w.heap.size w w0 := by rw [hw0]; exact bwA' _ _
  have k0 : w0.heap[w.heap.size]? = some (.cells #[.slice a T.length c] 44 (0, 0)) := by rw [hw0]; exact heap_alloc_new _ _
  have KS := size_any (h.bw x0) (hT.bw x0)
  rw [if_pos hm] at KS
  obtain ⟨-, hat⟩ := h.at
  obtain ⟨N, hN⟩ : ∃ N, N = T.length := ⟨_, rfl⟩
  obtain ⟨n, hn⟩ : ∃ n, n = nlv T := ⟨_, rfl⟩
  have h15 := (mayB_15 hm).1
  rw [← hN] at KS k0 hw0 ⊢
  rw [← hn] at KS
  have HK := hide KS
  have HW := hide hw0
  have c0 := blk_cell (i := 0) k0 rfl
  have hnl : n = (N + 1) / 2 := by rw [hn, hN]; rfl
  have hn16 : n ≤ 8 := by omega
  by_cases q : 0 ≤ i ∧ i < (n : Int)
  · obtain ⟨m, rfl⟩ : ∃ m : Nat, i = (m : Int) := ⟨i.toNat, by omega⟩
    have h2m : 2 * m < T.length := by omega
    obtain ⟨g, o, rfl, hc⟩ := hat (by omega)
    have HC : Hid (∀ W, Below w0.heap.size w0 W → W.cell? ⟨w.heap.size, 0, none⟩ = some (.slice (some ⟨g, o, none⟩) N c) ∧ W.cell? ⟨g, o + 2 * m * 4, none⟩ = some (.int .i64 (ndAt T (2 * m)).pub)) := fun W hW => by
      obtain ⟨u, h1, _⟩ := hc W (bw_tr x0 hW) (2 * m) h2m
      exact ⟨blk_cell (kept_blk k0 hW) rfl, h1.c0⟩
    have he : hasL T (m : Int) = decide ((ndAt T (2 * m)).pub ≠ 0) := by
      unfold hasL Go.Proofs.YtpcpcgagiapinaaGreatDoor.pos
      rw [← hn, decide_eq_true q.1, decide_eq_true q.2, Int.toNat_natCast]
      by_cases hP : (ndAt T (2 * m)).pub = 0 <;> simp [hP]
    rw [he]
    obtain ⟨y, hy⟩ : ∃ y : Nat, y = 2 * m := ⟨_, rfl⟩
    rw [← hy] at HC h2m
    obtain ⟨P, hP⟩ : ∃ P, P = (ndAt T (2 * m)).pub := ⟨_, rfl⟩
    rw [← hy] at hP
    rw [← hP] at HC
    rw [show (ndAt T (2 * m)).pub = P by rw [hP, hy]]
    have g1 : (0 : Int) ≤ (m : Int) := by omega
    have g2 : (m : Int) < (n : Int) := by omega
    have g3 : IntKind.i64.wrap (2 * (m : Int)) = (y : Int) := by rw [IntKind.wrap_i64]; omega
    have g4 : IntKind.i64.wrap (y : Int) = (y : Int) := by rw [IntKind.wrap_i64]; omega
    have g5 : (y : Int) < (N : Int) := by omega
    have g6 : (2 : Int) * (m : Int) = (y : Int) := by omega
    have B0 := hide x0
    clear h hT hm hw0 k0 KS hat hn hnl hn16 h15 hc he hy hP h2m q x0 hN
    go_enter Tryz.func71, Tryz.ntmps71
    go_upto_region 1 with fail
    rw [← unhide HW]
    go_wp2_with fail
    refine (unhide HK).mono ?_
    rintro e w1 ⟨rfl, b1⟩
    obtain ⟨c1, c2⟩ := unhide HC w1 b1
    have B1 := hide (bw_tr (unhide B0) b1)
    clear HK HC b1 HW c0
    go_wp2
    go_ret
    exact ⟨by by_cases hP : P = 0 <;> simp [hP, bne], unhide B1⟩
  · have he : hasL T i = false := by
      unfold hasL
      rw [← hn]
      by_cases q0 : 0 ≤ i
      · have : ¬ i < (n : Int) := fun c => q ⟨q0, c⟩
        simp [this]
      · simp [q0]
    rw [he]
    have B0 := hide x0
    have HQ : (i < 0) ∨ (0 ≤ i ∧ (n : Int) ≤ i) := by omega
    clear h hT hm hw0 k0 KS hat hn hnl h15 he hN x0 q hn16
    rcases HQ with q | ⟨q1, q2⟩
    · have g1 : decide ((0 : Int) ≤ i) = false := decide_eq_false (by omega)
      go_enter Tryz.func71, Tryz.ntmps71
      go_upto_region 1 with fail
      rw [← unhide HW]
      go_wp2
      go_ret
      exact ⟨rfl, unhide B0⟩
    · have g1 : decide (i < (n : Int)) = false := decide_eq_false (by omega)
      go_enter Tryz.func71, Tryz.ntmps71
      go_upto_region 1 with fail
      rw [← unhide HW]
      go_wp2_with fail
      refine (unhide HK).mono ?_
      rintro e w1 ⟨rfl, b1⟩
      have B1 := hide (bw_tr (unhide B0) b1)
      clear HK b1 HW c0
      go_wp2
      go_ret
      exact ⟨rfl, unhide B1⟩
end Go.Proofs.YtpcpcgagiapinaaGreatDoor.Tn.Pa
