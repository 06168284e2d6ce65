/- Texts joined: ScD PaR NTmRL PaS NTmAcW. -/
import Derived.Test.YtpcpcgagiapinaaGreatDoorZ18
import Derived.Test.YtpcpcgagiapinaaGreatDoorZ17
/- The contracts of sched.Next and sched.From, whatever is asked. -/
namespace Go.Proofs.YtpcpcgagiapinaaGreatDoor.Tn
open Go.RowKit Go.Maps
end Go.Proofs.YtpcpcgagiapinaaGreatDoor.Tn

/- The document's Kdf, Pub and is; its secrets of a path, its Node. -/
namespace Go.Proofs.YtpcpcgagiapinaaGreatDoor.Tn.Pa
open Go.RowKit Go.Maps
theorem rs_notin {w : World} {b : Nat} {sv : Value} {L : List Tm} {k : Nat} {cs : Array Value} {t : TypeId} (h : Rs w b sv L) (hk : w.heap[k]? = some (.cells cs t (0, 0))) (h1 : t ≠ 158) (h2 : t ≠ 64) : k ∉ rfoot b sv := by
  intro c
  rcases mem_rfoot.1 c with rfl | c
  · rw [h.blk] at hk; injection hk with hk; injection hk with _ hk; exact h1 hk.symm
  · obtain ⟨cur, e⟩ := h.row.block c; rw [e] at hk; injection hk with hk; injection hk with _ hk; exact h2 hk.symm
theorem rmk {b : Nat} {sv : Value} {L : List Tm} {w : World} (h : Rs w b sv L) (k n x y : Int) (ht : Tm.ok ⟨k, n, x, y⟩) (hm : may L.length ⟨k, n, x, y⟩ = true) (hl : L.length < 1048576) :
    Calls Tryz.prog 32 #[.pointer (some ⟨b, 0, none⟩), .agg #[.int .u8 k, .int .i64 n, .int .i64 x, .int .i64 y]] w fun e w' => e = .returned (.tuple #[.int .i64 (mkN L ⟨k, n, x, y⟩ : Nat), .int .i64 0]) ∧ ∃ sv', RStep w w' b sv sv' (mkL L ⟨k, n, x, y⟩) := by
  refine (rmake_any b sv L ⟨k, n, x, y⟩ w h ht).mono ?_
  rintro e w' ⟨rfl, s⟩
  rw [(mk_ok hm hl).1]
  exact ⟨rfl, s⟩
set_option maxRecDepth 100000 in
theorem rkdf {b : Nat} {sv : Value} {L : List Tm} {w : World} (h : Rs w b sv L) (l s c : Int) (ho : Tm.ok ⟨4, l, s, c⟩) (hm : may L.length ⟨4, l, s, c⟩ = true) (hl : L.length < 1048576) :
    Calls Tryz.prog 39 #[.pointer (some ⟨b, 0, none⟩), .int .i64 l, .int .i64 s, .int .i64 c] w fun e w' => e = .returned (.int .i64 (mkN L ⟨4, l, s, c⟩ : Nat)) ∧ ∃ sv', RStep w w' b sv sv' (mkL L ⟨4, l, s, c⟩) := by
  have K := hide (rmk h 4 l s c ho hm hl)
  obtain ⟨n, hn⟩ : ∃ n : Nat, n = mkN L ⟨4, l, s, c⟩ := ⟨_, rfl⟩
  rw [← hn] at K ⊢
  clear h hl hn ho hm
  go_enter Tryz.func39, Tryz.ntmps39
  go_wp2_with fail
  refine (unhide K).mono ?_
  rintro e w1 ⟨rfl, s⟩
  have S := hide s
  clear s K
  go_wp2
  go_ret
  exact ⟨rfl, unhide S⟩
set_option maxRecDepth 100000 in
theorem rpub {b : Nat} {sv : Value} {L : List Tm} {w : World} (h : Rs w b sv L) (s : Int) (ho : Tm.ok ⟨5, 0, s, 0⟩) (hm : may L.length ⟨5, 0, s, 0⟩ = true) (hl : L.length < 1048576) :
    Calls Tryz.prog 43 #[.pointer (some ⟨b, 0, none⟩), .int .i64 s] w fun e w' => e = .returned (.int .i64 (mkN L ⟨5, 0, s, 0⟩ : Nat)) ∧ ∃ sv', RStep w w' b sv sv' (mkL L ⟨5, 0, s, 0⟩) := by
  have K := hide (rmk h 5 0 s 0 ho hm hl)
  obtain ⟨n, hn⟩ : ∃ n : Nat, n = mkN L ⟨5, 0, s, 0⟩ := ⟨_, rfl⟩
  rw [← hn] at K ⊢
  clear h hl hn ho hm
  go_enter Tryz.func43, Tryz.ntmps43
  go_wp2_with fail
  refine (unhide K).mono ?_
  rintro e w1 ⟨rfl, s⟩
  have S := hide s
  clear s K
  go_wp2
  go_ret
  exact ⟨rfl, unhide S⟩
set_option maxRecDepth 100000 in
theorem ris {b : Nat} {sv : Value} {L : List Tm} {w : World} (h : Rs w b sv L) (x : Int) :
    Calls Tryz.prog 38 #[.pointer (some ⟨b, 0, none⟩), .int .i64 x] w fun e w' => e = .returned (.bool (thr L.length x)) ∧ Below w.heap.size w w' := by
  have K := hide (rget_any b sv L x w h)
  clear h
  generalize thr L.length x = r at *
  generalize getT L x = t at *
  go_enter Tryz.func38, Tryz.ntmps38
  go_wp2_with fail
  refine (unhide K).mono ?_
  rintro e w1 ⟨rfl, y⟩
  clear K
  go_wp2
  go_ret
  exact ⟨rfl, y.alloc y.size _⟩
structure RQ (w W : World) (b : Nat) (sv sv' : Value) (L' : List Tm) (lv : Value) (acc : List Nat) : Prop where
  s : RStep w W b sv sv' L'
  r : NRow w.heap.size W lv acc
theorem RQ.step {w W W' : World} {b : Nat} {sv sv1 sv2 : Value} {L1 L2 : List Tm} {lv : Value} {acc : List Nat} (h : RQ w W b sv sv1 L1 lv acc) (s : RStep W W' b sv1 sv2 L2) : RQ w W' b sv sv2 L2 lv acc :=
  ⟨h.s.trans s, h.r.keep (fun k hk => by obtain ⟨cur, e⟩ := h.r.block hk; exact s.fr.block k (lt_of_blk e) (rs_notin h.s.st e (by decide) (by decide)))⟩
theorem RQ.grown {w W W5 : World} {b : Nat} {sv sv1 : Value} {L1 : List Tm} {lv v' : Value} {acc acc' : List Nat} {ob : Obj} (h : RQ w W b sv sv1 L1 lv acc) (hr : NRow w.heap.size W5 v' acc') (hg : (W.alloc ob).grownBy W5 lv.ownBlock) : RQ w W5 b sv sv1 L1 v' acc' := by
  have f1 : Fr lv.ownBlock.toList W W5 := ((Fr.refl lv.ownBlock.toList W).alloc ob).tr (Fr.ofGrown hg)
  exact ⟨⟨h.s.st.keep f1 (fun k hk c => by
      obtain ⟨cur, e⟩ := h.r.block (k := k) (by simpa using c)
      exact rs_notin h.s.st e (by decide) (by decide) hk), h.s.fr.trans f1 (fun _ _ c => c) (fun k hk c => by have := (h.r.lt k (by simpa using c)).1; omega), h.s.place⟩, hr⟩
set_option maxRecDepth 100000 in
set_option maxHeartbeats 4000000 in
theorem qNode_ok {b : Nat} {sv : Value} {w : World} (p : List Tm × Nat) (h : Rs w b sv p.1) (hg : Gd p) (hl : p.1.length + 100 ≤ 1048575) :
    Calls Tryz.prog 11 #[.pointer (some ⟨b, 0, none⟩), .int .i64 (p.2 : Nat)] w fun e w' => e = .returned (.tuple #[.int .i64 ((key p).2 : Nat), .int .i64 ((pub p).2 : Nat), .int .i64 0]) ∧ ∃ sv', RStep w w' b sv sv' (pub p).1 := by
  have KI := hide (ris h (p.2 : Nat))
  rw [hg.thr] at KI
  have hkl := key_len p
  have K1 : Hid (∀ W, Below w.heap.size w W → Calls Tryz.prog 39 #[.pointer (some ⟨b, 0, none⟩), .int .i64 2, .int .i64 (p.2 : Nat), .int .i64 0] W fun e W2 => e = .returned (.int .i64 ((key p).2 : Nat)) ∧ Calls Tryz.prog 43 #[.pointer (some ⟨b, 0, none⟩), .int .i64 ((key p).2 : Nat)] W2 fun e W3 => e = .returned (.int .i64 ((pub p).2 : Nat)) ∧ ∃ sv', RStep w W3 b sv sv' (pub p).1) := fun W hW => by
    have s := RStep.same h hW
    refine (rkdf s.st 2 _ 0 (ok_nx hg 2 (by omega) (by omega)) (may_nx hg 2 (by omega)) (by omega)).mono ?_
    rintro e W2 ⟨e1, sv2, h2⟩
    refine ⟨e1, (rpub h2.st _ (ok_pb (key_gd hg (by omega)) (by simp only [key] at hkl ⊢; omega)) (may_pb (key_gd hg (by omega))) (by simp only [key] at hkl; omega)).mono ?_⟩
    rintro e W3 ⟨e2, sv3, h3⟩
    exact ⟨e2, sv3, (s.trans h2).trans h3⟩
  clear h hg hl hkl
  generalize (key p).2 = k1 at *
  generalize (pub p).1 = L2 at *
  generalize (pub p).2 = k2 at *
  generalize p.2 = x at *
  go_enter Tryz.func11, Tryz.ntmps11
  go_wp2_with fail
  refine (unhide KI).mono ?_
  rintro e w1 ⟨rfl, b1⟩
  have Q1 := hide (unhide K1 w1 b1)
  clear KI K1 b1
  go_wp2_with fail
  refine (unhide Q1).mono ?_
  rintro e w2 ⟨rfl, Q2⟩
  have HQ2 := hide Q2
  clear Q2 Q1
  go_wp2_with fail
  refine (unhide HQ2).mono ?_
  rintro e w3 ⟨rfl, sv3, s3⟩
  have S3 := hide s3
  clear s3 HQ2
  go_wp2
  exact bodyPost_ret (v := .tuple #[.int .i64 (k1 : Int), .int .i64 (k2 : Int), .int .i64 0]) (by simp [results, Tryz.results11, go_sem]) rfl ⟨rfl, sv3, unhide S3⟩
end Go.Proofs.YtpcpcgagiapinaaGreatDoor.Tn.Pa

/- Contracts of the document's List and Data. -/
namespace Go.Proofs.YtpcpcgagiapinaaGreatDoor.Tn
open Go.RowKit Go.Maps
theorem NRow.rfoot {B : Nat} {w : World} {v : Value} {l : List Nat} {b : Nat} {sv : Value} {L : List Tm} (h : NRow B w v l) (hs : Rs w b sv L) : ∀ k, v.ownBlock = some k → k ∉ rfoot b sv := by
  intro k hk c
  obtain ⟨cur, hc⟩ := h.block hk
  rcases mem_rfoot.1 c with rfl | c
  · have := hs.blk; rw [hc] at this; simp at this
  · exact rows_apart hs.row h c hk
end Go.Proofs.YtpcpcgagiapinaaGreatDoor.Tn

/- What the document's Secrets and Node refuse; path.Secrets without a store. -/
namespace Go.Proofs.YtpcpcgagiapinaaGreatDoor.Tn.Pa
open Go.RowKit Go.Maps
end Go.Proofs.YtpcpcgagiapinaaGreatDoor.Tn.Pa

/- The contract of Across. -/
namespace Go.Proofs.YtpcpcgagiapinaaGreatDoor.Tn
open Go.RowKit Go.Maps
theorem mapT_ok {ph : List Nat} {t : Tm} (h : t.ok) (hb : ∀ i, ph.getD i 0 ≤ 1048576) : (mapT ph t).ok :=
  ⟨h.k1, h.k2, h.n1, h.n2, by have := hb t.a.toNat; simp only [mapT]; omega, by have := hb t.a.toNat; simp only [mapT]; omega, by have := hb t.b.toNat; simp only [mapT]; omega, by have := hb t.b.toNat; simp only [mapT]; omega⟩
theorem Acr.bound {L : List Tm} {i : Nat} {R : List Tm} {ph : List Nat} (h : Acr L i R ph) (k : Nat) : ph.getD k 0 ≤ 1048576 := by
  have hl := h.good.len
  have hlen := h.len
  by_cases c : k < ph.length
  · by_cases c0 : k = 0
    · subst c0; rw [h.zero]; omega
    · have := h.rng k (by omega) (by omega); omega
  · simp [List.getD, List.getElem?_eq_none (Nat.le_of_not_lt c)]
end Go.Proofs.YtpcpcgagiapinaaGreatDoor.Tn
