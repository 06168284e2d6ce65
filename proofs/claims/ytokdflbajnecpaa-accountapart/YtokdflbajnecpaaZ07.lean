/- Texts joined: AcB AcC AcD AcE AcF. -/
import Derived.Test.YtokdflbajnecpaaZ06
import Derived.Deep.RegionHeld3
/- Package account: data and whole of a list that is put together. -/
namespace Go.Proofs.Ytokdflbajnecpaa.Tn.Ax
open Go.RowKit Go.Maps
theorem dt_one {L : List Tm} {z : Int} (hl : L.length < 1048576) : dt L [z] = (mkL L ⟨2, z, 0, 0⟩, ((mkN L ⟨2, z, 0, 0⟩ : Nat) : Int), 0) := by
  have h1 := (mk_ok (may_dat L.length z) hl).1
  have t := (mkN_thr (may_dat L.length z) hl).1
  show (if mkE L ⟨2, z, 0, 0⟩ = 0 then _ else _) = _
  rw [if_pos h1]
  show ls (mkL L ⟨2, z, 0, 0⟩) [((mkN L ⟨2, z, 0, 0⟩ : Nat) : Int)] = _
  unfold ls
  rw [if_pos (by simp [t])]
  rfl
theorem AS.errs {w W : World} {b : Nat} {sv sv1 : Value} {mb : Nat} {L1 : List Tm} {p : Nat} {lv lv1 : Value} {acc : List Nat} (h : AS w W b sv sv1 mb L1 p lv lv1 acc) : AS w (W.setCell ⟨p, 2, none⟩ (.int .i64 0)) b sv sv1 mb L1 p lv lv1 acc := by
  have f2 : Fr [p] W (W.setCell ⟨p, 2, none⟩ (.int .i64 0)) := (Fr.refl _ _).setCell (a := ⟨p, 2, none⟩) (Or.inr (by simp)) _
  have hnp := row_ne h.blk h.row
  refine ⟨h.st.keep f2 (fun x hx c => ?_), ?_, h.row.keep (fun x hx => f2.block x (h.row.lt x hx).2 (by simpa using hnp x hx)), h.fr.trans f2 (fun _ _ c => c) (fun x hx c => List.mem_append_right _ (by simp at c; simp [c])), h.place, h.placeL⟩
  · simp at c; subst c; exact h.st.notin h.blk (by decide) (by decide) hx
  · have := poke_blk (i := 2) h.blk (.int .i64 0)
    simpa using this
theorem nis_new1 (W : World) (t : TypeId) (z : Int) (hz : i64r z) : NIs (W.alloc (.cells #[.int .i64 z] t)) (.slice (some ⟨W.heap.size, 0, none⟩) 1 1) [z] := by
  refine ⟨some ⟨W.heap.size, 0, none⟩, 1, rfl, by simp, fun x hx => by simp at hx; subst hx; exact hz, Or.inr ⟨W.heap.size, 0, rfl, fun j u hj => ?_⟩⟩
  match j, hj with
  | 0, hj => cases hj; exact blk_cell (heap_alloc_new W (.cells #[.int .i64 z] t)) rfl
set_option maxRecDepth 100000 in
set_option maxHeartbeats 4000000 in
theorem data_all {b : Nat} {sv : Value} {mb : Nat} {L : List Tm} {w : World} (h : St w b sv mb L) (p : Nat) (lv : Value) (acc : List Nat) (hb : w.heap[p]? = some (.cells #[.pointer (some ⟨b, 0, none⟩), lv, .int .i64 0] 77 (0, 0))) (hr : NRow 0 w lv acc) (nv : Value) (ns : List Int) (hn : ∀ W, Fr (foot b sv mb ++ p :: lv.ownBlock.toList) w W → NIs W nv ns) (hl : L.length + ns.length ≤ 1048576) (hns : ns.length ≤ 100) (hac : acc.length ≤ 500) :
    Calls Try.prog 41 #[.pointer (some ⟨p, 0, none⟩), nv] w fun e w' => e = .returned (.tuple #[]) ∧ ∃ sv' lv', AS w w' b sv sv' mb (dats (L, acc) ns).1 p lv lv' (dats (L, acc) ns).2 := by
  obtain ⟨a, cap, rfl, -, hz, -⟩ := hn w (Fr.refl _ _)
  obtain ⟨N, hN⟩ : ∃ N, N = ns.length := ⟨_, rfl⟩
  rw [← hN] at hn ⊢
  have hNb : N ≤ 100 := by omega
  have HN := hide hN
  have HH := hide (And.intro h (And.intro hb (And.intro hr (And.intro hn (And.intro hz (And.intro hl hac))))))
  clear hN h hb hr hn hz hl hac hns
  go_enter Try.func41, Try.ntmps41
  go_wp2_with fail
  go_loopw [9] (fun iv wr => ∃ (k : Nat) (sv' lv' : Value), k ≤ N ∧ iv = .int .i64 (k : Int) ∧ Hid (AS w wr b sv sv' mb (dats (L, acc) (ns.take k)).1 p lv lv' (dats (L, acc) (ns.take k)).2)) (fun iv _ => (N - intOf iv).toNat)
  case atStart => exact ⟨0, sv, lv, Nat.zero_le _, rfl, AS.refl (unhide HH).1 (unhide HH).2.1 (unhide HH).2.2.1⟩
  case round =>
    obtain ⟨k, sv', lv', hk, rfl, HR⟩ := hrel
    by_cases hlt : k < N
    · obtain ⟨z, hzk⟩ : ∃ z, ns[k]? = some z := ⟨_, List.getElem?_eq_getElem (by rw [← unhide HN]; exact hlt)⟩
      obtain ⟨-, -, -, hn, hz, hl, hac⟩ := unhide HH
      have hzb := hz z (List.mem_of_getElem? hzk)
      obtain ⟨g, o, rfl, cz⟩ : ∃ g o, a = some ⟨g, o, none⟩ ∧ wr.cell? ⟨g, o + k, none⟩ = some (.int .i64 z) := by
        obtain ⟨a', cap', hv, -, -, hc⟩ := hn wr (unhide HR).fr
        cases hv
        rcases hc with hc | ⟨g, o, rfl, hc⟩
        · rw [hc] at hzk; simp at hzk
        · exact ⟨g, o, rfl, hc k z hzk⟩
      have hd := dats_len (ns.take k) (L, acc)
      rw [List.length_take] at hd
      obtain ⟨P, hP⟩ : ∃ P, P = dats (L, acc) (ns.take k) := ⟨_, rfl⟩
      have hP2 : dats (L, acc) (ns.take (k + 1)) = dat P z := by rw [hP]; exact dats_snoc _ _ _ _ hzk
      rw [← hP] at HR hd
      have hl1 : P.1.length < 1048576 := by have := unhide HN; simp only at hd; omega
      have hal : P.2.length ≤ 1000 := by simp only at hd; omega
      have hblk := (unhide HR).blk
      have c0 : wr.cell? ⟨p, 0, none⟩ = some (.pointer (some ⟨b, 0, none⟩)) := blk_cell hblk rfl
      have c2 : wr.cell? ⟨p, 2, none⟩ = some (.int .i64 0) := blk_cell hblk rfl
      obtain ⟨w1, hw1⟩ : ∃ w1, w1 = wr.alloc (.cells #[.int .i64 z] 2) := ⟨_, rfl⟩
      have bw1 : Below wr.heap.size wr w1 := by rw [hw1]; exact bwA' _ _
      have A1 := (unhide HR).bw bw1
      have KD : Hid (Calls Try.prog 66 #[.pointer (some ⟨b, 0, none⟩), .slice (some ⟨wr.heap.size, 0, none⟩) 1 1] w1 fun e w' => e = .returned (.tuple #[.int .i64 ((mkN P.1 ⟨2, z, 0, 0⟩ : Nat) : Int), .int .i64 0]) ∧ ∃ sv2, SStep w1 w' b sv' sv2 mb (mkL P.1 ⟨2, z, 0, 0⟩)) := by
        have := data_any b sv' mb P.1 (.slice (some ⟨wr.heap.size, 0, none⟩) 1 1) [z] w1 A1.st (by rw [hw1]; exact nis_new1 _ _ z hzb) (fun x hx c => by
          cases hx
          exact absurd ((unhide HR).st.lt _ c) (Nat.lt_irrefl _)) (by simp)
        rw [dt_one hl1] at this
        exact this
      obtain ⟨n', hn'⟩ : ∃ n' : Nat, n' = mkN P.1 ⟨2, z, 0, 0⟩ := ⟨_, rfl⟩
      rw [← hn'] at KD
      have HD : Hid (∀ W' sv2, SStep w1 W' b sv' sv2 mb (mkL P.1 ⟨2, z, 0, 0⟩) → AS w W' b sv sv2 mb (dat P z).1 p lv lv' P.2) := fun W' sv2 s => A1.step s
      have HT : Hid (∀ W sv2, AS w W b sv sv2 mb (dat P z).1 p lv lv' P.2 → Calls Try.prog 42 #[.pointer (some ⟨p, 0, none⟩), .slice (some ⟨W.heap.size, 0, none⟩) 1 1] (W.alloc (.cells #[.int .i64 (n' : Int)] 3)) fun e w' => e = .returned (.tuple #[]) ∧ ∃ lv2, AS w w' b sv sv2 mb (dat P z).1 p lv lv2 (dat P z).2) := fun W sv2 A => by
        have B := A.bw (bwA' W (.cells #[.int .i64 (n' : Int)] 3))
        refine (terms_any B.st p lv' P.2 B.blk B.row W.heap.size n' (blk_cell (heap_alloc_new W _) rfl) hal).mono ?_
        rintro e w' ⟨h1, lv2, h2⟩
        refine ⟨h1, lv2, ?_⟩
        have e : (dat P z).2 = P.2 ++ [n'] := by rw [hn']; rfl
        rw [e]
        exact B.trans h2
      have HX := hide hP2
      have HW := hide hw1
      clear hn hz hl hac hzb hzk hP hd hl1 hP2 hn' HR A1 bw1 hw1 hblk hal
      go_wp2_with fail
      rw [← unhide HW]
      refine (unhide KD).mono ?_
      rintro e w4 ⟨rfl, sv2, s2⟩
      have D4 := unhide HD w4 sv2 s2
      have c0' : w4.cell? ⟨p, 0, none⟩ = some (.pointer (some ⟨b, 0, none⟩)) := blk_cell D4.blk rfl
      have c2' : w4.cell? ⟨p, 2, none⟩ = some (.int .i64 0) := blk_cell D4.blk rfl
      have f2' : w4.frozen? ⟨p, 2, none⟩ = false := blk_froz D4.blk
      have KT := hide (unhide HT _ sv2 D4.errs)
      have hs4 : (w4.setCell ⟨p, 2, none⟩ (.int .i64 0)).heap.size = w4.heap.size := by simp [World.setCell]
      rw [hs4] at KT
      clear KD s2 HD HT D4 HW c0 c2 hs4
      go_wp2_with fail
      refine (unhide KT).mono ?_
      rintro e w5 ⟨rfl, lv2, a5⟩
      have A5 := hide a5
      clear a5 KT c0' c2' f2'
      rw [← unhide HX] at A5
      go_wp2_with fail
      go_roundw
      case rel => exact ⟨k + 1, sv2, lv2, by omega, by go_num, A5⟩
      case measure => simp only [intOf]; omega
    · have e : k = N := by omega
      subst e
      have e2 : ns.take k = ns := List.take_of_length_le (by have := unhide HN; omega)
      rw [e2] at HR
      clear e2 HH HN
      go_wp2_with fail
      go_end0
      exact ⟨rfl, sv', lv', unhide HR⟩
theorem AS.nis {w : World} {lv : Value} {acc : List Nat} {N : Nat} (hr : NRow 0 w lv acc) (hg : Rg N acc) (hN : N ≤ 1048576) (hac : acc.length ≤ 1000) : NIs w lv (cI acc) := hr.nis (by omega) (fun m hm => by have := hg m hm; omega)
set_option maxRecDepth 100000 in
set_option maxHeartbeats 4000000 in
theorem whole_all {b : Nat} {sv : Value} {mb : Nat} {L : List Tm} {w : World} (h : St w b sv mb L) (p : Nat) (lv : Value) (acc : List Nat) (hb : w.heap[p]? = some (.cells #[.pointer (some ⟨b, 0, none⟩), lv, .int .i64 0] 77 (0, 0))) (hr : NRow 0 w lv acc) (hg : Rg L.length acc) (hL : L.length ≤ 1048576) (hac : acc.length ≤ 1000) :
    Calls Try.prog 43 #[.pointer (some ⟨p, 0, none⟩)] w fun e w' => e = .returned (.tuple #[.int .i64 (ls L (cI acc)).2.1, .int .i64 (ls L (cI acc)).2.2]) ∧ ∃ sv', SStep w w' b sv sv' mb (ls L (cI acc)).1 := by
  have c0 : w.cell? ⟨p, 0, none⟩ = some (.pointer (some ⟨b, 0, none⟩)) := blk_cell hb rfl
  have c1 : w.cell? ⟨p, 1, none⟩ = some lv := blk_cell hb rfl
  have c2 : w.cell? ⟨p, 2, none⟩ = some (.int .i64 0) := blk_cell hb rfl
  have hnis := AS.nis hr hg hL hac
  have KL : Hid (Calls Try.prog 63 #[.pointer (some ⟨b, 0, none⟩), lv] w.drew fun e w' => e = .returned (.tuple #[.int .i64 (ls L (cI acc)).2.1, .int .i64 (ls L (cI acc)).2.2]) ∧ (w'.cell? ⟨p, 0, none⟩ = some (.pointer (some ⟨b, 0, none⟩)) ∧ w'.cell? ⟨p, 1, none⟩ = some lv) ∧ ∃ sv', SStep w w' b sv sv' mb (ls L (cI acc)).1) := by
    have bn : Below w.heap.size w w.drew := (Below.refl _ _).drew
    refine (list_any b sv mb L lv (cI acc) w.drew (h.bw bn) (hnis.bw bn) (hr.foot h)).mono ?_
    rintro e w' ⟨h1, sv', s⟩
    have s2 := (SStep.same h bn).trans s
    have hb2 := kept_fr hb h s2.fr (by decide) (by decide)
    exact ⟨h1, ⟨blk_cell hb2 rfl, blk_cell hb2 rfl⟩, sv', s2⟩
  have S0 : w.cell? ⟨p, 0, none⟩ = some (.pointer (some ⟨b, 0, none⟩)) ∧ w.cell? ⟨p, 1, none⟩ = some lv := ⟨c0, c1⟩
  obtain ⟨ga, cp, rfl⟩ : ∃ ga cp, lv = .slice ga acc.length cp := by
    rcases hr.form with ⟨c, d⟩ | ⟨g, cap, c, -⟩
    · subst d; exact ⟨_, _, c⟩
    · exact ⟨_, cap, c⟩
  clear h hb hr hg hL hac hnis
  generalize (ls L (cI acc)).2.1 = X at *
  generalize (ls L (cI acc)).2.2 = E at *
  generalize (ls L (cI acc)).1 = L' at *
  generalize acc.length = N at *
  go_enter Try.func43, Try.ntmps43
  go_wp2_with fail
  go_region_held3 (fun w' : World => w'.cell? ⟨p, 0, none⟩ = some (.pointer (some ⟨b, 0, none⟩)) ∧ w'.cell? ⟨p, 1, none⟩ = some (.slice ga N cp)) (first | with_reducible exact S0 | with_reducible exact S1 | exact S0) (first
      | (go_at_call 63; refine (unhide KL).mono ?_; rintro e z1 ⟨rfl, S1, s1⟩)
      | fail)
  all_goals
    go_wp2
    go_ret2
    exact ⟨rfl, s1⟩
end Go.Proofs.Ytokdflbajnecpaa.Tn.Ax

/- Package account: who comes in, in memory; hasPubs; change. -/
namespace Go.Proofs.Ytokdflbajnecpaa.Tn.Ax
open Go.RowKit Go.Maps
structure Ad where
  m : Int
  e : Int
  p : Int
def Ad.ok (a : Ad) : Prop := i64r a.m ∧ i64r a.e ∧ i64r a.p
def AAt (w : World) (g o : Nat) (a : Ad) : Prop :=
  w.cell? ⟨g, o, none⟩ = some (.int .i64 a.m) ∧ w.cell? ⟨g, o + 1, none⟩ = some (.int .i64 a.e) ∧ w.cell? ⟨g, o + 2, none⟩ = some (.int .i64 a.p)
def Ads (w : World) (v : Value) (l : List Ad) : Prop :=
  ∃ a cap, v = .slice a l.length cap ∧ l.length ≤ 140737488355328 ∧ (∀ x ∈ l, x.ok) ∧ (l = [] ∨ ∃ g o, a = some ⟨g, o, none⟩ ∧ ∀ i t, l[i]? = some t → AAt w g (o + i * 3) t)
theorem AAt.keep {w w' : World} {g o : Nat} {t : Ad} (h : AAt w g o t) (hb : w'.heap[g]? = w.heap[g]?) : AAt w' g o t := by
  unfold AAt World.cell? at *
  rw [hb]; exact h
theorem AAt.lt {w : World} {g o : Nat} {t : Ad} (h : AAt w g o t) : g < w.heap.size := lt_of_cell h.1
theorem Ads.fr {S : List Nat} {w w' : World} {v : Value} {l : List Ad} (h : Ads w v l) (hb : Fr S w w') (hS : ∀ k, v.ownBlock = some k → k ∉ S) : Ads w' v l := by
  obtain ⟨a, cap, rfl, hl, hz, hc⟩ := h
  refine ⟨a, cap, rfl, hl, hz, ?_⟩
  rcases hc with hc | ⟨g, o, rfl, hc⟩
  · exact Or.inl hc
  · exact Or.inr ⟨g, o, rfl, fun i t ht => (hc i t ht).keep (hb.block g (hc i t ht).lt (hS g rfl))⟩
theorem Ads.bw {w w' : World} {v : Value} {l : List Ad} (h : Ads w v l) (hb : Below w.heap.size w w') : Ads w' v l := h.fr (Fr.ofBelow hb) (by simp)
theorem Ads.get {w : World} {a : Option Addr} {n cap : Nat} {l : List Ad} (h : Ads w (.slice a n cap) l) {i : Nat} {x : Ad} (hi : l[i]? = some x) : ∃ g o, a = some ⟨g, o, none⟩ ∧ AAt w g (o + i * 3) x := by
  obtain ⟨a', cap', hv, -, -, hc⟩ := h
  cases hv
  rcases hc with hc | ⟨g, o, rfl, hc⟩
  · rw [hc] at hi; simp at hi
  · exact ⟨g, o, rfl, hc i x hi⟩
theorem nis_shape {w : World} {v : Value} {l : List Int} (h : NIs w v l) : ∃ a cap, v = .slice a l.length cap := by obtain ⟨a, cap, h, -⟩ := h; exact ⟨a, cap, h⟩
theorem Ads.shape {w : World} {v : Value} {l : List Ad} (h : Ads w v l) : ∃ a cap, v = .slice a l.length cap := by obtain ⟨a, cap, h, -⟩ := h; exact ⟨a, cap, h⟩
def pubs (N : Nat) (l : List Ad) : Bool := l.all fun a => thr N a.p
set_option maxRecDepth 100000 in
set_option maxHeartbeats 4000000 in
theorem haspubs_any {b : Nat} {sv : Value} {mb : Nat} {L : List Tm} {w : World} (h : St w b sv mb L) (va : Value) (l : List Ad) (hv : Ads w va l) :
    Calls Try.prog 32 #[.pointer (some ⟨b, 0, none⟩), va] w fun e w' => e = .returned (.bool (pubs L.length l)) ∧ Below w.heap.size w w' := by
  obtain ⟨a, cap, rfl⟩ := hv.shape
  obtain ⟨N, hN⟩ : ∃ N, N = l.length := ⟨_, rfl⟩
  have hlen : l.length ≤ 140737488355328 := by obtain ⟨_, _, _, h, _⟩ := hv; exact h
  rw [← hN] at hv ⊢
  have hNb : (N : Int) ≤ 140737488355328 := by omega
  have HN := hide hN
  have HH := hide (And.intro h hv)
  obtain ⟨R, hR⟩ : ∃ R, R = pubs L.length l := ⟨_, rfl⟩
  rw [← hR]
  have HRR := hide hR
  clear hN h hv hlen hR
  go_enter Try.func32, Try.ntmps32
  go_wp2_with fail
  go_loopw [9] (fun iv wr => ∃ (k : Nat), k ≤ N ∧ iv = .int .i64 (k : Int) ∧ Hid (Below w.heap.size w wr ∧ ∀ i x, i < k → l[i]? = some x → thr L.length x.p = true)) (fun iv _ => (N - intOf iv).toNat)
  case atStart => exact ⟨0, Nat.zero_le _, rfl, Below.refl _ _, fun i x hi => by omega⟩
  case round =>
    obtain ⟨k, hk, rfl, HR⟩ := hrel
    by_cases hlt : k < N
    · obtain ⟨z, hzk⟩ : ∃ z, l[k]? = some z := ⟨_, List.getElem?_eq_getElem (by rw [← unhide HN]; exact hlt)⟩
      obtain ⟨hb, hp⟩ := unhide HR
      obtain ⟨g, o, rfl, c0, c1, c2⟩ := ((unhide HH).2.bw hb).get hzk
      obtain ⟨m, e, p⟩ := z
      simp only at c0 c1 c2
      have hst := (unhide HH).1.bw hb
      obtain ⟨r, hr⟩ : ∃ r, r = thr L.length p := ⟨_, rfl⟩
      have KH : Hid (∀ W, Below wr.heap.size wr W → Calls Try.prog 39 #[.pointer (some ⟨b, 0, none⟩), .int .i64 p] W fun e w' => e = .returned (.bool r) ∧ Below W.heap.size W w') := fun W hW => by rw [hr]; exact hhas_any (hst.bw hW) p
      have HB := hide hb
      have HP := hide (And.intro hp (And.intro hzk hr))
      clear hb hp hst hzk hr HR
      go_wp2_with fail
      refine (unhide KH _ (bwA' _ _)).mono ?_
      rintro e2 w2 ⟨rfl, b2⟩
      have B2 : Hid (Below w.heap.size w w2) := bw_tr ((unhide HB).alloc (unhide HB).size _) b2
      clear KH b2 HB c0 c1 c2
      cases r
      · obtain rfl : R = false := by
          rw [unhide HRR]
          refine Bool.eq_false_iff.2 (fun c => ?_)
          have := List.all_eq_true.1 c _ (List.mem_of_getElem? (unhide HP).2.1)
          rw [← (unhide HP).2.2] at this
          cases this
        clear HP HRR HH HN
        go_wp2
        go_ret
        exact ⟨rfl, unhide B2⟩
      · have HR2 : Hid (Below w.heap.size w w2 ∧ ∀ i x, i < k + 1 → l[i]? = some x → thr L.length x.p = true) := ⟨unhide B2, fun i x hi hx => by
          rcases Nat.lt_or_ge i k with q | q
          · exact (unhide HP).1 i x q hx
          · obtain rfl : i = k := by omega
            rw [(unhide HP).2.1] at hx
            cases hx
            exact (unhide HP).2.2.symm⟩
        clear HP B2
        go_wp2_with fail
        go_roundw
        case rel => exact ⟨k + 1, by omega, by go_num, HR2⟩
        case measure => simp only [intOf]; omega
    · have e : k = N := by omega
      subst e
      obtain rfl : R = true := by
        rw [unhide HRR]
        refine List.all_eq_true.2 (fun x hx => ?_)
        obtain ⟨i, hi, rfl⟩ := List.getElem_of_mem hx
        exact (unhide HR).2 i _ (by have := unhide HN; omega) (List.getElem?_eq_getElem hi)
      have B := hide (unhide HR).1
      clear HR HRR HH HN
      go_wp2
      go_ret
      exact ⟨rfl, unhide B⟩
def adP (P : List Tm × List Nat) (a : Ad) : List Tm × List Nat := ((dats P [a.m, a.e]).1, (dats P [a.m, a.e]).2 ++ [a.p.toNat])
def adsP (P : List Tm × List Nat) (l : List Ad) : List Tm × List Nat := l.foldl adP P
def chP (L : List Tm) (adds : List Ad) (rem : List Int) : List Tm × List Nat := dats (dats (adsP (dats (L, []) [(adds.length : Int)]) adds) [(rem.length : Int)]) rem
theorem adP_len (P : List Tm × List Nat) (a : Ad) : (adP P a).1.length ≤ P.1.length + 2 ∧ P.1.length ≤ (adP P a).1.length ∧ (adP P a).2.length = P.2.length + 3 := by
  have := dats_len [a.m, a.e] P
  simp only [List.length_cons, List.length_nil] at this
  exact ⟨by show (dats P [a.m, a.e]).1.length ≤ _; omega, by show _ ≤ (dats P [a.m, a.e]).1.length; omega, by simp [adP]; omega⟩
theorem adsP_len (l : List Ad) : ∀ P : List Tm × List Nat, (adsP P l).1.length ≤ P.1.length + 2 * l.length ∧ P.1.length ≤ (adsP P l).1.length ∧ (adsP P l).2.length = P.2.length + 3 * l.length := by
  induction l with
  | nil => intro P; simp [adsP]
  | cons a r ih =>
    intro P
    have h := ih (adP P a)
    have k := adP_len P a
    have e : adsP P (a :: r) = adsP (adP P a) r := rfl
    rw [e]
    simp only [List.length_cons]
    omega
theorem adsP_snoc (P : List Tm × List Nat) (l : List Ad) (k : Nat) (a : Ad) (h : l[k]? = some a) : adsP P (l.take (k + 1)) = adP (adsP P (l.take k)) a := by
  unfold adsP
  rw [List.take_add_one, h]
  simp
theorem Rg.adP {P : List Tm × List Nat} (h : Rg P.1.length P.2) (a : Ad) (N : Nat) (ha : thr N a.p = true) (hN : N ≤ P.1.length) (hl : P.1.length + 2 ≤ 1048576) : Rg (adP P a).1.length (adP P a).2 := by
  refine (h.dats [a.m, a.e] (by simpa using hl)).snoc ?_
  have := thr_iff.1 ha
  have := (dats_len [a.m, a.e] P).2.1
  omega
theorem Rg.adsP (l : List Ad) (N : Nat) : ∀ {P : List Tm × List Nat}, Rg P.1.length P.2 → (∀ a ∈ l, thr N a.p = true) → N ≤ P.1.length → P.1.length + 2 * l.length ≤ 1048576 → Rg (Ax.adsP P l).1.length (Ax.adsP P l).2 := by
  induction l with
  | nil => intro P h _ _ _; exact h
  | cons a r ih =>
    intro P h ha hN hl
    simp only [List.length_cons] at hl
    have k := adP_len P a
    exact ih (h.adP a N (ha a (by simp)) hN (by omega)) (fun x hx => ha x (by simp [hx])) (by omega) (by omega)
theorem Rg.nil (N : Nat) : Rg N [] := fun m hm => by cases hm
theorem chP_len (L : List Tm) (adds : List Ad) (rem : List Int) : (chP L adds rem).1.length ≤ L.length + 2 + 2 * adds.length + rem.length ∧ L.length ≤ (chP L adds rem).1.length ∧ (chP L adds rem).2.length = 2 + 3 * adds.length + rem.length := by
  have h1 := dats_len [(adds.length : Int)] (L, [])
  have h2 := adsP_len adds (dats (L, []) [(adds.length : Int)])
  have h3 := dats_len [(rem.length : Int)] (adsP (dats (L, []) [(adds.length : Int)]) adds)
  have h4 := dats_len rem (dats (adsP (dats (L, []) [(adds.length : Int)]) adds) [(rem.length : Int)])
  simp only [List.length_cons, List.length_nil] at h1 h2 h3 h4
  unfold chP
  omega
theorem chP_rg {L : List Tm} {adds : List Ad} (rem : List Int) (ha : ∀ a ∈ adds, thr L.length a.p = true) (hl : L.length + 2 + 2 * adds.length + rem.length ≤ 1048576) : Rg (chP L adds rem).1.length (chP L adds rem).2 := by
  have h1 := dats_len [(adds.length : Int)] (L, [])
  have h2 := adsP_len adds (dats (L, []) [(adds.length : Int)])
  have h3 := dats_len [(rem.length : Int)] (adsP (dats (L, []) [(adds.length : Int)]) adds)
  simp only [List.length_cons, List.length_nil] at h1 h2 h3
  have r1 := Rg.dats [(adds.length : Int)] (p := (L, [])) (Rg.nil _) (by simp; omega)
  have r2 := Rg.adsP adds L.length r1 ha (by omega) (by omega)
  have r3 := Rg.dats [(rem.length : Int)] r2 (by simp; omega)
  exact Rg.dats rem r3 (by omega)
end Go.Proofs.Ytokdflbajnecpaa.Tn.Ax

/- Package account: change. -/
namespace Go.Proofs.Ytokdflbajnecpaa.Tn.Ax
open Go.RowKit Go.Maps
def Kp (W W' : World) : Prop := ∀ (k : Nat) (cs : Array Value) (t : TypeId), W.heap[k]? = some (.cells cs t (0, 0)) → t ≠ 101 → t ≠ 55 → t ≠ 77 → t ≠ 3 → W'.heap[k]? = some (.cells cs t (0, 0))
theorem AS.kp {W W' : World} {b : Nat} {sv sv1 : Value} {mb : Nat} {L L1 : List Tm} {p : Nat} {lv lv1 : Value} {acc acc1 : List Nat} (h : AS W W' b sv sv1 mb L1 p lv lv1 acc1) (hs : St W b sv mb L) (hb : W.heap[p]? = some (.cells #[.pointer (some ⟨b, 0, none⟩), lv, .int .i64 0] 77 (0, 0))) (hr : NRow 0 W lv acc) : Kp W W' := fun k cs t hk h1 h2 h3 h4 => by
  rw [h.fr.block k (lt_of_blk hk) (fun c => ?_)]; exact hk
  rcases List.mem_append.1 c with c | c
  · exact hs.notin hk h1 h2 c
  · rcases List.mem_cons.1 c with c | c
    · subst c; rw [hb] at hk; injection hk with hk; injection hk with _ hk; exact h3 hk.symm
    · obtain ⟨cur, hc⟩ := hr.block (k := k) (by simpa using c)
      rw [hc] at hk; injection hk with hk; injection hk with _ hk; exact h4 hk.symm
theorem AS.lts {w W : World} {b : Nat} {sv sv1 : Value} {mb : Nat} {L : List Tm} {p : Nat} {lv lv1 : Value} {acc : List Nat} (A : AS w W b sv sv1 mb L p lv lv1 acc) : ∀ x ∈ foot b sv1 mb ++ p :: lv1.ownBlock.toList, x < W.heap.size := fun x hx => by
  rcases List.mem_append.1 hx with c | c
  · exact A.st.lt x c
  · rcases List.mem_cons.1 c with c | c
    · subst c; exact lt_of_blk A.blk
    · exact (A.row.lt x (by simpa using c)).2
def iC (ns : List Int) : Array Value := (ns.map fun z => Value.int .i64 z).toArray
theorem nis_new (W : World) (t : TypeId) (ns : List Int) (hz : ∀ z ∈ ns, i64r z) (hl : ns.length ≤ 100) : NIs (W.alloc (.cells (iC ns) t)) (.slice (some ⟨W.heap.size, 0, none⟩) ns.length ns.length) ns := by
  refine ⟨_, _, rfl, by omega, hz, Or.inr ⟨W.heap.size, 0, rfl, fun j u hj => ?_⟩⟩
  refine blk_cell (heap_alloc_new W (.cells (iC ns) t)) ?_
  simp [iC, hj]
theorem AS.data_new {w W : World} {b : Nat} {sv sv1 : Value} {mb : Nat} {L : List Tm} {p : Nat} {lv lv1 : Value} {acc : List Nat} (A : AS w W b sv sv1 mb L p lv lv1 acc) (ns : List Int) (hz : ∀ z ∈ ns, i64r z) (hl : L.length + ns.length ≤ 1048576) (hns : ns.length ≤ 100) (hac : acc.length ≤ 500) :
    Calls Try.prog 41 #[.pointer (some ⟨p, 0, none⟩), .slice (some ⟨W.heap.size, 0, none⟩) ns.length ns.length] (W.alloc (.cells (iC ns) 3)) fun e w' => e = .returned (.tuple #[]) ∧ Kp (W.alloc (.cells (iC ns) 3)) w' ∧ ∃ sv' lv', AS w w' b sv sv' mb (dats (L, acc) ns).1 p lv lv' (dats (L, acc) ns).2 := by
  have B := A.bw (bwA' W (.cells (iC ns) 3))
  refine (data_all B.st p lv1 acc B.blk B.row _ ns (fun V hV => (nis_new W 3 ns hz hns).fr hV (fun k hk c => ?_)) hl hns hac).mono ?_
  · cases hk; exact absurd (A.lts _ c) (Nat.lt_irrefl _)
  · rintro e w' ⟨h1, sv', lv', h2⟩
    exact ⟨h1, h2.kp B.st B.blk B.row, sv', lv', B.trans h2⟩
theorem AS.data_old {w W : World} {b : Nat} {sv sv1 : Value} {mb : Nat} {L : List Tm} {p : Nat} {lv lv1 : Value} {acc : List Nat} (A : AS w W b sv sv1 mb L p lv lv1 acc) (nv : Value) (ns : List Int) (hn : ∀ V, Fr (foot b sv mb ++ p :: lv.ownBlock.toList) w V → NIs V nv ns) (hl : L.length + ns.length ≤ 1048576) (hns : ns.length ≤ 100) (hac : acc.length ≤ 500) :
    Calls Try.prog 41 #[.pointer (some ⟨p, 0, none⟩), nv] W fun e w' => e = .returned (.tuple #[]) ∧ ∃ sv' lv', AS w w' b sv sv' mb (dats (L, acc) ns).1 p lv lv' (dats (L, acc) ns).2 := by
  refine (data_all A.st p lv1 acc A.blk A.row _ ns (fun V hV => hn V (A.frs hV)) hl hns hac).mono ?_
  rintro e w' ⟨h1, sv', lv', h2⟩
  exact ⟨h1, sv', lv', A.trans h2⟩
theorem AS.terms_new {w W : World} {b : Nat} {sv sv1 : Value} {mb : Nat} {L : List Tm} {p : Nat} {lv lv1 : Value} {acc : List Nat} (A : AS w W b sv sv1 mb L p lv lv1 acc) (n : Nat) (hac : acc.length ≤ 1000) :
    Calls Try.prog 42 #[.pointer (some ⟨p, 0, none⟩), .slice (some ⟨W.heap.size, 0, none⟩) 1 1] (W.alloc (.cells #[.int .i64 (n : Int)] 3)) fun e w' => e = .returned (.tuple #[]) ∧ Kp (W.alloc (.cells #[.int .i64 (n : Int)] 3)) w' ∧ ∃ lv', AS w w' b sv sv1 mb L p lv lv' (acc ++ [n]) := by
  have B := A.bw (bwA' W (.cells #[.int .i64 (n : Int)] 3))
  refine (terms_any B.st p lv1 acc B.blk B.row W.heap.size n (blk_cell (heap_alloc_new W _) rfl) hac).mono ?_
  rintro e w' ⟨h1, lv2, h2⟩
  exact ⟨h1, h2.kp B.st B.blk B.row, lv2, B.trans h2⟩
theorem far0 {w V : World} {b : Nat} {sv : Value} {mb : Nat} {ob : Obj} (k : Fr (foot b sv mb ++ w.heap.size :: (Value.slice none 0 0).ownBlock.toList) (w.alloc ob) V) : Fr (foot b sv mb) w V :=
  (((Fr.refl (foot b sv mb ++ [w.heap.size]) w).alloc ob).tr (k.mono (fun x _ c => by simpa [Value.ownBlock] using c))).mono (fun x hx c => by
      rcases List.mem_append.1 c with c | c
      · exact c
      · simp at c; omega)
set_option maxRecDepth 100000 in
set_option maxHeartbeats 8000000 in
theorem change_ok {b : Nat} {sv : Value} {mb : Nat} {L : List Tm} {w : World} (h : St w b sv mb L) (va : Value) (adds : List Ad) (hva : ∀ V, Fr (foot b sv mb) w V → Ads V va adds) (vr : Value) (rem : List Int) (hvr : ∀ V, Fr (foot b sv mb) w V → NIs V vr rem) (ha8 : adds.length ≤ 8) (hr8 : rem.length ≤ 8) (hp : ∀ a ∈ adds, thr L.length a.p = true) (hl : L.length + 100 ≤ 1048576) :
    Calls Try.prog 35 #[.pointer (some ⟨b, 0, none⟩), va, vr] w fun e w' => e = .returned (.tuple #[.int .i64 (ls (chP L adds rem).1 (cI (chP L adds rem).2)).2.1, .int .i64 (ls (chP L adds rem).1 (cI (chP L adds rem).2)).2.2]) ∧ ∃ sv', SStep w w' b sv sv' mb (ls (chP L adds rem).1 (cI (chP L adds rem).2)).1 := by
  obtain ⟨aa, ca, rfl⟩ := (hva w (Fr.refl _ _)).shape
  obtain ⟨ar, cr, rfl⟩ := nis_shape (hvr w (Fr.refl _ _))
  obtain ⟨N, hN⟩ : ∃ N, N = adds.length := ⟨_, rfl⟩
  obtain ⟨M, hM⟩ : ∃ M, M = rem.length := ⟨_, rfl⟩
  obtain ⟨w0, hw0⟩ : ∃ w0, w0 = w.alloc (.cells #[.pointer (some ⟨b, 0, none⟩), .slice none 0 0, .int .i64 0] 77) := ⟨_, rfl⟩
  have HA0 : Hid (AS w0 w0 b sv sv mb L w.heap.size (.slice none 0 0) (.slice none 0 0) []) := by
    rw [hw0]
    exact AS.refl (h.bw (bwA' _ _)) (heap_alloc_new _ _) (NRow.nil _ _)
  obtain ⟨p, hp0⟩ : ∃ p, p = w.heap.size := ⟨_, rfl⟩
  obtain ⟨P1, hP1⟩ : ∃ P1, P1 = dats (L, []) [(N : Int)] := ⟨_, rfl⟩
  have l1 := dats_len [(N : Int)] (L, [])
  rw [← hP1] at l1
  simp only [List.length_cons, List.length_nil] at l1
  have K1 : Hid (Calls Try.prog 41 #[.pointer (some ⟨p, 0, none⟩), .slice (some ⟨w0.heap.size, 0, none⟩) 1 1] (w0.alloc (.cells #[.int .i64 (N : Int)] 3)) fun e w' => e = .returned (.tuple #[]) ∧ ∃ sv' lv', AS w0 w' b sv sv' mb P1.1 p (.slice none 0 0) lv' P1.2) := by
    have := (unhide HA0).data_new [(N : Int)] (fun z hz => by simp at hz; subst hz; unfold i64r; omega) (by simp; omega) (by simp) (by simp)
    rw [← hP1, ← hp0] at this
    refine Calls.mono this ?_
    rintro e w' ⟨h1, -, h2⟩
    exact ⟨h1, h2⟩
  have HG : Hid (∀ V, Fr (foot b sv mb ++ p :: (Value.slice none 0 0).ownBlock.toList) w0 V → Ads V (.slice aa N ca) adds ∧ NIs V (.slice ar M cr) rem) := fun V hV => by
    rw [hp0, hw0] at hV
    have := far0 hV
    rw [hN, hM]
    exact ⟨hva V this, hvr V this⟩
  have HE : Hid (∀ W sv' lv' X Y, AS w0 W b sv sv' mb X p (.slice none 0 0) lv' Y → SStep w W b sv sv' mb X) := fun W sv' lv' X Y A => by
    rw [hp0, hw0] at A
    exact A.sstep
  have HL2 : Hid (∀ k, k ≤ N → (adsP P1 (adds.take k)).1.length + 40 ≤ 1048576 ∧ (adsP P1 (adds.take k)).2.length ≤ 100) := fun k hk => by
    have := adsP_len (adds.take k) P1
    rw [List.length_take] at this
    omega
  have HP : Hid (∀ a ∈ adds, thr L.length a.p = true ∧ a.ok) := fun a ha => ⟨hp a ha, by obtain ⟨_, _, _, _, hz, _⟩ := hva w (Fr.refl _ _); exact hz a ha⟩
  have r4 := chP_rg rem hp (by omega)
  have l4 := chP_len L adds rem
  obtain ⟨P4, hP4⟩ : ∃ P4, P4 = chP L adds rem := ⟨_, rfl⟩
  rw [← hP4] at r4 l4 ⊢
  obtain ⟨P2, hP2⟩ : ∃ P2, P2 = adsP P1 adds := ⟨_, rfl⟩
  have l2 := adsP_len adds P1
  obtain ⟨P3, hP3⟩ : ∃ P3, P3 = dats P2 [(M : Int)] := ⟨_, rfl⟩
  have l3 := dats_len [(M : Int)] P2
  rw [← hP2] at l2
  rw [← hP3] at l3
  simp only [List.length_cons, List.length_nil] at l3
  have e4 : P4 = dats P3 rem := by rw [hP4, hP3, hP2, hP1, hN, hM]; rfl
  have KS3 : Hid (∀ W sv' lv', AS w0 W b sv sv' mb P2.1 p (.slice none 0 0) lv' P2.2 → Calls Try.prog 41 #[.pointer (some ⟨p, 0, none⟩), .slice (some ⟨W.heap.size, 0, none⟩) 1 1] (W.alloc (.cells #[.int .i64 (M : Int)] 3)) fun e w' => e = .returned (.tuple #[]) ∧ ∃ sv' lv', AS w0 w' b sv sv' mb P3.1 p (.slice none 0 0) lv' P3.2) := fun W sv' lv' A => by
    have := A.data_new [(M : Int)] (fun z hz => by simp at hz; subst hz; unfold i64r; omega) (by simp; omega) (by simp) (by omega)
    rw [show (P2.1, P2.2) = P2 from rfl, ← hP3] at this
    refine Calls.mono this ?_
    rintro e w' ⟨h1, -, h2⟩
    exact ⟨h1, h2⟩
  have KS4 : Hid (∀ W sv' lv', AS w0 W b sv sv' mb P3.1 p (.slice none 0 0) lv' P3.2 → Calls Try.prog 41 #[.pointer (some ⟨p, 0, none⟩), .slice ar M cr] W fun e w' => e = .returned (.tuple #[]) ∧ ∃ sv' lv', AS w0 w' b sv sv' mb P4.1 p (.slice none 0 0) lv' P4.2) := fun W sv' lv' A => by
    have := A.data_old (.slice ar M cr) rem (fun V hV => (unhide HG V hV).2) (by omega) (by omega) (by omega)
    rw [show (P3.1, P3.2) = P3 from rfl, ← e4] at this
    exact this
  have KS5 : Hid (∀ W sv' lv', AS w0 W b sv sv' mb P4.1 p (.slice none 0 0) lv' P4.2 → Calls Try.prog 43 #[.pointer (some ⟨p, 0, none⟩)] W fun e w' => e = .returned (.tuple #[.int .i64 (ls P4.1 (cI P4.2)).2.1, .int .i64 (ls P4.1 (cI P4.2)).2.2]) ∧ ∃ sv', SStep w w' b sv sv' mb (ls P4.1 (cI P4.2)).1) := fun W sv' lv' A => by
    refine (whole_all A.st p lv' P4.2 A.blk A.row r4 (by omega) (by omega)).mono ?_
    rintro e w' ⟨h1, sv2, s⟩
    exact ⟨h1, sv2, (unhide HE _ _ _ _ _ A).trans s⟩
  have HT : Hid (adsP P1 (adds.take N) = P2 ∧ adsP P1 (adds.take 0) = P1) := ⟨by rw [hP2, hN, List.take_of_length_le (Nat.le_refl _)], rfl⟩
  have hNb : (N : Int) ≤ 8 := by omega
  have HW := hide hw0
  have HPP := hide hp0
  have HN := hide hN
  have HLL := hide l1.2.1
  rw [← hN, ← hM]
  clear h hva hvr ha8 hr8 hp hl hN hM hw0 HA0 hp0 hP1 l1 r4 l4 hP4 hP2 l2 hP3 l3 e4
  generalize (ls P4.1 (cI P4.2)).2.1 = X at *
  generalize (ls P4.1 (cI P4.2)).2.2 = E at *
  generalize (ls P4.1 (cI P4.2)).1 = L5 at *
  go_enter Try.func35, Try.ntmps35
  go_upto_region 2 with fail
  rw [← unhide HW, ← unhide HPP]
  clear HW HPP
  go_wp2_with fail
  refine (unhide K1).mono ?_
  rintro e w1 ⟨rfl, sv1, lv1, a1⟩
  have A1 := hide a1
  clear a1 K1
  go_wp2_with fail
  go_loopw [19] (fun iv wr => ∃ (k : Nat), k ≤ N ∧ iv = .int .i64 (k : Int) ∧ Hid (∃ sv' lv', AS w0 wr b sv sv' mb (adsP P1 (adds.take k)).1 p (.slice none 0 0) lv' (adsP P1 (adds.take k)).2)) (fun iv _ => (N - intOf iv).toNat)
  case atStart => exact ⟨0, Nat.zero_le _, rfl, sv1, lv1, unhide A1⟩
  case round =>
    clear A1
    obtain ⟨k, hk, rfl, HR⟩ := hrel
    by_cases hlt : k < N
    · obtain ⟨z, hzk⟩ : ∃ z, adds[k]? = some z := ⟨_, List.getElem?_eq_getElem (by rw [← unhide HN]; exact hlt)⟩
      obtain ⟨sv2, lv2, A⟩ := unhide HR
      obtain ⟨hzt, hz1, hz2, hz3⟩ := unhide HP z (List.mem_of_getElem? hzk)
      obtain ⟨g, o, rfl, c0, c1, c2⟩ := (unhide HG wr A.fr).1.get hzk
      obtain ⟨q1, q2⟩ := unhide HL2 k hk
      have e5 := adsP_snoc P1 adds k z hzk
      have qp := adsP_len (adds.take k) P1
      obtain ⟨P, hP⟩ : ∃ P, P = adsP P1 (adds.take k) := ⟨_, rfl⟩
      rw [← hP] at A q1 q2 e5 qp
      obtain ⟨m, e, pb⟩ := z
      simp only at c0 c1 c2 hzt hz1 hz2 hz3
      obtain ⟨n, rfl⟩ : ∃ n : Nat, pb = n := ⟨pb.toNat, by have := thr_iff.1 hzt; omega⟩
      obtain ⟨Q, hQ⟩ : ∃ Q, Q = dats P [m, e] := ⟨_, rfl⟩
      have lq := dats_len [m, e] P
      rw [← hQ] at lq
      simp only [List.length_cons, List.length_nil] at lq
      obtain ⟨wa, hwa⟩ : ∃ wa, wa = wr.alloc (.cells #[.int .i64 m, .int .i64 e, .int .i64 (n : Int)] 65) := ⟨_, rfl⟩
      have ba : Below wr.heap.size wr wa := by rw [hwa]; exact bwA' _ _
      have bk : wa.heap[wr.heap.size]? = some (.cells #[.int .i64 m, .int .i64 e, .int .i64 (n : Int)] 65 (0, 0)) := by rw [hwa]; exact heap_alloc_new _ _
      have Aa := A.bw ba
      have d0 : wa.cell? ⟨wr.heap.size, 0, none⟩ = some (.int .i64 m) := blk_cell bk rfl
      have d1 : wa.cell? ⟨wr.heap.size, 1, none⟩ = some (.int .i64 e) := blk_cell bk rfl
      have KD : Hid (Calls Try.prog 41 #[.pointer (some ⟨p, 0, none⟩), .slice (some ⟨wa.heap.size, 0, none⟩) 2 2] (wa.alloc (.cells #[.int .i64 m, .int .i64 e] 3)) fun e w' => e = .returned (.tuple #[]) ∧ w'.cell? ⟨wr.heap.size, 2, none⟩ = some (.int .i64 (n : Int)) ∧ ∃ sv' lv', AS w0 w' b sv sv' mb Q.1 p (.slice none 0 0) lv' Q.2) := by
        have := Aa.data_new [m, e] (fun z hz => by
          simp at hz
          rcases hz with rfl | rfl
          · exact hz1
          · exact hz2) (by simp; omega) (by simp) (by omega)
        rw [show (P.1, P.2) = P from rfl, ← hQ] at this
        refine Calls.mono this ?_
        rintro e w' ⟨h1, hk, h2⟩
        exact ⟨h1, blk_cell (hk _ _ _ (by rw [Below.heap_alloc _ _ _ (lt_of_blk bk)]; exact bk) (by decide) (by decide) (by decide) (by decide)) rfl, h2⟩
      have KT : Hid (∀ W sv' lv', AS w0 W b sv sv' mb Q.1 p (.slice none 0 0) lv' Q.2 → Calls Try.prog 42 #[.pointer (some ⟨p, 0, none⟩), .slice (some ⟨W.heap.size, 0, none⟩) 1 1] (W.alloc (.cells #[.int .i64 (n : Int)] 3)) fun e w' => e = .returned (.tuple #[]) ∧ ∃ sv' lv', AS w0 w' b sv sv' mb (adsP P1 (adds.take (k + 1))).1 p (.slice none 0 0) lv' (adsP P1 (adds.take (k + 1))).2) := fun W sv' lv' A => by
        refine (A.terms_new n (by omega)).mono ?_
        rintro ee w' ⟨h1, -, lv2, h2⟩
        refine ⟨h1, sv', lv2, ?_⟩
        rw [e5, show adP P ⟨m, e, (n : Int)⟩ = (Q.1, Q.2 ++ [n]) from by rw [hQ]; simp [adP]]
        exact h2
      have HWA := hide hwa
      clear A HR hzk hzt hz1 hz2 hz3 q1 q2 e5 qp hP hQ lq hwa ba bk Aa
      go_upto_region 6 with fail
      rw [← unhide HWA]
      clear HWA
      go_wp2_with fail
      refine (unhide KD).mono ?_
      rintro e2 w3 ⟨rfl, d2, sv3, lv3, a3⟩
      have Q3 := hide (unhide KT _ _ _ a3)
      clear a3 KD KT d0 d1 c0 c1 c2
      go_wp2_with fail
      refine (unhide Q3).mono ?_
      rintro e2 w4 ⟨rfl, a4⟩
      have A4 := hide a4
      clear a4 Q3 d2
      go_wp2_with fail
      go_roundw
      case rel => exact ⟨k + 1, by omega, by go_num, A4⟩
      case measure => simp only [intOf]; omega
    · have e : k = N := by omega
      subst e
      obtain ⟨sv2, lv2, A⟩ := unhide HR
      rw [(unhide HT).1] at A
      have Q3 := hide (unhide KS3 _ _ _ A)
      clear A HR HP HG HL2 HE HT HN KS3
      go_wp2_with fail
      refine (unhide Q3).mono ?_
      rintro e w3 ⟨rfl, sv3, lv3, a3⟩
      have Q4 := hide (unhide KS4 _ _ _ a3)
      clear a3 Q3 KS4
      go_wp2_with fail
      refine (unhide Q4).mono ?_
      rintro e w4 ⟨rfl, sv4, lv4, a4⟩
      have Q5 := hide (unhide KS5 _ _ _ a4)
      clear a4 Q4 KS5
      go_wp2_with fail
      refine (unhide Q5).mono ?_
      rintro e w5 ⟨rfl, s5⟩
      have S5 := hide s5
      clear s5 Q5
      go_wp2
      go_ret2
      exact ⟨rfl, unhide S5⟩
end Go.Proofs.Ytokdflbajnecpaa.Tn.Ax

/- Package account: derived, card; the closures of Digest, Seed and Card, and Whole of each. -/
namespace Go.Proofs.Ytokdflbajnecpaa.Tn.Ax
open Go.RowKit Go.Maps
set_option maxRecDepth 100000 in
theorem acderived_any (w : World) (l s c : Int) :
    Calls Try.prog 44 #[.int .i64 l, .int .i64 s, .int .i64 c] w fun e w' => e = .returned (.agg #[.int .u8 4, .int .i64 l, .int .i64 s, .int .i64 c]) ∧ Below w.heap.size w w' := by
  go_enter Try.func44, Try.ntmps44
  go_wp2
  exact bodyPost_ret (v := .agg #[.int .u8 4, .int .i64 l, .int .i64 s, .int .i64 c]) (by simp [results, Try.results44, go_sem]) rfl ⟨rfl, bwA' _ _⟩
set_option maxRecDepth 100000 in
set_option maxHeartbeats 4000000 in
theorem whole_dig {b : Nat} {sv : Value} {mb : Nat} {L L' : List Tm} {w : World} (h : St w b sv mb L) (m : Int) (hm : 0 ≤ m) (hl : (L.length : Int) + m ≤ 1048575) (p1 p2 : Nat) (r : Int)
    (K : ∀ W, Below w.heap.size w W → Calls Try.prog 34 #[.pointer (some ⟨b, 0, none⟩), .pointer (some ⟨p1, 0, none⟩), .pointer (some ⟨p2, 0, none⟩)] W fun e w' => e = .returned (.tuple #[.int .i64 r, .int .i64 0]) ∧ ∃ sv', SStep w w' b sv sv' mb L') :
    Calls Try.prog 33 #[.pointer (some ⟨b, 0, none⟩), .int .i64 m, .func (.func 34) #[] #[.pointer (some ⟨p1, 0, none⟩), .pointer (some ⟨p2, 0, none⟩)]] w fun e w' => e = .returned (.tuple #[.int .i64 r, .int .i64 0]) ∧ ∃ sv', SStep w w' b sv sv' mb L' := by
  have KL : Hid (∀ W, Below w.heap.size w W → Calls Try.prog 50 #[.pointer (some ⟨b, 0, none⟩)] W fun e w' => e = .returned (.int .i64 (L.length : Int)) ∧ w' = W) := fun W hW => len_any b sv mb L W (h.bw hW)
  have KF := hide K
  obtain ⟨N, hN⟩ : ∃ N : Int, N = (L.length : Int) := ⟨_, rfl⟩
  rw [← hN] at KL
  obtain ⟨R, hR⟩ : ∃ R : Int, R = 1048576 - N := ⟨_, rfl⟩
  have r0 : (1048576 : Int) - N = R := hR.symm
  have r1 : IntKind.i64.wrap R = R := by rw [IntKind.wrap_i64]; omega
  have r2 : 0 < R := by omega
  have r3 : decide (R < m) = false := decide_eq_false (by omega)
  have r4 : m ≤ R := by omega
  clear h hl hN hR K hm
  go_enter Try.func33, Try.ntmps33
  go_wp2_with fail
  refine (unhide KL _ (Below.refl _ _)).mono ?_
  rintro e w0 ⟨rfl, rfl⟩
  clear KL
  go_wp2_with fail
  refine (unhide KF _ (Below.refl _ _)).mono ?_
  rintro e w4 ⟨rfl, s4⟩
  have S4 := hide s4
  clear s4 KF r0 r1 r2 r3 r4
  go_wp2
  go_ret2
  exact ⟨rfl, unhide S4⟩
set_option maxRecDepth 100000 in
set_option maxHeartbeats 4000000 in
theorem whole_seed {b : Nat} {sv : Value} {mb : Nat} {L L' : List Tm} {w : World} (h : St w b sv mb L) (m : Int) (hm : 0 ≤ m) (hl : (L.length : Int) + m ≤ 1048575) (p1 p2 p3 p4 p5 : Nat) (r : Int)
    (K : ∀ W, Below w.heap.size w W → Calls Try.prog 40 #[.pointer (some ⟨b, 0, none⟩), .pointer (some ⟨p1, 0, none⟩), .pointer (some ⟨p2, 0, none⟩), .pointer (some ⟨p3, 0, none⟩), .pointer (some ⟨p4, 0, none⟩), .pointer (some ⟨p5, 0, none⟩)] W fun e w' => e = .returned (.tuple #[.int .i64 r, .int .i64 0]) ∧ ∃ sv', SStep w w' b sv sv' mb L') :
    Calls Try.prog 33 #[.pointer (some ⟨b, 0, none⟩), .int .i64 m, .func (.func 40) #[] #[.pointer (some ⟨p1, 0, none⟩), .pointer (some ⟨p2, 0, none⟩), .pointer (some ⟨p3, 0, none⟩), .pointer (some ⟨p4, 0, none⟩), .pointer (some ⟨p5, 0, none⟩)]] w fun e w' => e = .returned (.tuple #[.int .i64 r, .int .i64 0]) ∧ ∃ sv', SStep w w' b sv sv' mb L' := by
  have KL : Hid (∀ W, Below w.heap.size w W → Calls Try.prog 50 #[.pointer (some ⟨b, 0, none⟩)] W fun e w' => e = .returned (.int .i64 (L.length : Int)) ∧ w' = W) := fun W hW => len_any b sv mb L W (h.bw hW)
  have KF := hide K
  obtain ⟨N, hN⟩ : ∃ N : Int, N = (L.length : Int) := ⟨_, rfl⟩
  rw [← hN] at KL
  obtain ⟨R, hR⟩ : ∃ R : Int, R = 1048576 - N := ⟨_, rfl⟩
  have r0 : (1048576 : Int) - N = R := hR.symm
  have r1 : IntKind.i64.wrap R = R := by rw [IntKind.wrap_i64]; omega
  have r2 : 0 < R := by omega
  have r3 : decide (R < m) = false := decide_eq_false (by omega)
  have r4 : m ≤ R := by omega
  clear h hl hN hR K hm
  go_enter Try.func33, Try.ntmps33
  go_wp2_with fail
  refine (unhide KL _ (Below.refl _ _)).mono ?_
  rintro e w0 ⟨rfl, rfl⟩
  clear KL
  go_wp2_with fail
  refine (unhide KF _ (Below.refl _ _)).mono ?_
  rintro e w4 ⟨rfl, s4⟩
  have S4 := hide s4
  clear s4 KF r0 r1 r2 r3 r4
  go_wp2
  go_ret2
  exact ⟨rfl, unhide S4⟩
set_option maxRecDepth 100000 in
set_option maxHeartbeats 4000000 in
theorem whole_card {b : Nat} {sv : Value} {mb : Nat} {L L' : List Tm} {w : World} (h : St w b sv mb L) (m : Int) (hm : 0 ≤ m) (hl : (L.length : Int) + m ≤ 1048575) (p1 : Nat) (r1 r2 : Int)
    (K : ∀ W, Below w.heap.size w W → Calls Try.prog 47 #[.pointer (some ⟨b, 0, none⟩), .pointer (some ⟨p1, 0, none⟩)] W fun e w' => e = .returned (.tuple #[.agg #[.int .i64 r1, .int .i64 r2], .int .i64 0]) ∧ ∃ sv', SStep W w' b sv sv' mb L') :
    Calls Try.prog 46 #[.pointer (some ⟨b, 0, none⟩), .int .i64 m, .func (.func 47) #[] #[.pointer (some ⟨p1, 0, none⟩)]] w fun e w' => e = .returned (.tuple #[.agg #[.int .i64 r1, .int .i64 r2], .int .i64 0]) ∧ ∃ sv', SStep w w' b sv sv' mb L' := by
  have KL : Hid (∀ W, Below w.heap.size w W → Calls Try.prog 50 #[.pointer (some ⟨b, 0, none⟩)] W fun e w' => e = .returned (.int .i64 (L.length : Int)) ∧ w' = W) := fun W hW => len_any b sv mb L W (h.bw hW)
  have KF := hide K
  obtain ⟨N, hN⟩ : ∃ N : Int, N = (L.length : Int) := ⟨_, rfl⟩
  rw [← hN] at KL
  obtain ⟨R, hR⟩ : ∃ R : Int, R = 1048576 - N := ⟨_, rfl⟩
  have r0 : (1048576 : Int) - N = R := hR.symm
  have r1' : IntKind.i64.wrap R = R := by rw [IntKind.wrap_i64]; omega
  have r2' : 0 < R := by omega
  have r3 : decide (R < m) = false := decide_eq_false (by omega)
  have r4 : m ≤ R := by omega
  obtain ⟨w0, hw0⟩ : ∃ w0, w0 = w.alloc (.cells #[.int .i64 0, .int .i64 0] 83) := ⟨_, rfl⟩
  have b0 : Below w.heap.size w w0 := by rw [hw0]; exact bwA' _ _
  have k0 : w0.heap[w.heap.size]? = some (.cells #[.int .i64 0, .int .i64 0] 83 (0, 0)) := by rw [hw0]; exact heap_alloc_new _ _
  have K0 := hide (unhide KF w0 b0)
  have KL0 := hide (unhide KL w0 b0)
  have HH := hide (And.intro h (And.intro b0 k0))
  have HW := hide hw0
  clear h hl hN hR K hm hw0 b0 k0 KF KL
  go_enter Try.func46, Try.ntmps46
  go_upto_region 1 with fail
  rw [← unhide HW]
  clear HW
  go_wp2_with fail
  refine (unhide KL0).mono ?_
  rintro e w1 ⟨rfl, rfl⟩
  clear KL0
  go_wp2_with fail
  refine (unhide K0).mono ?_
  rintro e w4 ⟨rfl, sv4, s4⟩
  obtain ⟨h, b0, k0⟩ := unhide HH
  have k4 := kept_fr k0 (h.bw b0) s4.fr (by decide) (by decide)
  have S4 : Hid (SStep w w4 b sv sv4 mb L') := (SStep.same h b0).trans s4
  have g0 : w4.cell? ⟨w.heap.size, 0, none⟩ = some (.int .i64 0) := blk_cell k4 rfl
  have g1 : w4.cell? ⟨w.heap.size, 1, none⟩ = some (.int .i64 0) := blk_cell k4 rfl
  have fz := fun j => blk_froz (i := j) k4
  have K4 := hide k4
  clear s4 K0 r0 r1' r2' r3 r4 HH h b0 k0 k4
  go_wp2
  obtain ⟨V, hV⟩ : ∃ V, V = (w4.setCell ⟨w.heap.size, 0, none⟩ (.int .i64 r1)).setCell ⟨w.heap.size, 1, none⟩ (.int .i64 r2) := ⟨_, rfl⟩
  rw [← hV]
  have kV : V.heap[w.heap.size]? = some (.cells #[.int .i64 r1, .int .i64 r2] 83 (0, 0)) := by
    rw [hV]
    have := poke_blk (i := 1) (poke_blk (i := 0) (unhide K4) (.int .i64 r1)) (.int .i64 r2)
    simpa using this
  have SV : SStep w V b sv sv4 mb L' := by
    rw [hV]
    exact ((unhide S4).poke (unhide K4) (by decide) (by decide) (Nat.le_refl _) _).poke (poke_blk (i := 0) (unhide K4) (.int .i64 r1)) (by decide) (by decide) (Nat.le_refl _) _
  have v0 := blk_cell (i := 0) kV rfl
  have v1 := blk_cell (i := 1) kV rfl
  exact bodyPost_ret (v := .tuple #[.agg #[.int .i64 r1, .int .i64 r2], .int .i64 0]) (by simp [results, Try.results46, go_sem, v0, v1]) rfl ⟨rfl, sv4, SV⟩
end Go.Proofs.Ytokdflbajnecpaa.Tn.Ax

/- Package account: Digest. -/
namespace Go.Proofs.Ytokdflbajnecpaa.Tn.Ax
open Go.RowKit Go.Maps
theorem may_hash {N : Nat} {a : Int} (ha : thr N a = true) : may N ⟨7, 0, a, 0⟩ = true := by simp [may, ha]
theorem ok_hash {a : Int} (h : 0 ≤ a ∧ a ≤ 1048577) : Tm.ok ⟨7, 0, a, 0⟩ := ⟨by simp, by simp, by simp, by simp, by simp; omega, by simp; omega, by simp, by simp⟩
def digR (L : List Tm) (adds : List Ad) (rem : List Int) : List Tm × Int × Int := ls (chP L adds rem).1 (cI (chP L adds rem).2)
def digO (L : List Tm) (adds : List Ad) (rem : List Int) : Bool := decide (adds.length ≤ 8) && decide (rem.length ≤ 8) && pubs L.length adds
def digE (L : List Tm) (adds : List Ad) (rem : List Int) : Int := if digO L adds rem = true then 0 else 1
def digP (L : List Tm) (adds : List Ad) (rem : List Int) : List Tm × Nat := if digO L adds rem = true then (mkL (digR L adds rem).1 ⟨7, 0, (digR L adds rem).2.1, 0⟩, mkN (digR L adds rem).1 ⟨7, 0, (digR L adds rem).2.1, 0⟩) else (L, 0)
theorem digO_iff {L : List Tm} {adds : List Ad} {rem : List Int} : digO L adds rem = true ↔ adds.length ≤ 8 ∧ rem.length ≤ 8 ∧ ∀ a ∈ adds, thr L.length a.p = true := by
  simp [digO, pubs, and_assoc]
theorem digR_ok {L : List Tm} {adds : List Ad} {rem : List Int} (h : digO L adds rem = true) (hl : L.length + 100 ≤ 1048576) : (digR L adds rem).2.2 = 0 ∧ thr (digR L adds rem).1.length (digR L adds rem).2.1 = true ∧ (digR L adds rem).1.length ≤ L.length + 60 ∧ L.length ≤ (digR L adds rem).1.length := by
  obtain ⟨h1, h2, h3⟩ := digO_iff.1 h
  have l4 := chP_len L adds rem
  have r4 := chP_rg rem h3 (by omega)
  have hne : (chP L adds rem).2 ≠ [] := fun c => by rw [c] at l4; simp at l4; omega
  obtain ⟨q1, q2, q3, q4⟩ := ls_ok r4 hne (by omega)
  exact ⟨q1, q2, by unfold digR; omega, by unfold digR; omega⟩
set_option maxRecDepth 100000 in
set_option maxHeartbeats 4000000 in
theorem dig1_ok {b : Nat} {sv : Value} {mb : Nat} {L : List Tm} {w : World} (h : St w b sv mb L) (va : Value) (adds : List Ad) (hva : ∀ V, Fr (foot b sv mb) w V → Ads V va adds) (vr : Value) (rem : List Int) (hvr : ∀ V, Fr (foot b sv mb) w V → NIs V vr rem) (hO : digO L adds rem = true) (hl : L.length + 100 ≤ 1048576) (p1 p2 : Nat) (c1 : w.cell? ⟨p1, 0, none⟩ = some va) (c2 : w.cell? ⟨p2, 0, none⟩ = some vr) :
    Calls Try.prog 34 #[.pointer (some ⟨b, 0, none⟩), .pointer (some ⟨p1, 0, none⟩), .pointer (some ⟨p2, 0, none⟩)] w fun e w' => e = .returned (.tuple #[.int .i64 ((digP L adds rem).2 : Nat), .int .i64 0]) ∧ ∃ sv', SStep w w' b sv sv' mb (digP L adds rem).1 := by
  obtain ⟨h1, h2, h3⟩ := digO_iff.1 hO
  obtain ⟨q1, q2, q3, q4⟩ := digR_ok hO hl
  have K1 := hide (change_ok h va adds hva vr rem hvr h1 h2 h3 hl)
  rw [show ls (chP L adds rem).1 (cI (chP L adds rem).2) = digR L adds rem from rfl, q1] at K1
  have ha := thr_rng q2 (by omega)
  have eP : digP L adds rem = (mkL (digR L adds rem).1 ⟨7, 0, (digR L adds rem).2.1, 0⟩, mkN (digR L adds rem).1 ⟨7, 0, (digR L adds rem).2.1, 0⟩) := by unfold digP; rw [if_pos hO]
  rw [eP]
  have K2 : Hid (∀ W sv', SStep w W b sv sv' mb (digR L adds rem).1 → Calls Try.prog 27 #[.pointer (some ⟨b, 0, none⟩), .agg #[.int .u8 7, .int .i64 0, .int .i64 (digR L adds rem).2.1, .int .i64 0]] W fun e w' => e = .returned (.tuple #[.int .i64 (mkN (digR L adds rem).1 ⟨7, 0, (digR L adds rem).2.1, 0⟩ : Nat), .int .i64 0]) ∧ ∃ sv', SStep w w' b sv sv' mb (mkL (digR L adds rem).1 ⟨7, 0, (digR L adds rem).2.1, 0⟩)) := fun W sv' S => by
    refine (make_ok S.st 7 0 _ 0 (ok_hash ha) (may_hash q2) (by omega)).mono ?_
    rintro e w' ⟨h1, sv2, s⟩
    exact ⟨h1, sv2, S.trans s⟩
  obtain ⟨a1, ca1, rfl⟩ := (hva w (Fr.refl _ _)).shape
  obtain ⟨a2, ca2, rfl⟩ := nis_shape (hvr w (Fr.refl _ _))
  clear h hva hvr hO hl h1 h2 h3 q1 q2 q3 q4 ha eP
  generalize mkN (digR L adds rem).1 ⟨7, 0, (digR L adds rem).2.1, 0⟩ = X at *
  generalize mkL (digR L adds rem).1 ⟨7, 0, (digR L adds rem).2.1, 0⟩ = L2 at *
  generalize (digR L adds rem).2.1 = Y at *
  generalize (digR L adds rem).1 = L1 at *
  generalize adds.length = N at *
  generalize rem.length = M at *
  go_enter Try.func34, Try.ntmps34
  go_wp2_with fail
  refine (unhide K1).mono ?_
  rintro e w1 ⟨rfl, sv1, s1⟩
  have Q2 := hide (unhide K2 _ _ s1)
  clear s1 K1 K2 c1 c2
  go_wp2_with fail
  refine (unhide Q2).mono ?_
  rintro e w2 ⟨rfl, s2⟩
  have S2 := hide s2
  clear s2 Q2
  go_wp2
  go_ret2
  exact ⟨rfl, unhide S2⟩
theorem blk2 (w : World) (o1 o2 : Obj) : ((w.alloc o1).alloc o2).heap[w.heap.size]? = some o1 ∧ ((w.alloc o1).alloc o2).heap[w.heap.size + 1]? = some o2 ∧ Below w.heap.size w ((w.alloc o1).alloc o2) := by
  have h1 := heap_alloc_new w o1
  have h2 := heap_alloc_new (w.alloc o1) o2
  simp only [heap_size_alloc] at h1 h2
  exact ⟨blk_before h1, h2, (bwA' _ _).alloc (by simp) _⟩
theorem fr_bel {S : List Nat} {w w0 V : World} (hb : Below w.heap.size w w0) (h : Fr S w0 V) : Fr S w V := ((Fr.ofBelow hb).mono (fun _ _ c => by cases c)).tr h
set_option maxRecDepth 100000 in
set_option maxHeartbeats 4000000 in
theorem digest_any {b : Nat} {sv : Value} {mb : Nat} {L : List Tm} {w : World} (h : St w b sv mb L) (va : Value) (adds : List Ad) (hva : ∀ V, Fr (foot b sv mb) w V → Ads V va adds) (vr : Value) (rem : List Int) (hvr : ∀ V, Fr (foot b sv mb) w V → NIs V vr rem) (hl : L.length + 200 ≤ 1048575) :
    Calls Try.prog 9 #[.pointer (some ⟨b, 0, none⟩), va, vr] w fun e w' => e = .returned (.tuple #[.int .i64 ((digP L adds rem).2 : Nat), .int .i64 (digE L adds rem)]) ∧ ∃ sv', SStep w w' b sv sv' mb (digP L adds rem).1 := by
  obtain ⟨a1, ca1, rfl⟩ := (hva w (Fr.refl _ _)).shape
  obtain ⟨a2, ca2, rfl⟩ := nis_shape (hvr w (Fr.refl _ _))
  have hlA : adds.length ≤ 140737488355328 := by obtain ⟨_, _, _, h, _⟩ := hva w (Fr.refl _ _); exact h
  have hlR : rem.length ≤ 140737488355328 := by obtain ⟨_, _, _, h, _⟩ := hvr w (Fr.refl _ _); exact h
  obtain ⟨N, hN⟩ : ∃ N, N = adds.length := ⟨_, rfl⟩
  obtain ⟨M, hM⟩ : ∃ M, M = rem.length := ⟨_, rfl⟩
  rw [← hN] at hva hlA ⊢
  rw [← hM] at hvr hlR ⊢
  obtain ⟨w0, hw0⟩ : ∃ w0, w0 = (w.alloc (.cells #[.slice a1 N ca1] 23)).alloc (.cells #[.slice a2 M ca2] 24) := ⟨_, rfl⟩
  obtain ⟨y0, y1, x0⟩ := blk2 w (.cells #[.slice a1 N ca1] 23) (.cells #[.slice a2 M ca2] 24)
  rw [← hw0] at y0 y1 x0
  have hNb : (N : Int) ≤ 140737488355328 := by omega
  have hMb : (M : Int) ≤ 140737488355328 := by omega
  have S0 := SStep.same h x0
  have KMi := hide (hmissing_any S0.st)
  have KH := hide (haspubs_any S0.st _ adds (hva w0 S0.fr))
  have YY : Hid (∀ W, Below w0.heap.size w0 W → (W.cell? ⟨w.heap.size, 0, none⟩ = some (.slice a1 N ca1) ∧ W.cell? ⟨w.heap.size + 1, 0, none⟩ = some (.slice a2 M ca2)) ∧ SStep w W b sv sv mb L) := fun W hW => ⟨⟨blk_cell (kept_blk y0 hW) rfl, blk_cell (kept_blk y1 hW) rfl⟩, SStep.same h (bw_tr x0 hW)⟩
  obtain ⟨z0, z1⟩ := (unhide YY w0 (Below.refl _ _)).1
  have KW : Hid (digO L adds rem = true → ∀ W, Below w0.heap.size w0 W → Calls Try.prog 33 #[.pointer (some ⟨b, 0, none⟩), .int .i64 60, .func (.func 34) #[] #[.pointer (some ⟨w.heap.size, 0, none⟩), .pointer (some ⟨w.heap.size + 1, 0, none⟩)]] W fun e w' => e = .returned (.tuple #[.int .i64 ((digP L adds rem).2 : Nat), .int .i64 0]) ∧ ∃ sv', SStep w w' b sv sv' mb (digP L adds rem).1) := fun hO W hW => by
    obtain ⟨-, S⟩ := unhide YY W hW
    refine (whole_dig S.st 60 (by omega) (by omega) w.heap.size (w.heap.size + 1) ((digP L adds rem).2 : Nat) (L' := (digP L adds rem).1) (fun V hV => ?_)).mono ?_
    · obtain ⟨⟨e1, e2⟩, S'⟩ := unhide YY V (bw_tr hW hV)
      refine (dig1_ok S'.st _ adds (fun U hU => hva U (fr_bel (bw_tr x0 (bw_tr hW hV)) hU)) _ rem (fun U hU => hvr U (fr_bel (bw_tr x0 (bw_tr hW hV)) hU)) hO (by omega) _ _ e1 e2).mono ?_
      rintro e w' ⟨h1, sv', s⟩
      exact ⟨h1, sv', (SStep.same S.st hV).trans s⟩
    · rintro e w' ⟨h1, sv', s⟩
      exact ⟨h1, sv', S.trans s⟩
  have HE : Hid (digO L adds rem = (decide (N ≤ 8) && decide (M ≤ 8) && pubs L.length adds)) := by rw [hN, hM]; rfl
  obtain ⟨E, hE⟩ : ∃ E, E = digE L adds rem := ⟨_, rfl⟩
  obtain ⟨P, hP⟩ : ∃ P, P = digP L adds rem := ⟨_, rfl⟩
  rw [← hP] at KW ⊢
  rw [← hE]
  unfold digE at hE
  unfold digP at hP
  have HEE := hide hE
  have HPP : Hid (digO L adds rem = false → P = (L, 0)) := fun c => by rw [hP, if_neg (by rw [c]; simp)]
  have HW := hide hw0
  clear h hva hvr hl hN hM hw0 y0 y1 x0 S0 hE hP hlA hlR
  generalize pubs L.length adds = r at *
  generalize digO L adds rem = O at *
  go_enter Try.func9, Try.ntmps9
  go_upto_region 1 with fail
  rw [← unhide HW]
  clear HW
  go_wp2_with fail
  refine (unhide KMi).mono ?_
  rintro e w1 ⟨rfl, rfl⟩
  clear KMi
  by_cases n8 : 8 < N
  · have n8' : (8 : Int) < (N : Int) := by omega
    obtain rfl : O = false := by rw [unhide HE]; simp; omega
    obtain rfl : E = 1 := by rw [unhide HEE]; simp
    obtain rfl := unhide HPP rfl
    have S := hide (unhide YY _ (Below.refl _ _)).2
    clear HE HEE HPP KW YY KH n8
    go_wp2
    go_ret2
    exact ⟨rfl, sv, unhide S⟩
  have n8' : decide ((8 : Int) < (N : Int)) = false := decide_eq_false (by omega)
  have n8'' : (N : Int) ≤ 8 := by omega
  by_cases m8 : 8 < M
  · have m8' : (8 : Int) < (M : Int) := by omega
    obtain rfl : O = false := by rw [unhide HE]; simp; omega
    obtain rfl : E = 1 := by rw [unhide HEE]; simp
    obtain rfl := unhide HPP rfl
    have S := hide (unhide YY _ (Below.refl _ _)).2
    clear HE HEE HPP KW YY KH m8 n8
    go_wp2
    go_ret2
    exact ⟨rfl, sv, unhide S⟩
  have m8' : decide ((8 : Int) < (M : Int)) = false := decide_eq_false (by omega)
  have m8'' : (M : Int) ≤ 8 := by omega
  have HO : Hid (O = r) := by unfold Hid; rw [unhide HE, decide_eq_true (by omega : N ≤ 8), decide_eq_true (by omega : M ≤ 8)]; rfl
  clear HE n8 m8
  go_wp2_with fail
  refine (unhide KH).mono ?_
  rintro e w2 ⟨rfl, b2⟩
  obtain ⟨⟨d0, d1⟩, s2⟩ := unhide YY _ b2
  cases r
  · obtain rfl : O = false := unhide HO
    obtain rfl : E = 1 := by rw [unhide HEE]; simp
    obtain rfl := unhide HPP rfl
    have S := hide s2
    clear HEE HPP KW YY KH HO s2 b2
    go_wp2
    go_ret2
    exact ⟨rfl, sv, unhide S⟩
  · obtain rfl : O = true := unhide HO
    obtain rfl : E = 0 := by rw [unhide HEE]; simp
    have K2 := hide (unhide KW rfl _ b2)
    clear HEE HPP KW YY KH HO s2 b2
    go_wp2_with fail
    refine (unhide K2).mono ?_
    rintro e w3 ⟨rfl, s3⟩
    have S3 := hide s3
    clear s3 K2 d0 d1 z0 z1
    go_wp2
    go_ret2
    exact ⟨rfl, unhide S3⟩
end Go.Proofs.Ytokdflbajnecpaa.Tn.Ax
