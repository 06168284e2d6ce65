/- Texts joined: NeP NeR NeS NeQf. -/
import Derived.Test.YtndgdpefoidfbaaZ34
import Derived.Test.YtndgdpefoidfbaaZ31
import Derived.Test.YtndgdpefoidfbaaZ29
import Derived.Test.YtndgdpefoidfbaaZ30
/- Rows of packets as they come in, and how great they are (packetsSize). -/
namespace Go.Proofs.Ytndgdpefoidfbaa
open Go.RowKit Go.Maps
def kPw : EK Pt Fx := { kPk with
  R := fun w p x => FdR w p.fd x ∧ fdB p.fd
  one := fun _ _ _ h v hv => pt_one h.1 v hv
  bw := fun _ _ _ _ h hb => ⟨h.1.bw hb, h.2⟩ }
def ptsN (l : List Pt) : Nat := (l.map (fun p => fdN p.fd)).foldr (· + ·) 0
theorem ptsN_take {l : List Pt} {i : Nat} {m : Pt} (h : l[i]? = some m) : ptsN (l.take (i + 1)) = ptsN (l.take i) + fdN m.fd := by
  unfold ptsN
  rw [List.take_add_one, h, List.map_append]
  exact sum_snoc _ _
theorem ptsN_mem : ∀ {l : List Pt} {a : Pt}, a ∈ l → fdN a.fd ≤ ptsN l := by
  intro l
  induction l with
  | nil => intro a h; cases h
  | cons b m ih =>
    intro a h
    have e : ptsN (b :: m) = fdN b.fd + ptsN m := rfl
    rcases List.mem_cons.1 h with c | c
    · subst c; omega
    · have := ih c; omega
set_option maxRecDepth 100000 in
set_option maxHeartbeats 1000000 in
theorem psize_any {w : World} {v : Value} {l : List Pt} {xs : List Fx} (h : RdL kPw w v l xs) (hl : l.length ≤ 140737488355328) :
    Calls Try.prog 19 #[v] w fun e w' => ∃ n : Nat, e = .returned (.int .i64 (n : Int)) ∧ n ≤ 9007199254740992 ∧ (n ≤ 262144 → n = l.length + ptsN l) ∧ Below w.heap.size w w' := by
  obtain ⟨a, cap, rfl⟩ := rdl_slice h
  have HC : Hid (∀ (V : World) (i : Nat), Below w.heap.size w V → i < l.length → ∃ (b : Pt) (CL : List Value) (g o : Nat), a = some ⟨g, o, none⟩ ∧ l[i]? = some b ∧ CL.length = 53 ∧ V.rangeAt g (o + i * 57 + 4) CL ∧ Calls Try.prog 8 #[.agg CL.toArray] V fun e w' => ∃ n : Nat, e = .returned (.int .i64 (n : Int)) ∧ n ≤ 6000000000000000 ∧ (n ≤ 262144 → n = fdN b.fd) ∧ Below V.heap.size V w') := fun V i hV hi => by
    obtain ⟨b, y, g, o, e1, e2, _, e3, e4⟩ := rdl_at (h.bw hV) hi
    refine ⟨b, fdC b.fd y, g, o, e1, e2, rfl, fun j u hj => ?_, (fdsize_any e3.1).mono ?_⟩
    · have := e4 (4 + j) u (ptC_feed b y j u hj)
      rw [← Nat.add_assoc] at this
      exact this
    · rintro e w' ⟨n, h1, h2, h3⟩
      exact ⟨n, h1, by omega, h3⟩
  obtain ⟨N, hN⟩ : ∃ N, N = l.length := ⟨_, rfl⟩
  obtain ⟨G, hG⟩ : ∃ G, G = N + ptsN l := ⟨_, rfl⟩
  rw [← hN] at HC hl ⊢
  rw [← hG]
  have HG := hide (And.intro hG hN)
  have hNI : (N : Int) ≤ 140737488355328 := by omega
  clear h hN hG
  go_enter Try.func19, Try.ntmps19
  go_wp2_with fail
  go_loopw [3, 4] (fun nv iv wr => ∃ (i n : Nat), i ≤ N ∧ iv = .int .i64 (i : Int) ∧ nv = .int .i64 (n : Int) ∧ n ≤ 1048576 + 140737488355328 + 6000000000000000 ∧ Hid (Below w.heap.size w wr ∧ (n ≤ 262144 → n = N + ptsN (l.take i)))) (fun _ iv _ => (N - intOf iv).toNat)
  case atStart => exact ⟨0, N, Nat.zero_le _, rfl, rfl, by omega, Below.refl _ _, fun _ => by simp [ptsN]⟩
  case round =>
    obtain ⟨i, n, hi, rfl, rfl, hn, HR⟩ := hrel
    have hnI : (n : Int) ≤ 9007199254740992 := by omega
    have hi0 : (0 : Int) ≤ (i : Int) := by omega
    by_cases hlt : i < N
    · have hiI : (i : Int) < (N : Int) := by omega
      by_cases hnb : n < 1048576
      · have hnbI : (n : Int) < 1048576 := by omega
        obtain ⟨b, CL, g, o, rfl, hm, hcl, hrg, K⟩ := unhide HC wr i (unhide HR).1 hlt
        have HN2 : Hid (ptsN (l.take (i + 1)) = ptsN (l.take i) + fdN b.fd) := ptsN_take hm
        have HZ := hide (And.intro hrg (show (Try.prog.info? 42).map (·.size) = some CL.length by rw [hcl]; exact infoFdS3))
        have KH := hide K
        clear hm hcl hrg K
        go_wp2_with (refine wpList_load_mid rfl 42 (.tmp 21) rfl g (o + i * 57 + 4) (by simp [Act.eval]) CL _ (unhide HZ).1 Try.underlying42 rfl (unhide HZ).2 ?_)
        refine (unhide KH).mono ?_
        rintro e2 w2 ⟨q, rfl, m1, m2, b2⟩
        have hmI : (q : Int) ≤ 6000000000000000 := by omega
        have HR2 : Hid (Below w.heap.size w w2 ∧ (n + q ≤ 262144 → n + q = N + ptsN (l.take (i + 1)))) := ⟨bw_tr (unhide HR).1 b2, fun c => by
          have := (unhide HR).2 (by omega)
          have := m2 (by omega)
          rw [unhide HN2]; omega⟩
        clear KH HZ HN2 m2 b2 HR
        go_wp2_with fail
        go_roundw
        case rel => exact ⟨i + 1, n + q, by omega, by go_num, by go_num, by omega, HR2⟩
        case measure => simp only [intOf]; omega
      · have hnbI : ¬ (n : Int) < 1048576 := by omega
        have hnd : decide ((n : Int) < 1048576) = false := decide_eq_false hnbI
        have B := hide (unhide HR).1
        clear HC HR
        go_wp2_with fail
        go_ret
        exact ⟨n, rfl, by omega, fun c => absurd c (by omega), unhide B⟩
    · obtain rfl : i = N := by omega
      have HE : Hid (Below w.heap.size w wr ∧ (n ≤ 262144 → n = G)) := ⟨(unhide HR).1, fun c => by
        have h1 := (unhide HR).2 c
        rw [(unhide HG).2, List.take_length, ← (unhide HG).2] at h1
        rw [(unhide HG).1]; exact h1⟩
      have hd : decide ((i : Int) < (i : Int)) = false := by simp
      clear HC HR
      go_wp2_with fail
      go_ret
      exact ⟨n, rfl, by omega, (unhide HE).2, (unhide HE).1⟩
end Go.Proofs.Ytndgdpefoidfbaa

/- A net, and beside it the row of what was sent. No walk is in this text. -/
namespace Go.Proofs.Ytndgdpefoidfbaa
open Go.RowKit Go.Maps
structure DrS (W0 wr : World) (nb : Nat) (gv : Value) (P : List Py) (sv : Value) (L : List Pt) (xs : List Fx) : Prop where
  k : NetK W0.heap.size W0 wr nb gv P []
  xl : xs.length = L.length
  row : wr.ownsRow W0.heap.size 44 57 sv L.length (cellK kPk L xs)
  rd : ∀ (i : Nat) a x, L[i]? = some a → xs[i]? = some x → FdR W0 a.fd x ∧ SmF a.fd
  ap : ∀ j, sv.ownBlock = some j → j ≠ nb ∧ gv.ownBlock ≠ some j ∧ ∀ q ∈ P, j ∉ pyZ q
theorem DrS.start {W0 wr : World} {nb : Nat} {gv : Value} {P : List Py} (h : NetK W0.heap.size W0 wr nb gv P []) : DrS W0 wr nb gv P (.slice none 0 0) [] [] :=
  ⟨h, rfl, World.ownsRow_nil _ _ _ _, fun i a x ha => by simp at ha, fun j hj => by simp [Value.ownBlock] at hj⟩
theorem DrS.bw {W0 wr V : World} {nb : Nat} {gv : Value} {P : List Py} {sv : Value} {L : List Pt} {xs : List Fx} (h : DrS W0 wr nb gv P sv L xs) (hb : Below wr.heap.size wr V) : DrS W0 V nb gv P sv L xs :=
  ⟨h.k.bw hb, h.xl, ne_blocks h.row (fun k hk => hb.block k (World.ownsRow.lt h.row k hk).2), h.rd, h.ap⟩
theorem DrS.net {W0 wr w' : World} {nb : Nat} {gv gv' : Value} {P P' : List Py} {sv : Value} {L : List Pt} {xs : List Fx} (h : DrS W0 wr nb gv P sv L xs) (hn : NetS W0.heap.size w' nb gv' P') (hf : Fr (nsZ nb gv) wr w') (hv : gv'.ownBlock = gv.ownBlock ∨ ∀ k, gv'.ownBlock = some k → wr.heap.size ≤ k)
    (hp : ∀ q ∈ P', q ∈ P ∨ ∀ k ∈ pyZ q, wr.heap.size ≤ k) : DrS W0 w' nb gv' P' sv L xs := by
  refine ⟨h.k.step hn hf hv, h.xl, ne_blocks h.row (fun k hk => hf.block k (World.ownsRow.lt h.row k hk).2 (nsZ_not (h.ap k hk).1 (h.ap k hk).2.1)), h.rd, fun j hj => ?_⟩
  obtain ⟨a1, a2, a3⟩ := h.ap j hj
  have hlt := (World.ownsRow.lt h.row j hj).2
  refine ⟨a1, fun c => ?_, fun q hq c => ?_⟩
  · rcases hv with e | e
    · rw [e] at c; exact a2 c
    · have := e j c; omega
  · rcases hp q hq with d | d
    · exact a3 q d c
    · have := d j c; omega
theorem DrS.more {W0 wr W : World} {o : Obj} {nb : Nat} {gv : Value} {P : List Py} {sv v' : Value} {L : List Pt} {xs : List Fx} {p : Pt} {y : Fx} (h : DrS W0 wr nb gv P sv L xs) (hp : FdR W0 p.fd y ∧ SmF p.fd)
    (hown : W.ownsRow W0.heap.size 44 57 v' (L.length + 1) (cellK kPk L xs ++ ptC p y)) (hgrow : (wr.alloc o).grownBy W sv.ownBlock) (hpl : v'.ownBlock = sv.ownBlock ∨ v'.ownBlock = some (wr.heap.size + 1)) :
    DrS W0 W nb gv P v' (L ++ [p]) (xs ++ [y]) := by
  have hsz : (wr.alloc o).heap.size = wr.heap.size + 1 := by simp
  have kept : ∀ k, k < wr.heap.size → sv.ownBlock ≠ some k → W.heap[k]? = wr.heap[k]? := fun k hk hn => by
    rw [hgrow.block k (by rw [hsz]; omega) (fun c => hn c.symm), (bwA wr o).block k hk]
  have hnlt := lt_of_blk h.k.ns.box
  have hns : NetS W0.heap.size W nb gv P := h.k.ns.keepB (fun k hk => by
    rcases hk with c | c | ⟨q, hq, c⟩
    · subst c; exact kept k hnlt (fun d => (h.ap k d).1 rfl)
    · exact kept k (World.ownsRow.lt h.k.ns.row k c).2 (fun d => (h.ap k d).2.1 c)
    · exact kept k ((h.k.ns.el q hq).lt k c).2 (fun d => (h.ap k d).2.2 q hq c))
  have hbel : Below W0.heap.size W0 W := (h.k.bel.alloc h.k.bel.size o).grown hgrow (by rw [hsz]; have := h.k.bel.size; omega) (fun k hk => (World.ownsRow.lt h.row k hk).1)
  refine ⟨⟨hns, hbel, fun k o hk => by cases hk⟩, by simp [h.xl], ?_, fun i a x ha hx => ?_, fun j hj => ?_⟩
  · rw [cellK_snocM h.xl, List.length_append]; exact hown
  · rcases get_snocM ha with ⟨h1, h2⟩ | ⟨h1, h2⟩
    · rcases get_snocM hx with ⟨h3, h4⟩ | ⟨h3, h4⟩
      · exact h.rd i a x h2 h4
      · rw [h.xl] at h3; omega
    · rcases get_snocM hx with ⟨h3, h4⟩ | ⟨h3, h4⟩
      · rw [h.xl] at h3; omega
      · rw [h2, h4]; exact hp
  · rcases hpl with e | e
    · rw [e] at hj; exact h.ap j hj
    · rw [e] at hj
      simp only [Option.some.injEq] at hj
      refine ⟨by omega, fun c => ?_, fun q hq c => ?_⟩
      · have := (World.ownsRow.lt h.k.ns.row j c).2; omega
      · have := ((h.k.ns.el q hq).lt j c).2; omega
end Go.Proofs.Ytndgdpefoidfbaa

/- Send, Drop, Deliver, All beside the row of what was sent. -/
namespace Go.Proofs.Ytndgdpefoidfbaa
open Go.RowKit Go.Maps
theorem dsend_any {W0 w : World} {nb : Nat} {gv : Value} {P : List Py} {sv : Value} {L : List Pt} {xs : List Fx} {p : Pt} {y : Fx} (h : DrS W0 w nb gv P sv L xs) (hf : FdR w p.fd y) (hs : SmF p.fd) (hl : P.length < 4096) :
    Calls Try.prog 12 #[.pointer (some ⟨nb, 0, none⟩), .agg (ptC p y).toArray] w fun e w' => ∃ er, e = .returned (.int .i64 er) ∧ ((er = 1 ∧ Hid (¬ TakenP p ∧ ∃ gv', DrS W0 w' nb gv' P sv L xs)) ∨ (er = 0 ∧ Hid (TakenP p ∧ ∃ gv' q, q.p = p ∧ DrS W0 w' nb gv' (P ++ [q]) sv L xs))) := by
  refine (neSend_any h.k.ns hf hs (by omega)).mono ?_
  rintro e w' ⟨er, gv', P', rfl, ⟨h1, h2, h3⟩, hc⟩
  rcases hc with ⟨c, rfl, rfl⟩ | ⟨_, c, _⟩ | ⟨c, _, rfl, q, hq, rfl, hz⟩
  · exact ⟨1, rfl, Or.inl ⟨rfl, c, gv', h.net h1 h2 h3 (fun q hq => Or.inl hq)⟩⟩
  · omega
  · refine ⟨0, rfl, Or.inr ⟨rfl, c, gv', q, hq, h.net h1 h2 h3 (fun q' hq' => ?_)⟩⟩
    rcases List.mem_append.1 hq' with d | d
    · exact Or.inl d
    · simp at d; rw [d]; exact Or.inr hz
theorem ddel_any {W0 w : World} {nb : Nat} {gv : Value} {P : List Py} {sv : Value} {L : List Pt} {xs : List Fx} (h : DrS W0 w nb gv P sv L xs) (n : Nat) (hn : n < P.length) (hl : P.length ≤ 4096) :
    Calls Try.prog 15 #[.pointer (some ⟨nb, 0, none⟩), .int .i64 (n : Int)] w fun e w' => ∃ (q : Py) (y' : Fx) (gv' : Value), e = .returned (.tuple #[.agg (ptC q.p y').toArray, .int .i64 0]) ∧ Hid (P[n]? = some q ∧ DrS W0 w' nb gv' (P.eraseIdx n) sv L xs ∧ FdR w' q.p.fd y' ∧ SmF q.p.fd ∧ Fr (nsZ nb gv) w w') := by
  refine (neDeliver_any h.k.ns (n : Int) (by omega)).mono ?_
  rintro e w' ⟨gv', P', ⟨h1, h2, h3⟩, hc⟩
  rcases hc with ⟨c, _⟩ | ⟨_, _, q, y', hq, rfl, rfl, ho, hs⟩
  · omega
  · exact ⟨q, y', gv', rfl, hq, h.net h1 h2 (Or.inl h3) (fun q hq => Or.inl (List.mem_of_mem_eraseIdx hq)), OF.rd ho hs, hs, h2⟩
end Go.Proofs.Ytndgdpefoidfbaa

/- Rows of packets, opened off what a caller hands in. -/
namespace Go.Proofs.Ytndgdpefoidfbaa
open Go.ChangeShapes Go.WideShapes Go.ChangeAt Go.RowKit Go.Joins Go.Deep Go.Maps
theorem open_rowsN {α ξ : Type} (K : EK α ξ) {sl : TypeId} {B : Nat} (hu : Try.prog.underlying sl = some (.slice K.t)) (hc : Try.prog.cellsOf K.t = K.c) (hb : Try.prog.bytesOf K.t = B) (hB : 1 ≤ B) (z : α × ξ) {H : Type} {enc : TypeId × Value → H} {W : World} {spare : Nat → Bool} {held : Bool} {fuel : Nat} {x : Value} {y : DataW H × List MemPlace}
    (op : ∀ {fuel : Nat} {cs : List Value} {y : DataW H × List MemPlace}, DataW.trod enc Try.prog W 0 spare held fuel K.t cs = some y → (∀ n ∈ y.1.weights Try.prog K.t, n ≤ reachBytes) → ∃ a x, cs = K.C a x ∧ K.R W a x)
    (hy : DataW.trod enc Try.prog W 0 spare held fuel sl [x] = some y) (hsz : ∀ n ∈ y.1.weights Try.prog sl, n ≤ reachBytes) : ∃ l xs, RdL K W x l xs ∧ l.length ≤ 140737488355328 := by
  rcases open_slice hu hy with ⟨hcs, _⟩ | ⟨a, len, cap, m, n, D, Pl, hcs, _, hl, hm, hmm, hx, hel⟩
  · simp at hcs
    subst hcs
    exact ⟨[], [], rdl_nil K W, by simp⟩
  · simp at hcs
    subst hcs
    have hlm : len ≤ m := by rw [hmm]; split <;> omega
    have hr := reachBytes_lt
    have hlen : len ≤ 140737488355328 := by
      have := hsz ((len + (m - len)) * B) (by rw [hx]; simp [DataW.weights, hu, hb])
      simp at hr
      have h1 : len ≤ (len + (m - len)) * B := Nat.le_trans (Nat.le_add_right _ _) (Nat.le_mul_of_pos_right _ hB)
      omega
    have each : ∀ i, i < len → ∃ q : α × ξ, K.R W q.1 q.2 ∧ ∀ j u, (K.C q.1 q.2)[j]? = some u → W.cell? (a.add (i * K.c + j)) = some u := by
      intro i hi
      obtain ⟨cs, h1, h2⟩ := hel i (by omega)
      rw [hc] at h1
      obtain ⟨_, hlen3, hcell⟩ := World.cells?_some h1
      obtain ⟨q, z, e1, e2⟩ := op h2 (fun n hn => hsz n (by
        rw [hx]
        simp only [DataW.weights, hu]
        exact List.mem_cons_of_mem _ (List.mem_append_left _ (mem_weightsAll (d := D i) (List.mem_map.2 ⟨i, List.mem_range.2 hi, rfl⟩) hn))))
      subst e1
      refine ⟨(q, z), e2, fun j u hu => ?_⟩
      have hj : j < K.c := by have := (List.getElem?_eq_some_iff.1 hu).1; rw [K.Cl] at this; exact this
      have := hcell j hj
      rw [add_add, hu] at this
      exact this
    obtain ⟨f, hfx⟩ := @choose_lt (α × ξ) ⟨z⟩ len _ each
    refine ⟨(List.range len).map fun i => (f i).1, (List.range len).map fun i => (f i).2, ⟨by simp, fun i mm yy hi hy2 => ?_, some a, cap, by simp, ?_⟩, by simpa using hlen⟩
    · have hi' : i < len := by
        rcases Nat.lt_or_ge i len with q | q
        · exact q
        · simp [q] at hi
      simp [hi'] at hi hy2
      subst hi hy2
      exact (hfx i hi').1
    · rcases Nat.eq_zero_or_pos len with h0 | h0
      · subst h0; exact Or.inl rfl
      · obtain ⟨b, off, spot⟩ := a
        have hC0 : 0 < (K.C (f 0).1 (f 0).2).length := by rw [K.Cl]; exact K.pos
        have k0 := (hfx 0 h0).2 0 _ (List.getElem?_eq_getElem hC0)
        have hspot : spot = none := by simpa [Addr.add] using World.cell?_spot k0
        subst hspot
        refine Or.inr ⟨b, off, rfl, fun j u hu => ?_⟩
        obtain ⟨i, t, mm, yy, rfl, ht, h1, h2, h3⟩ := cellK_inv (by simp) hu
        have hi : i < len := by
          rcases Nat.lt_or_ge i len with q | q
          · exact q
          · simp [q] at h1
        simp [hi] at h1 h2
        subst h1 h2
        have := (hfx i hi).2 t u h3
        rw [add_lit] at this
        exact this
theorem cellsPtN : Try.prog.cellsOf 44 = 57 := by kernel_rfl
theorem bytesPtN : Try.prog.bytesOf 44 = 632 := by kernel_rfl
theorem open_ptsT {H : Type} {enc : TypeId × Value → H} {W : World} {spare : Nat → Bool} {held : Bool} {fuel : Nat} {x : Value} {y : DataW H × List MemPlace}
    (hy : DataW.trod enc Try.prog W 0 spare held fuel 62 [x] = some y) (hsz : ∀ n ∈ y.1.weights Try.prog 62, n ≤ reachBytes) : ∃ l xs, RdL kPw W x l xs ∧ l.length ≤ 140737488355328 :=
  open_rowsN kPw Try.underlying62 cellsPtN bytesPtN (by decide) (⟨0, 0, false, 0, fdK 0 0⟩, fx00) (fun h1 h2 => by obtain ⟨f, x, e, h3, h4⟩ := open_ptT h1 h2; exact ⟨f, x, e, h3, h4⟩) hy hsz
end Go.Proofs.Ytndgdpefoidfbaa
