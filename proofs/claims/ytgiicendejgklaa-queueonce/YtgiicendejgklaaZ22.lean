/- Texts joined: QuP QuQ QuI. -/
import Derived.Test.YtgiicendejgklaaQuO
import Derived.Deep.RegionHeld3
import Derived.Test.YtgiicendejgklaaZ19
/- The link of a peer, among copies of links (linked). mkQuP.py writes it. -/
namespace Go.Proofs.Ytgiicendejgklaa
open Go.RowKit Go.Maps
structure AtL (l : List Lk) (p : Int) (k : Nat) : Prop where
  le : k ≤ l.length
  lo : ∀ (j : Nat) (q : Lk), j < k → l[j]? = some q → q.pe < p
  hi : ∀ q : Lk, l[k]? = some q → p ≤ q.pe
def Lnk (l : List Lk) (p : Int) (k : Nat) (L : List Lk) : Prop := AtL l p k ∧ ((L = l ∧ ∃ q, l[k]? = some q ∧ q.pe = p) ∨ (L = insAt l k (nlk p) ∧ ∀ q, l[k]? = some q → q.pe ≠ p))
theorem Lnk.at {l L : List Lk} {p : Int} {k : Nat} (h : Lnk l p k L) : ∃ q, L[k]? = some q ∧ q.pe = p := by
  rcases h.2 with ⟨rfl, q⟩ | ⟨rfl, _⟩
  · exact q
  · exact ⟨_, insAt_eq _ h.1.le, rfl⟩
set_option maxRecDepth 100000 in
set_option maxHeartbeats 8000000 in
theorem linked_any {w : World} {v : Value} {l : List Lk} {xs : List Lx} (h : RdL kLk w v l xs) (hl : l.length ≤ 1000000) (peer : Int) :
    Calls Try.prog 25 #[v, .int .i64 peer] w fun e w' => ∃ g k n c, e = .returned (.tuple #[.slice (some ⟨g, 0, none⟩) n c, .pointer (some ⟨g, k * 5, none⟩)]) ∧ ∃ L xs', Hid (Lnk l peer k L ∧ OwL kLk w.heap.size w' (.slice (some ⟨g, 0, none⟩) n c) L xs' ∧ n = L.length ∧ Below w.heap.size w w') := by
  have KL : Hid (Calls Try.prog 36 #[v, .func (.func 37) #[] #[]] w fun e w' => ∃ a c xs', e = .returned (.slice a l.length c) ∧ OwL kLk w.heap.size w' (.slice a l.length c) l xs' ∧ Below w.heap.size w w') := by
    refine (listLink_any h (by omega)).mono ?_
    rintro e w' ⟨v', xs', rfl, h1, h2⟩
    obtain ⟨a, c, rfl⟩ := own_slice h1.row
    exact ⟨a, c, xs', rfl, h1, h2⟩
  obtain ⟨a0, c0, rfl⟩ := rdl_slice h
  obtain ⟨N, hN⟩ : ∃ N, N = l.length := ⟨_, rfl⟩
  rw [← hN] at KL ⊢
  have hNI : (N : Int) ≤ 1000000 := by omega
  have HN := hide hN
  clear h hl hN
  go_enter Try.func25, Try.ntmps25
  go_wp2_with fail
  refine (unhide KL).mono ?_
  rintro e w1 ⟨a, c, xs', rfl, ho, hb⟩
  have HO := hide (And.intro ho hb)
  have HCE : Hid (∀ (i : Nat), i < N → ∃ g q, a = some ⟨g, 0, none⟩ ∧ l[i]? = some q ∧ w1.cell? ⟨g, i * 5, none⟩ = some (.int .i64 q.pe)) := fun i hi => by
    have hil : i < l.length := by rw [← unhide HN]; exact hi
    obtain ⟨g, cp, e, _, _, _⟩ := own_open ho.row (by rw [← unhide HN]; omega)
    simp only [Value.slice.injEq] at e
    have hq := List.getElem?_eq_getElem hil
    have hx : xs'[i]? = some (xs'[i]'(by rw [ho.xl]; exact hil)) := List.getElem?_eq_getElem _
    exact ⟨g, _, e.1, hq, own_cell ho.row (by rw [e.1]; rfl) (cellK_get (K := kLk) (j := 0) hq hx rfl)⟩
  clear KL ho hb
  go_wp2_with fail
  go_loopw [7] (fun iv wr => ∃ i : Nat, i ≤ N ∧ iv = .int .i64 (i : Int) ∧ wr = w1 ∧ Hid (∀ (j : Nat) (q : Lk), j < i → l[j]? = some q → q.pe < peer)) (fun iv _ => (N - intOf iv).toNat)
  case atStart => exact ⟨0, Nat.zero_le _, rfl, rfl, fun j q hj => absurd hj (by omega)⟩
  case round =>
    obtain ⟨i, hi, rfl, rfl, HR⟩ := hrel
    have h0 : (0 : Int) ≤ (i : Int) := by omega
    by_cases hlt : i < N
    · have hiI : (i : Int) < (N : Int) := by omega
      have hne1 : ((i : Int) == (N : Int)) = false := by simp; omega
      have hne2 : decide ((i : Int) = (N : Int)) = false := decide_eq_false (by omega)
      obtain ⟨g, q, rfl, hq, hc⟩ := unhide HCE i hlt
      obtain ⟨pe, hpe⟩ : ∃ z, z = q.pe := ⟨_, rfl⟩
      rw [← hpe] at hc
      have HQ := hide (And.intro hq hpe)
      clear hq hpe
      by_cases hp : pe < peer
      · have HX : Hid (∀ (j : Nat) (q : Lk), j < i + 1 → l[j]? = some q → q.pe < peer) := fun j q' hj hq' => by
          rcases Nat.lt_or_ge j i with d | d
          · exact unhide HR j q' d hq'
          · obtain rfl : j = i := by omega
            rw [(unhide HQ).1] at hq'; cases hq'
            rw [← (unhide HQ).2]; exact hp
        go_wp2_with fail
        go_roundw
        case rel => exact ⟨i + 1, by omega, by go_num, by first | rfl | trivial, HX⟩
        case measure => simp only [intOf]; omega
      · have hp1 : decide (pe < peer) = false := decide_eq_false hp
        have HA : Hid (AtL l peer i) := ⟨by have := unhide HN; omega, unhide HR, fun q' hq' => by
          rw [(unhide HQ).1] at hq'; cases hq'
          rw [← (unhide HQ).2]; omega⟩
        by_cases he : pe = peer
        · have e1 : (pe != peer) = false := by simp [he]
          have e2 : (pe == peer) = true := by simp [he]
          have HF : Hid (Lnk l peer i l ∧ OwL kLk w.heap.size wr.drew (.slice (some ⟨g, 0, none⟩) N c) l xs' ∧ N = l.length ∧ Below w.heap.size w wr.drew) :=
            ⟨⟨unhide HA, Or.inl ⟨rfl, q, (unhide HQ).1, by rw [← (unhide HQ).2]; exact he⟩⟩, (unhide HO).1.bw (Below.refl _ _).drew, unhide HN, (unhide HO).2.drew⟩
          clear HA HQ HR HO HCE
          go_upto_region 7 with fail
          clear hc
          have S0 : True := trivial
          refine wp_region_held_drew (S := fun w' : World => True) (by kernel_rfl) S0 (fun hHeld => ?_)
          refine wpAnyH_take (i := 0) (oi := { dst := some 44, op := Op.move (Operand.tmp 6), type := 22, pos := "links.go:62", after := #[], guard := none }) (v := ?v0r3) rfl (by kernel_rfl) (by kernel_rfl) (by kernel_rfl) (fun _ _ _ h => h) (Or.inl ⟨by rfl, ?hy0r3⟩) (by exact hHeld) ?_
          case hy0r3 => (intro w hSw; (try dsimp only at hSw); go_simp; try (with_reducible rfl))
          try simp only [Act.put, List.setIfInBounds_toArray, List.set_cons_zero, List.set_cons_succ]
          refine wpAnyH_take (i := 1) (oi := { dst := some 45, op := Op.move (Operand.tmp 6), type := 22, pos := "links.go:62", after := #[{ on := 4, ground := Ground.gcOnly Departure.lateStores }], guard := none }) (v := ?v1r3) rfl (by kernel_rfl) (by kernel_rfl) (by kernel_rfl) (fun _ _ _ h => h) (Or.inl ⟨by rfl, ?hy1r3⟩) (by exact hHeld) ?_
          case hy1r3 => (intro w hSw; (try dsimp only at hSw); go_simp; try (with_reducible rfl))
          try simp only [Act.put, List.setIfInBounds_toArray, List.set_cons_zero, List.set_cons_succ]
          refine wpAnyH_take (i := 2) (oi := { dst := some 46, op := Op.move (Operand.tmp 7), type := 3, pos := "links.go:62", after := #[{ on := 4, ground := Ground.gcOnly Departure.lateStores }], guard := none }) (v := ?v2r3) rfl (by kernel_rfl) (by kernel_rfl) (by kernel_rfl) (fun _ _ _ h => h) (Or.inl ⟨by rfl, ?hy2r3⟩) (by exact hHeld) ?_
          case hy2r3 => (intro w hSw; (try dsimp only at hSw); go_simp; try (with_reducible rfl))
          try simp only [Act.put, List.setIfInBounds_toArray, List.set_cons_zero, List.set_cons_succ]
          refine wpAnyH_take (i := 3) (oi := { dst := some 47, op := Op.indexAddr 22 (Operand.tmp 45) (Operand.tmp 46), type := 0, pos := "links.go:62", after := #[{ on := 1, ground := Ground.data }, { on := 2, ground := Ground.data }, { on := 4, ground := Ground.gcOnly Departure.lateStores }], guard := none }) (v := ?v3r3) rfl (by kernel_rfl) (by kernel_rfl) (by kernel_rfl) (fun _ _ _ h => h) (Or.inl ⟨by rfl, ?hy3r3⟩) (by exact hHeld) ?_
          case hy3r3 => (intro w hSw; (try dsimp only at hSw); go_simp; try (with_reducible rfl))
          try simp only [Act.put, List.setIfInBounds_toArray, List.set_cons_zero, List.set_cons_succ]
          refine wpAnyH_take (i := 4) (oi := { dst := some 4, op := Op.assign (Operand.tmp 44), type := 22, pos := "links.go:62", after := #[{ on := 0, ground := Ground.data }, { on := 0, ground := Ground.phase }, { on := 1, ground := Ground.textOnly Departure.lateStores }, { on := 2, ground := Ground.textOnly Departure.lateStores }, { on := 3, ground := Ground.textOnly Departure.lateStores }], guard := none }) (v := ?v4r3) rfl (by kernel_rfl) (by kernel_rfl) (by kernel_rfl) (fun _ _ _ h => h) (Or.inl ⟨by rfl, ?hy4r3⟩) (by exact hHeld) ?_
          case hy4r3 => (intro w hSw; (try dsimp only at hSw); go_simp; try (with_reducible rfl))
          try simp only [Act.put, List.setIfInBounds_toArray, List.set_cons_zero, List.set_cons_succ]
          refine wpAnyH_take (i := 5) (oi := { dst := some 5, op := Op.assign (Operand.tmp 47), type := 79, pos := "links.go:62", after := #[{ on := 3, ground := Ground.data }, { on := 4, ground := Ground.chain }, { on := 0, ground := Ground.phase }, { on := 1, ground := Ground.phase }, { on := 2, ground := Ground.phase }, { on := 3, ground := Ground.phase }, { on := 4, ground := Ground.phase }], guard := none }) (v := ?v5r3) rfl (by kernel_rfl) (by kernel_rfl) (by kernel_rfl) (fun _ _ _ h => h) (Or.inl ⟨by rfl, ?hy5r3⟩) (by exact hHeld) ?_
          case hy5r3 => (intro w hSw; (try dsimp only at hSw); go_simp; try (with_reducible rfl))
          try simp only [Act.put, List.setIfInBounds_toArray, List.set_cons_zero, List.set_cons_succ]
          refine wpAnyH_done (by kernel_rfl) ?_ _
          go_wp2_with fail
          go_ret2
          exact ⟨g, i, N, c, rfl, l, xs', HF⟩
        · have e1 : (pe != peer) = true := by simp [he]
          have e2 : (pe == peer) = false := by simp [he]
          have HL : Hid (Lnk l peer i (insAt l i (nlk peer))) := ⟨unhide HA, Or.inr ⟨rfl, fun q' hq' => by
            rw [(unhide HQ).1] at hq'; cases hq'
            rw [← (unhide HQ).2]; exact he⟩⟩
          clear HA HQ HR HCE
          have KI0 := ins_any (G := peer) (k := i) (unhide HO).1 (unhide HO).2.size (OwL.oneL (unhide HO).1) (by have := unhide HN; omega) (by have := unhide HN; omega)
          have KI : Hid (Calls Try.prog 38 #[.slice (some ⟨g, 0, none⟩) N c, .int .i64 (i : Int), .slice (some ⟨wr.heap.size, 0, none⟩) 1 1] (wr.alloc (.cells #[.int .i64 peer, .int .i64 0, .slice none 0 0, .int .i64 0, .slice none 0 0] 73)) fun e w' => ∃ g2 n2 c2, e = .returned (.slice (some ⟨g2, 0, none⟩) n2 c2) ∧ Hid (OwL kLk w.heap.size w' (.slice (some ⟨g2, 0, none⟩) n2 c2) (insAt l i (nlk peer)) (insAt xs' i nilXL) ∧ n2 = (insAt l i (nlk peer)).length ∧ Below w.heap.size w w' ∧ i < n2)) := by
            refine Calls.mono KI0 ?_
            rintro e w' ⟨v', rfl, h1, h2⟩
            obtain ⟨g2, c2, rfl, _, _, _⟩ := own_open h1.row (by rw [insAt_len]; omega)
            exact ⟨g2, _, c2, rfl, h1, rfl, Fr.toBase (unhide HO).2 h2 (fun z hz => (World.ownsRow.lt (unhide HO).1.row z (by simpa using hz)).1), by rw [insAt_len]; have := unhide HN; omega⟩
          clear KI0
          go_wp2_with fail
          refine (unhide KI).mono ?_
          rintro e w3 ⟨g2, n2, c2, rfl, hF⟩
          have HF : Hid (Lnk l peer i (insAt l i (nlk peer)) ∧ OwL kLk w.heap.size w3.drew (.slice (some ⟨g2, 0, none⟩) n2 c2) (insAt l i (nlk peer)) (insAt xs' i nilXL) ∧ n2 = (insAt l i (nlk peer)).length ∧ Below w.heap.size w w3.drew) := ⟨unhide HL, (unhide hF).1.bw (Below.refl _ _).drew, (unhide hF).2.1, (unhide hF).2.2.1.drew⟩
          have hin : (i : Int) < (n2 : Int) := by have := (unhide hF).2.2.2; omega
          clear KI hF HL HO
          go_upto_region 7 with fail
          have S0 : True := trivial
          refine wp_region_held_drew (S := fun w' : World => True) (by kernel_rfl) S0 (fun hHeld => ?_)
          refine wpAnyH_take (i := 0) (oi := { dst := some 44, op := Op.move (Operand.tmp 6), type := 22, pos := "links.go:62", after := #[], guard := none }) (v := ?v0r1) rfl (by kernel_rfl) (by kernel_rfl) (by kernel_rfl) (fun _ _ _ h => h) (Or.inl ⟨by rfl, ?hy0r1⟩) (by exact hHeld) ?_
          case hy0r1 => (intro w hSw; (try dsimp only at hSw); go_simp; try (with_reducible rfl))
          try simp only [Act.put, List.setIfInBounds_toArray, List.set_cons_zero, List.set_cons_succ]
          refine wpAnyH_take (i := 1) (oi := { dst := some 45, op := Op.move (Operand.tmp 6), type := 22, pos := "links.go:62", after := #[{ on := 4, ground := Ground.gcOnly Departure.lateStores }], guard := none }) (v := ?v1r1) rfl (by kernel_rfl) (by kernel_rfl) (by kernel_rfl) (fun _ _ _ h => h) (Or.inl ⟨by rfl, ?hy1r1⟩) (by exact hHeld) ?_
          case hy1r1 => (intro w hSw; (try dsimp only at hSw); go_simp; try (with_reducible rfl))
          try simp only [Act.put, List.setIfInBounds_toArray, List.set_cons_zero, List.set_cons_succ]
          refine wpAnyH_take (i := 2) (oi := { dst := some 46, op := Op.move (Operand.tmp 7), type := 3, pos := "links.go:62", after := #[{ on := 4, ground := Ground.gcOnly Departure.lateStores }], guard := none }) (v := ?v2r1) rfl (by kernel_rfl) (by kernel_rfl) (by kernel_rfl) (fun _ _ _ h => h) (Or.inl ⟨by rfl, ?hy2r1⟩) (by exact hHeld) ?_
          case hy2r1 => (intro w hSw; (try dsimp only at hSw); go_simp; try (with_reducible rfl))
          try simp only [Act.put, List.setIfInBounds_toArray, List.set_cons_zero, List.set_cons_succ]
          refine wpAnyH_take (i := 3) (oi := { dst := some 47, op := Op.indexAddr 22 (Operand.tmp 45) (Operand.tmp 46), type := 0, pos := "links.go:62", after := #[{ on := 1, ground := Ground.data }, { on := 2, ground := Ground.data }, { on := 4, ground := Ground.gcOnly Departure.lateStores }], guard := none }) (v := ?v3r1) rfl (by kernel_rfl) (by kernel_rfl) (by kernel_rfl) (fun _ _ _ h => h) (Or.inl ⟨by rfl, ?hy3r1⟩) (by exact hHeld) ?_
          case hy3r1 => (intro w hSw; (try dsimp only at hSw); go_simp; try (with_reducible rfl))
          try simp only [Act.put, List.setIfInBounds_toArray, List.set_cons_zero, List.set_cons_succ]
          refine wpAnyH_take (i := 4) (oi := { dst := some 4, op := Op.assign (Operand.tmp 44), type := 22, pos := "links.go:62", after := #[{ on := 0, ground := Ground.data }, { on := 0, ground := Ground.phase }, { on := 1, ground := Ground.textOnly Departure.lateStores }, { on := 2, ground := Ground.textOnly Departure.lateStores }, { on := 3, ground := Ground.textOnly Departure.lateStores }], guard := none }) (v := ?v4r1) rfl (by kernel_rfl) (by kernel_rfl) (by kernel_rfl) (fun _ _ _ h => h) (Or.inl ⟨by rfl, ?hy4r1⟩) (by exact hHeld) ?_
          case hy4r1 => (intro w hSw; (try dsimp only at hSw); go_simp; try (with_reducible rfl))
          try simp only [Act.put, List.setIfInBounds_toArray, List.set_cons_zero, List.set_cons_succ]
          refine wpAnyH_take (i := 5) (oi := { dst := some 5, op := Op.assign (Operand.tmp 47), type := 79, pos := "links.go:62", after := #[{ on := 3, ground := Ground.data }, { on := 4, ground := Ground.chain }, { on := 0, ground := Ground.phase }, { on := 1, ground := Ground.phase }, { on := 2, ground := Ground.phase }, { on := 3, ground := Ground.phase }, { on := 4, ground := Ground.phase }], guard := none }) (v := ?v5r1) rfl (by kernel_rfl) (by kernel_rfl) (by kernel_rfl) (fun _ _ _ h => h) (Or.inl ⟨by rfl, ?hy5r1⟩) (by exact hHeld) ?_
          case hy5r1 => (intro w hSw; (try dsimp only at hSw); go_simp; try (with_reducible rfl))
          try simp only [Act.put, List.setIfInBounds_toArray, List.set_cons_zero, List.set_cons_succ]
          refine wpAnyH_done (by kernel_rfl) ?_ _
          go_wp2_with fail
          go_ret2
          exact ⟨g2, i, n2, c2, rfl, _, _, HF⟩
    · obtain rfl : i = N := by omega
      have HL : Hid (Lnk l peer i (insAt l i (nlk peer))) := ⟨⟨by have := unhide HN; omega, unhide HR, fun q' hq' => by
        have := (List.getElem?_eq_some_iff.1 hq').1; have := unhide HN; omega⟩, Or.inr ⟨rfl, fun q' hq' => by
        have := (List.getElem?_eq_some_iff.1 hq').1; have := unhide HN; omega⟩⟩
      clear HR HCE
      have KI0 := ins_any (G := peer) (k := i) (unhide HO).1 (unhide HO).2.size (OwL.oneL (unhide HO).1) (by have := unhide HN; omega) (by have := unhide HN; omega)
      have KI : Hid (Calls Try.prog 38 #[.slice a i c, .int .i64 (i : Int), .slice (some ⟨wr.heap.size, 0, none⟩) 1 1] (wr.alloc (.cells #[.int .i64 peer, .int .i64 0, .slice none 0 0, .int .i64 0, .slice none 0 0] 73)) fun e w' => ∃ g2 n2 c2, e = .returned (.slice (some ⟨g2, 0, none⟩) n2 c2) ∧ Hid (OwL kLk w.heap.size w' (.slice (some ⟨g2, 0, none⟩) n2 c2) (insAt l i (nlk peer)) (insAt xs' i nilXL) ∧ n2 = (insAt l i (nlk peer)).length ∧ Below w.heap.size w w' ∧ i < n2)) := by
        refine Calls.mono KI0 ?_
        rintro e w' ⟨v', rfl, h1, h2⟩
        obtain ⟨g2, c2, rfl, _, _, _⟩ := own_open h1.row (by rw [insAt_len]; omega)
        exact ⟨g2, _, c2, rfl, h1, rfl, Fr.toBase (unhide HO).2 h2 (fun z hz => (World.ownsRow.lt (unhide HO).1.row z (by simpa using hz)).1), by rw [insAt_len]; have := unhide HN; omega⟩
      clear KI0
      go_wp2_with fail
      refine (unhide KI).mono ?_
      rintro e w3 ⟨g2, n2, c2, rfl, hF⟩
      have HF : Hid (Lnk l peer i (insAt l i (nlk peer)) ∧ OwL kLk w.heap.size w3.drew (.slice (some ⟨g2, 0, none⟩) n2 c2) (insAt l i (nlk peer)) (insAt xs' i nilXL) ∧ n2 = (insAt l i (nlk peer)).length ∧ Below w.heap.size w w3.drew) := ⟨unhide HL, (unhide hF).1.bw (Below.refl _ _).drew, (unhide hF).2.1, (unhide hF).2.2.1.drew⟩
      have hin : (i : Int) < (n2 : Int) := by have := (unhide hF).2.2.2; omega
      clear KI hF HL HO
      go_upto_region 7 with fail
      have S0 : True := trivial
      refine wp_region_held_drew (S := fun w' : World => True) (by kernel_rfl) S0 (fun hHeld => ?_)
      refine wpAnyH_take (i := 0) (oi := { dst := some 44, op := Op.move (Operand.tmp 6), type := 22, pos := "links.go:62", after := #[], guard := none }) (v := ?v0r2) rfl (by kernel_rfl) (by kernel_rfl) (by kernel_rfl) (fun _ _ _ h => h) (Or.inl ⟨by rfl, ?hy0r2⟩) (by exact hHeld) ?_
      case hy0r2 => (intro w hSw; (try dsimp only at hSw); go_simp; try (with_reducible rfl))
      try simp only [Act.put, List.setIfInBounds_toArray, List.set_cons_zero, List.set_cons_succ]
      refine wpAnyH_take (i := 1) (oi := { dst := some 45, op := Op.move (Operand.tmp 6), type := 22, pos := "links.go:62", after := #[{ on := 4, ground := Ground.gcOnly Departure.lateStores }], guard := none }) (v := ?v1r2) rfl (by kernel_rfl) (by kernel_rfl) (by kernel_rfl) (fun _ _ _ h => h) (Or.inl ⟨by rfl, ?hy1r2⟩) (by exact hHeld) ?_
      case hy1r2 => (intro w hSw; (try dsimp only at hSw); go_simp; try (with_reducible rfl))
      try simp only [Act.put, List.setIfInBounds_toArray, List.set_cons_zero, List.set_cons_succ]
      refine wpAnyH_take (i := 2) (oi := { dst := some 46, op := Op.move (Operand.tmp 7), type := 3, pos := "links.go:62", after := #[{ on := 4, ground := Ground.gcOnly Departure.lateStores }], guard := none }) (v := ?v2r2) rfl (by kernel_rfl) (by kernel_rfl) (by kernel_rfl) (fun _ _ _ h => h) (Or.inl ⟨by rfl, ?hy2r2⟩) (by exact hHeld) ?_
      case hy2r2 => (intro w hSw; (try dsimp only at hSw); go_simp; try (with_reducible rfl))
      try simp only [Act.put, List.setIfInBounds_toArray, List.set_cons_zero, List.set_cons_succ]
      refine wpAnyH_take (i := 3) (oi := { dst := some 47, op := Op.indexAddr 22 (Operand.tmp 45) (Operand.tmp 46), type := 0, pos := "links.go:62", after := #[{ on := 1, ground := Ground.data }, { on := 2, ground := Ground.data }, { on := 4, ground := Ground.gcOnly Departure.lateStores }], guard := none }) (v := ?v3r2) rfl (by kernel_rfl) (by kernel_rfl) (by kernel_rfl) (fun _ _ _ h => h) (Or.inl ⟨by rfl, ?hy3r2⟩) (by exact hHeld) ?_
      case hy3r2 => (intro w hSw; (try dsimp only at hSw); go_simp; try (with_reducible rfl))
      try simp only [Act.put, List.setIfInBounds_toArray, List.set_cons_zero, List.set_cons_succ]
      refine wpAnyH_take (i := 4) (oi := { dst := some 4, op := Op.assign (Operand.tmp 44), type := 22, pos := "links.go:62", after := #[{ on := 0, ground := Ground.data }, { on := 0, ground := Ground.phase }, { on := 1, ground := Ground.textOnly Departure.lateStores }, { on := 2, ground := Ground.textOnly Departure.lateStores }, { on := 3, ground := Ground.textOnly Departure.lateStores }], guard := none }) (v := ?v4r2) rfl (by kernel_rfl) (by kernel_rfl) (by kernel_rfl) (fun _ _ _ h => h) (Or.inl ⟨by rfl, ?hy4r2⟩) (by exact hHeld) ?_
      case hy4r2 => (intro w hSw; (try dsimp only at hSw); go_simp; try (with_reducible rfl))
      try simp only [Act.put, List.setIfInBounds_toArray, List.set_cons_zero, List.set_cons_succ]
      refine wpAnyH_take (i := 5) (oi := { dst := some 5, op := Op.assign (Operand.tmp 47), type := 79, pos := "links.go:62", after := #[{ on := 3, ground := Ground.data }, { on := 4, ground := Ground.chain }, { on := 0, ground := Ground.phase }, { on := 1, ground := Ground.phase }, { on := 2, ground := Ground.phase }, { on := 3, ground := Ground.phase }, { on := 4, ground := Ground.phase }], guard := none }) (v := ?v5r2) rfl (by kernel_rfl) (by kernel_rfl) (by kernel_rfl) (fun _ _ _ h => h) (Or.inl ⟨by rfl, ?hy5r2⟩) (by exact hHeld) ?_
      case hy5r2 => (intro w hSw; (try dsimp only at hSw); go_simp; try (with_reducible rfl))
      try simp only [Act.put, List.setIfInBounds_toArray, List.set_cons_zero, List.set_cons_succ]
      refine wpAnyH_done (by kernel_rfl) ?_ _
      go_wp2_with fail
      go_ret2
      exact ⟨g2, i, n2, c2, rfl, _, _, HF⟩
end Go.Proofs.Ytgiicendejgklaa

/- Links that may be, with one more; a link of a row has one feed more. mkQuP.py writes it. -/
namespace Go.Proofs.Ytgiicendejgklaa
open Go.RowKit Go.Maps
theorem okLs_nlk {p : Int} (h : 0 ≤ p ∧ p < 4) : (0 ≤ (nlk p).pe ∧ (nlk p).pe < 4) ∧ SendP (nlk p) ∧ ExpP (nlk p) :=
  ⟨h, ⟨by show (0 : Int) ≤ _; omega, by simp [nlk], by simp [nlk], by simp [nlk]⟩, ⟨by show (0 : Int) ≤ 0; omega, by show (0 : Int) ≤ _; omega, by simp [nlk], by simp [nlk]⟩⟩
theorem okLs_mono {l : List Lk} (h : okLs l) : ∀ (a b : Nat) (p q : Lk), a < b → l[a]? = some p → l[b]? = some q → p.pe < q.pe := by
  intro a b
  induction b with
  | zero => intro p q hab; omega
  | succ b ih =>
    intro p q hab hp hq
    have hb : b < l.length := by have := (List.getElem?_eq_some_iff.1 hq).1; omega
    have h1 := (h (b + 1) q hq).2 l[b] b rfl (List.getElem?_eq_getElem hb)
    rcases Nat.lt_or_ge a b with c | c
    · have := ih p l[b] c hp (List.getElem?_eq_getElem hb); omega
    · obtain rfl : a = b := by omega
      rw [List.getElem?_eq_getElem hb] at hp; cases hp; exact h1
theorem Lnk.ok {l L : List Lk} {p : Int} {k : Nat} (h : Lnk l p k L) (hm : okLs l) (hp : 0 ≤ p ∧ p < 4) : okLs L := by
  obtain ⟨ha, hL⟩ := h
  rcases hL with ⟨rfl, _⟩ | ⟨rfl, hn⟩
  · exact hm
  · intro j b hb
    rcases Nat.lt_trichotomy j k with c | c | c
    · rw [insAt_lt _ ha.le c] at hb
      refine ⟨(hm j b hb).1, fun q i hi hq => ?_⟩
      rw [insAt_lt _ ha.le (by omega)] at hq
      exact (hm j b hb).2 q i hi hq
    · subst c
      rw [insAt_eq _ ha.le] at hb; cases hb
      refine ⟨okLs_nlk hp, fun q i hi hq => ?_⟩
      rw [insAt_lt _ ha.le (by omega)] at hq
      exact ha.lo i q (by omega) hq
    · rw [insAt_gt _ ha.le c] at hb
      refine ⟨(hm _ b hb).1, fun q i hi hq => ?_⟩
      rcases Nat.lt_or_ge k i with d | d
      · rw [insAt_gt _ ha.le d] at hq
        exact okLs_mono hm (i - 1) (j - 1) q b (by omega) hq hb
      · obtain rfl : i = k := by omega
        rw [insAt_eq _ ha.le] at hq; cases hq
        have e : j - 1 = i := by omega
        rw [e] at hb
        have h1 := ha.hi b hb
        have h2 := hn b hb
        show p < b.pe
        omega
theorem OwL.qmore {B g n cap : Nat} {w w3 w4 : World} {l : List Lk} {xs : List Lx} (ho : OwL kLk B w (.slice (some ⟨g, 0, none⟩) n cap) l xs) {k : Nat} {b : Lk} {x : Lx} {cv' : Value} {f : Fd} {y : Fx} (hb : l[k]? = some b) (hx : xs[k]? = some x) (hbw : Below w.heap.size w w3) (hB : B ≤ w.heap.size) (hc : OF w.heap.size w3 f y)
    (hrow : w4.ownsRow B 43 53 cv' (b.q.length + 1) (cellK kFd b.q x.qx ++ fdC f y)) (hg : w3.grownBy w4 x.qv.ownBlock) (hv : cv'.ownBlock = x.qv.ownBlock ∨ cv'.ownBlock = some w3.heap.size) :
    OwL kLk B (w4.setCell ⟨g, k * 5 + 2, none⟩ cv') (.slice (some ⟨g, 0, none⟩) n cap) (l.set k { b with q := b.q ++ [f] }) (xs.set k { x with qv := cv', qx := x.qx ++ [y] }) ∧ (∀ (m0 : Nat) (u : World), m0 ≤ B → Below m0 u w → Below m0 u (w4.setCell ⟨g, k * 5 + 2, none⟩ cv')) ∧ w4.heap[g]? = w.heap[g]? := by
  have hf := Fr.ofGrown hg
  have hgo : (Value.slice (some ⟨g, 0, none⟩) n cap).ownBlock = some g := rfl
  have hgl := World.ownsRow.lt ho.row g hgo
  have hck : OL B w b x := ho.el k b _ hb hx
  have hsn : OwL kFd B w4 cv' (b.q ++ [f]) (x.qx ++ [y]) := OwL.snocK (K := kFd) hck.q hbw hB hc hrow hg hv
  have hgcv : x.qv.ownBlock ≠ some g := fun q => ho.self g k _ hgo hx (List.mem_append_left _ (zK_row (K := kFd) q))
  have kp : ∀ z, z < w.heap.size → x.qv.ownBlock ≠ some z → w4.heap[z]? = w.heap[z]? := fun z hz hn => by
    rw [hf.block z (Nat.lt_of_lt_of_le hz hbw.size) (fun q => hn (by simpa using q)), hbw.block z hz]
  have hZ : ∀ z ∈ zK kFd cv' (x.qx ++ [y]), z ∈ zK kFd x.qv x.qx ∨ w.heap.size ≤ z := fun z hz => by
    rcases zK_cases hz with q | ⟨i, u, hu, q⟩
    · rcases hv with r | r
      · exact Or.inl (zK_row (by rw [← r]; exact q))
      · rw [r] at q; cases q; exact Or.inr hbw.size
    · rcases get_snocM hu with ⟨_, h2⟩ | ⟨_, h2⟩
      · exact Or.inl (zK_el h2 q)
      · subst h2; exact Or.inr (OF.lt hc z q).1
  have hgz : g ∉ zK kFd cv' (x.qx ++ [y]) := fun q => by
    rcases hZ g q with r | r
    · exact ho.self g k _ hgo hx (List.mem_append_left _ r)
    · omega
  have hge : g ∉ zK kEr x.ev x.ex := fun q => ho.self g k _ hgo hx (List.mem_append_right _ q)
  have hle : ∀ z ∈ zK kEr x.ev x.ex, z < w.heap.size := fun z hz => (hck.e.lt z hz).2
  have hO : OL B (w4.setCell ⟨g, k * 5 + 2, none⟩ cv') { b with q := b.q ++ [f] } { x with qv := cv', qx := x.qx ++ [y] } := by
    refine ⟨OwL.keep hsn (fun z hz => other_c (fun q => hgz (by rw [← q]; exact hz))), OwL.keep hck.e (fun z hz => ?_), fun z hz hq => ?_⟩
    · rw [other_c (fun q => hge (by rw [← q]; exact hz))]
      exact kp z (hle z hz) (fun q => hck.ap z (zK_row q) hz)
    · rcases hZ z hz with r | r
      · exact hck.ap z r hq
      · have := hle z hq; omega
  refine ⟨OwL.put (K := kLk) (w' := w4) (j := 2) (u := cv') (a' := { b with q := b.q ++ [f] }) (x' := { x with qv := cv', qx := x.qx ++ [y] }) ho hgo hb hx (by decide) rfl hO (fun z hz => ?_) (fun z hz hn => kp z hz (fun q => hn (List.mem_append_left _ (zK_row (K := kFd) q)))), fun m0 u hm hu => ?_, kp g hgl.2 hgcv⟩
  · rcases List.mem_append.1 hz with q | q
    · rcases hZ z q with r | r
      · exact Or.inl (List.mem_append_left _ r)
      · exact Or.inr r
    · exact Or.inl (List.mem_append_right _ q)
  · refine Below.setCell ?_ (by show m0 ≤ g; omega) _
    refine (hu.trans (Below.mono hbw (Nat.le_trans hm hB))).grown hg (by have := hbw.size; omega) (fun z hz => ?_)
    have := (World.ownsRow.lt hck.q.row z hz).1
    omega
theorem OwL.lcell {B g : Nat} {w : World} {v : Value} {l : List Lk} {xs : List Lx} (ho : OwL kLk B w v l xs) (hg : v.ownBlock = some g) {k : Nat} {b : Lk} {x : Lx} (hb : l[k]? = some b) (hx : xs[k]? = some x) : ∀ j u, (lkC b x.qv x.ev)[j]? = some u → w.cell? ⟨g, k * 5 + j, none⟩ = some u :=
  fun _ _ hj => own_cell ho.row hg (cellK_get (K := kLk) hb hx hj)
theorem OwL.lput {B g : Nat} {w : World} {v : Value} {l : List Lk} {xs : List Lx} (ho : OwL kLk B w v l xs) (hg : v.ownBlock = some g) {k j : Nat} {b b' : Lk} {x : Lx} {u : Value} (hb : l[k]? = some b) (hx : xs[k]? = some x) (hj : j < 5) (hC : (lkC b x.qv x.ev).set j u = lkC b' x.qv x.ev) (hq : b'.q = b.q) (he : b'.ea = b.ea) :
    OwL kLk B (w.setCell ⟨g, k * 5 + j, none⟩ u) v (l.set k b') (xs.set k x) := by
  have hck : OL B w b x := ho.el k b _ hb hx
  have hO : OL B (w.setCell ⟨g, k * 5 + j, none⟩ u) b' x := by
    have h1 : OL B w b' x := ⟨by rw [hq]; exact hck.q, by rw [he]; exact hck.e, hck.ap⟩
    exact OL.keep h1 (fun z hz => other_c (fun q => ho.self g k _ hg hx (by rw [← q]; exact hz)))
  exact OwL.put (K := kLk) (w' := w) ho hg hb hx hj hC hO (fun z hz => Or.inl hz) (fun z _ _ => rfl)
end Go.Proofs.Ytgiicendejgklaa

/- How a method of a pile behind an interface is found. No walk is in this text. -/
namespace Go.Proofs.Ytgiicendejgklaa
open Go.RowKit Go.Maps
theorem meth_one {P : Program} {n : Nat} {t : TypeId} {v : Value} {name : String} {f : Nat} {b : Bool} {rv : Value} {w : World} (h : ((P.info? t).bind (fun it => it.methods.find? (·.name == name))).map (fun m => (m.path, m.func)) = some (#[], some (f, b)))
    (hr : (receiverAt t (.val v) b (some ((name.splitOn ".").getLastD name))).run P w = .ok rv w) : (method (n + 1) t v name).run P w = .ok (f, rv) w := by
  cases hi : P.info? t with
  | none => rw [hi] at h; cases h
  | some it =>
    rw [hi] at h
    simp only [Option.bind_some] at h
    cases hm : it.methods.find? (·.name == name) with
    | none => rw [hm] at h; cases h
    | some m =>
      rw [hm] at h
      simp only [Option.map_some, Option.some.injEq, Prod.mk.injEq] at h
      rw [method]
      simp at hr
      simp [typeInfo, hi, hm, h.1, h.2, follow]
      rw [hr]
      rfl
theorem recv_ptr {P : Program} {t e : TypeId} {a : Addr} {s : String} {v : Value} {w : World} (hu : P.underlying t = some (.pointer e)) (hl : (loadVar e a).run P w = .ok v w) : (receiverAt t (.val (.pointer (some a))) false (some s)).run P w = .ok v w := by
  have hw : (Builtin.ssaWrapNilChk_ #[t] t #[.pointer (some a), strVal "", strVal s]).run P w = .ok (.pointer (some a)) w := rfl
  unfold receiverAt
  simp [run_underlying hu, Place.get, hw, asAddr, hl]
theorem load_pile {w : World} {bp : Nat} {v : Value} (hp : w.cell? ⟨bp, 0, none⟩ = some v) : (loadVar 106 ⟨bp, 0, none⟩).run Try.prog w = .ok v w := by
  simp [go_sem, hp]
theorem meth_len {w : World} {bp : Nat} {v : Value} (hp : w.cell? ⟨bp, 0, none⟩ = some v) : (method (Try.prog.types.size + 100) 99 (.pointer (some ⟨bp, 0, none⟩)) "Len").run Try.prog w = .ok (101, v) w :=
  meth_one (n := Try.prog.types.size + 99) (by kernel_rfl) (recv_ptr Try.underlying99 (load_pile hp))
theorem meth_less {w : World} {bp : Nat} {v : Value} (hp : w.cell? ⟨bp, 0, none⟩ = some v) : (method (Try.prog.types.size + 100) 99 (.pointer (some ⟨bp, 0, none⟩)) "Less").run Try.prog w = .ok (102, v) w :=
  meth_one (n := Try.prog.types.size + 99) (by kernel_rfl) (recv_ptr Try.underlying99 (load_pile hp))
theorem meth_swap {w : World} {bp : Nat} {v : Value} (hp : w.cell? ⟨bp, 0, none⟩ = some v) : (method (Try.prog.types.size + 100) 99 (.pointer (some ⟨bp, 0, none⟩)) "Swap").run Try.prog w = .ok (105, v) w :=
  meth_one (n := Try.prog.types.size + 99) (by kernel_rfl) (recv_ptr Try.underlying99 (load_pile hp))
theorem meth_push (bp : Nat) (w : World) : (method (Try.prog.types.size + 100) 99 (.pointer (some ⟨bp, 0, none⟩)) "Push").run Try.prog w = .ok (104, .pointer (some ⟨bp, 0, none⟩)) w := by kernel_rfl
theorem meth_pop (bp : Nat) (w : World) : (method (Try.prog.types.size + 100) 99 (.pointer (some ⟨bp, 0, none⟩)) "Pop").run Try.prog w = .ok (103, .pointer (some ⟨bp, 0, none⟩)) w := by kernel_rfl
theorem szT : Try.prog.types.size + 100 = 275 := by kernel_rfl
theorem methN_len {w : World} {bp : Nat} {v : Value} (hp : w.cell? ⟨bp, 0, none⟩ = some v) : (method 275 99 (.pointer (some ⟨bp, 0, none⟩)) "Len").run Try.prog w = .ok (101, v) w := by rw [← szT]; exact meth_len hp
theorem methN_less {w : World} {bp : Nat} {v : Value} (hp : w.cell? ⟨bp, 0, none⟩ = some v) : (method 275 99 (.pointer (some ⟨bp, 0, none⟩)) "Less").run Try.prog w = .ok (102, v) w := by rw [← szT]; exact meth_less hp
theorem methN_swap {w : World} {bp : Nat} {v : Value} (hp : w.cell? ⟨bp, 0, none⟩ = some v) : (method 275 99 (.pointer (some ⟨bp, 0, none⟩)) "Swap").run Try.prog w = .ok (105, v) w := by rw [← szT]; exact meth_swap hp
theorem methN_push (bp : Nat) (w : World) : (method 275 99 (.pointer (some ⟨bp, 0, none⟩)) "Push").run Try.prog w = .ok (104, .pointer (some ⟨bp, 0, none⟩)) w := by rw [← szT]; exact meth_push bp w
theorem methN_pop (bp : Nat) (w : World) : (method 275 99 (.pointer (some ⟨bp, 0, none⟩)) "Pop").run Try.prog w = .ok (103, .pointer (some ⟨bp, 0, none⟩)) w := by rw [← szT]; exact meth_pop bp w
end Go.Proofs.Ytgiicendejgklaa
