/- Texts joined: StK StL StM. -/
import Derived.Test.YtfnpeiikjiffeaaGreatBaN
import Derived.Test.YtfnpeiikjiffeaaGreatStFrame
/- The laws' own functions: Size, named, Same. -/
namespace Go.Proofs.YtfnpeiikjiffeaaGreat
open Go.RowKit Go.Maps

set_option maxRecDepth 100000 in
set_option maxHeartbeats 2000000 in
theorem size_any {w : World} {a : Option Addr} {cap : Nat} {l : List PP} (h : PrsAt w a l) :
    Calls Tryz.prog 6 #[.slice a l.length cap] w fun e w' => ∃ N : Nat, e = .returned (.int .i64 (N : Int)) ∧ l.length ≤ N ∧ N ≤ 1125899906842624 ∧ Below w.heap.size w w' := by
  obtain ⟨L, hL⟩ : ∃ L, L = l.length := ⟨_, rfl⟩
  have HL := hide hL
  have hLi : (L : Int) ≤ 140737488355328 := by have := h.len; omega
  have HP := hide h
  rw [← hL]
  clear h hL
  go_enter Tryz.func6, Tryz.ntmps6
  go_wp2_with fail
  go_loopw [4, 3] (fun iv nv wr => ∃ i n : Nat, i ≤ L ∧ iv = .int .i64 (i : Int) ∧ nv = .int .i64 (n : Int) ∧ L ≤ n ∧ (n : Int) ≤ 1125899906842624 ∧ Hid (Below w.heap.size w wr)) (fun iv _ _ => (L - intOf iv).toNat)
  case atStart => exact ⟨0, L, by omega, rfl, rfl, by omega, by omega, Below.refl _ _⟩
  case round =>
    obtain ⟨i, n, hi, rfl, rfl, hn, hn2, HB⟩ := hrel
    by_cases hlt : i < L
    · by_cases hb : n < 268435456
      · obtain ⟨p, hp⟩ : ∃ p, l[i]? = some p := ⟨_, List.getElem?_eq_getElem (by have := unhide HL; omega)⟩
        obtain ⟨b, off, ha, hcell⟩ := (unhide HP).get hp
        subst ha
        obtain ⟨p0, p1, p2⟩ := hcell wr (unhide HB)
        obtain ⟨f1, f2⟩ := (unhide HP).fit p (List.mem_of_getElem? hp)
        have hii : (i : Int) < (L : Int) := by omega
        have hbi : (n : Int) < 268435456 := by omega
        have g1 : (p.n.size : Int) ≤ 140737488355328 := by omega
        have g2 : (p.t.size : Int) ≤ 140737488355328 := by omega
        clear hcell hp
        go_wp2_with fail
        go_quiet (fail)
        all_goals
          go_wp2_with fail
          go_roundw
          case rel => exact ⟨i + 1, n + p.n.size + p.t.size, by omega, by go_num, by go_num, by omega, by omega, below_drewN (unhide HB) _⟩
          case measure => simp only [intOf]; omega
      · have hii : (i : Int) < (L : Int) := by omega
        have hbi : ¬ (n : Int) < 268435456 := by omega
        go_wp2_with fail
        go_ret
        exact ⟨n, rfl, by have := unhide HL; omega, by omega, unhide HB⟩
    · have hii : ¬ (i : Int) < (L : Int) := by omega
      go_wp2_with fail
      go_ret
      exact ⟨n, rfl, by have := unhide HL; omega, by omega, unhide HB⟩
theorem name_eq {a b : ByteArray} : (a.toList == b.toList) = decide (a = b) := by
  rw [ByteArray.toList_eq, ByteArray.toList_eq]
  by_cases h : a = b
  · subst h; simp
  · rw [decide_eq_false h, beq_eq_false_iff_ne]; exact fun c => h (ba_ext c)
def namedB (l : List PP) (k : ByteArray) : Bool := l.any fun p => decide (p.n = k)
theorem namedB_iff {l : List PP} {k : ByteArray} : namedB l k = true ↔ ∃ p ∈ l, p.n = k := by simp [namedB]
set_option maxRecDepth 100000 in
set_option maxHeartbeats 2000000 in
theorem named_any {w : World} {a : Option Addr} {cap : Nat} {l : List PP} (h : PrsAt w a l) (k : ByteArray) :
    Calls Tryz.prog 50 #[.slice a l.length cap, .string k] w fun e w' => e = .returned (.bool (namedB l k)) ∧ w' = w := by
  obtain ⟨L, hL⟩ : ∃ L, L = l.length := ⟨_, rfl⟩
  obtain ⟨z, hz⟩ : ∃ z, z = namedB l k := ⟨_, rfl⟩
  have HL := hide (And.intro hL hz)
  have hLi : (L : Int) ≤ 140737488355328 := by have := h.len; omega
  have HP := hide h
  rw [← hL, ← hz]
  clear h hL hz
  go_enter Tryz.func50, Tryz.ntmps50
  go_wp2_with fail
  go_loopw [5] (fun iv wr => ∃ i : Nat, i ≤ L ∧ iv = .int .i64 (i : Int) ∧ wr = w ∧ Hid (∀ p ∈ l.take i, p.n ≠ k)) (fun iv _ => (L - intOf iv).toNat)
  case atStart => exact ⟨0, by omega, rfl, rfl, by simp [Hid]⟩
  case round =>
    obtain ⟨i, hi, rfl, rfl, HR⟩ := hrel
    by_cases hlt : i < L
    · obtain ⟨p, hp⟩ : ∃ p, l[i]? = some p := ⟨_, List.getElem?_eq_getElem (by have := (unhide HL).1; omega)⟩
      obtain ⟨b, off, ha, hcell⟩ := (unhide HP).get hp
      subst ha
      obtain ⟨p0, p1, p2⟩ := hcell wr (Below.refl _ _)
      have hii : (i : Int) < (L : Int) := by omega
      have hn := @name_eq p.n k
      by_cases hk : p.n = k
      · rw [decide_eq_true hk] at hn
        obtain rfl : z = true := by rw [(unhide HL).2]; exact namedB_iff.2 ⟨p, List.mem_of_getElem? hp, hk⟩
        clear hk hcell hp
        go_wp2_with fail
        go_ret
        exact ⟨rfl, rfl⟩
      · rw [decide_eq_false hk] at hn
        have HN : Hid (∀ p ∈ l.take (i + 1), p.n ≠ k) := by
          intro q hq
          rw [take_snoc hp] at hq
          rcases List.mem_append.1 hq with hq | hq
          · exact unhide HR q hq
          · simp at hq; subst hq; exact hk
        clear hk hcell hp
        go_wp2_with fail
        go_roundw
        case rel => exact ⟨i + 1, by omega, by go_num, by first | rfl | trivial, HN⟩
        case measure => simp only [intOf]; omega
    · obtain rfl : i = L := by omega
      obtain rfl : z = false := by
        rw [(unhide HL).2]
        cases e : namedB l k with
        | false => rfl
        | true =>
          obtain ⟨p, hp, hk⟩ := namedB_iff.1 e
          exact absurd hk (unhide HR p (by rw [(unhide HL).1, List.take_length]; exact hp))
      go_wp2_with fail
      go_ret
      exact ⟨rfl, rfl⟩
theorem pp_ne {p q : PP} (h : p ≠ q) : p.n ≠ q.n ∨ (p.n = q.n ∧ p.t ≠ q.t) ∨ (p.n = q.n ∧ p.t = q.t ∧ p.g ≠ q.g) := by
  obtain ⟨a, b, c⟩ := p
  obtain ⟨a', b', c'⟩ := q
  simp only [ne_eq, PP.mk.injEq, not_and] at h ⊢
  by_cases h1 : a = a'
  · by_cases h2 : b = b'
    · exact Or.inr (Or.inr ⟨h1, h2, h h1 h2⟩)
    · exact Or.inr (Or.inl ⟨h1, h2⟩)
  · exact Or.inl h1
set_option maxRecDepth 100000 in
set_option maxHeartbeats 4000000 in
theorem same7_any {w : World} {a b : Option Addr} {ca cb : Nat} {la lb : List PP} (ha : PrsAt w a la) (hb : PrsAt w b lb) :
    Calls Tryz.prog 11 #[.slice a la.length ca, .slice b lb.length cb] w fun e w' => ∃ z : Bool, e = .returned (.bool z) ∧ (z = true ↔ la = lb) ∧ Below w.heap.size w w' := by
  by_cases hl : la.length = lb.length
  · rw [← hl]
    obtain ⟨L, hL⟩ : ∃ L, L = la.length := ⟨_, rfl⟩
    rw [← hL]
    have HL := hide (And.intro hL (hL.trans hl))
    have hLi : (L : Int) ≤ 140737488355328 := by have := ha.len; omega
    have HA := hide ha
    have HB := hide hb
    clear ha hb hL hl
    go_enter Tryz.func11, Tryz.ntmps11
    go_wp2_with fail
    go_loopw [5] (fun iv wr => ∃ i : Nat, i ≤ L ∧ iv = .int .i64 (i : Int) ∧ Hid (la.take i = lb.take i ∧ Below w.heap.size w wr)) (fun iv _ => (L - intOf iv).toNat)
    case atStart => exact ⟨0, by omega, rfl, by simp, Below.refl _ _⟩
    case round =>
      obtain ⟨i, hi, rfl, HR⟩ := hrel
      by_cases hlt : i < L
      · obtain ⟨p, hp⟩ : ∃ p, la[i]? = some p := ⟨_, List.getElem?_eq_getElem (by have := (unhide HL).1; omega)⟩
        obtain ⟨q, hq⟩ : ∃ q, lb[i]? = some q := ⟨_, List.getElem?_eq_getElem (by have := (unhide HL).2; omega)⟩
        obtain ⟨b1, o1, h1, c1⟩ := (unhide HA).get hp
        obtain ⟨b2, o2, h2, c2⟩ := (unhide HB).get hq
        subst h1 h2
        obtain ⟨p0, p1, p2⟩ := c1 wr (unhide HR).2
        obtain ⟨q0, q1, q2⟩ := c2 wr (unhide HR).2
        have hii : (i : Int) < (L : Int) := by omega
        have HPQ := hide (And.intro hp hq)
        clear c1 c2 hp hq
        by_cases hpq : p = q
        · subst hpq
          have HN : Hid (la.take (i + 1) = lb.take (i + 1)) := by
            unfold Hid
            rw [List.take_add_one, List.take_add_one, (unhide HR).1, (unhide HPQ).1, (unhide HPQ).2]
          go_wp2_with fail
          go_quiet (fail)
          all_goals
            go_wp2_with fail
            go_roundw
            case rel => exact ⟨i + 1, by omega, by go_num, unhide HN, below_drewN (unhide HR).2 _⟩
            case measure => simp only [intOf]; omega
        · have HD : Hid (¬ la = lb) := fun c => by
            subst c
            exact hpq (Option.some.inj ((unhide HPQ).1.symm.trans (unhide HPQ).2))
          have hne := pp_ne hpq
          clear hpq HPQ
          obtain ⟨n1, t1, g1⟩ := p
          obtain ⟨n2, t2, g2⟩ := q
          simp only at p0 p1 p2 q0 q1 q2 hne
          rcases hne with h | ⟨rfl, h⟩ | ⟨rfl, rfl, h⟩
          · have h' : (n1.toList == n2.toList) = false := by rw [name_eq, decide_eq_false h]
            clear h
            go_wp2_with fail
            go_quiet (fail)
            all_goals
              go_wp2_with fail
              go_ret
              exact ⟨false, rfl, ⟨fun c => (by cases c), fun c => absurd c (unhide HD)⟩, below_drewN (unhide HR).2 _⟩
          · have h' : (t1.toList == t2.toList) = false := by rw [name_eq, decide_eq_false h]
            clear h
            go_wp2_with fail
            go_quiet (fail)
            all_goals
              go_wp2_with fail
              go_ret
              exact ⟨false, rfl, ⟨fun c => (by cases c), fun c => absurd c (unhide HD)⟩, below_drewN (unhide HR).2 _⟩
          · have h' : (g1 == g2) = false := beq_eq_false_iff_ne.2 h
            clear h
            go_wp2_with fail
            go_quiet (fail)
            all_goals
              go_wp2_with fail
              go_ret
              exact ⟨false, rfl, ⟨fun c => (by cases c), fun c => absurd c (unhide HD)⟩, below_drewN (unhide HR).2 _⟩
      · obtain rfl : i = L := by omega
        have HE : Hid (la = lb) := by
          have := (unhide HR).1
          rw [List.take_of_length_le (by have := (unhide HL).1; omega), List.take_of_length_le (by have := (unhide HL).2; omega)] at this
          exact this
        go_wp2_with fail
        go_ret
        exact ⟨true, rfl, ⟨fun _ => unhide HE, fun _ => rfl⟩, (unhide HR).2⟩
  · have HD : Hid (¬ la = lb) := fun c => hl (by rw [c])
    have b1 : (la.length : Int) ≤ 140737488355328 := by have := ha.len; omega
    have b2 : (lb.length : Int) ≤ 140737488355328 := by have := hb.len; omega
    clear ha hb
    generalize la.length = n at *
    generalize lb.length = n' at *
    have hd1 : ((n : Int) == (n' : Int)) = false := by rw [beq_eq_false_iff_ne]; omega
    have hd2 : ((n : Int) != (n' : Int)) = true := by rw [bne_iff_ne]; omega
    clear hl
    go_enter Tryz.func11, Tryz.ntmps11
    go_wp2
    go_ret
    exact ⟨false, rfl, ⟨fun c => (by cases c), fun c => absurd c (unhide HD)⟩, Below.refl _ _⟩
end Go.Proofs.YtfnpeiikjiffeaaGreat

/- The laws' own functions: all, others. -/
namespace Go.Proofs.YtfnpeiikjiffeaaGreat
open Go.RowKit Go.Maps

theorem QRow.bw {w W W' : World} {v : Value} {l : List PP} (h : QRow w W v l) (hb : Below W.heap.size W W') : QRow w W' v l := ⟨bw_tr h.bel hb, h.row.bw hb, h.new⟩
theorem QRow.nil (w : World) : QRow w w (.slice none 0 0) [] := ⟨Below.refl _ _, prow_nil _, fun k hk => by cases hk⟩
theorem SRow.bw {w w' : World} {v : Value} {l : List ByteArray} (h : SRow w v l) (hb : Below w.heap.size w w') : SRow w' v l := own_keep h (fun k hk => hb.block k (World.ownsRow.lt h k hk).2)
theorem srow_apart {w W w' : World} {v lv : Value} {l : List PP} {ns : List ByteArray} (hR : SRow W v ns) (hQ : QRow w W lv l) (h2 : Fr lv.ownBlock.toList W w') : SRow w' v ns := by
  refine own_keep hR (fun x hx => h2.block x (World.ownsRow.lt hR x hx).2 ?_)
  intro c
  have c : lv.ownBlock = some x := by simpa using c
  exact own_apart hQ.row hR (by decide) c hx
set_option maxRecDepth 100000 in
set_option maxHeartbeats 4000000 in
theorem all_any {w W : World} {d : Nat} {S : DS} {sb n : Nat} {t : ByteArray} {m : MM} {dn lost : Bool} {rs : List Res} (h : ES w W d S sb n t m dn lost rs) (hf : Fits m) :
    Calls Tryz.prog 16 #[.pointer (some ⟨sb, 0, none⟩)] W fun e W' => ∃ v ns, e = .returned v ∧ Nm m ns ∧ ns.length ≤ 256 ∧ QRow W W' v (pairsOf m ns) := by
  have K0 := hide (snames_any h)
  have HE := hide (And.intro h hf)
  clear h hf
  go_enter Tryz.func16, Tryz.ntmps16
  go_wp2_with fail
  refine (unhide K0).mono ?_
  rintro e W1 ⟨v, ns, rfl, hN, hl, hR, hnew, b1⟩
  obtain ⟨av, cv, hv⟩ := own_slice hR
  subst hv
  obtain ⟨N, hNN⟩ : ∃ N, N = ns.length := ⟨_, rfl⟩
  have HI : Hid (QRow W W1 (.slice none 0 0) (pairsOf m (ns.take 0)) ∧ SRow W1 (.slice av ns.length cv) ns) := ⟨(QRow.nil W).bw b1, hR⟩
  rw [← hNN] at HI ⊢
  have HN := hide (And.intro hNN (And.intro hN hl))
  have hNi : (N : Int) ≤ 256 := by omega
  clear K0 hN hR hnew b1 hNN hl
  go_wp2_with fail
  go_loopw [5, 3] (fun iv lv wr => ∃ i : Nat, i ≤ N ∧ iv = .int .i64 (i : Int) ∧ Hid (QRow W wr lv (pairsOf m (ns.take i)) ∧ SRow wr (.slice av N cv) ns)) (fun iv _ _ => (N - intOf iv).toNat)
  case atStart => exact ⟨0, by omega, rfl, HI⟩
  case round =>
    clear HI
    obtain ⟨i, hi, rfl, HR⟩ := hrel
    by_cases hlt : i < N
    · obtain ⟨k, hk⟩ : ∃ k, ns[i]? = some k := ⟨_, List.getElem?_eq_getElem (by have := (unhide HN).1; omega)⟩
      have hkm : k ∈ ns := List.mem_of_getElem? hk
      obtain ⟨hQ, hR⟩ := unhide HR
      have hat := (unhide HN).2.1.at hkm
      have hkf : k.size ≤ 65536 := by
        have hm := ((unhide HN).2.1.mem k).1 hkm
        cases e : m k with
        | none => rw [e] at hm; cases hm
        | some t => exact ((unhide HE).2 k t e).1
      have KG := hide (sget_any ((unhide HE).1.new hQ.bel) k (by omega))
      rw [hat] at KG
      obtain ⟨g, cap, hv, ck, _, _⟩ := hR.cell hk
      rw [← (unhide HN).1] at hv
      cases hv
      have hii : (i : Int) < (N : Int) := by omega
      have hpl : (pairsOf m (ns.take i)).length ≤ 1000000 := by simp [pairsOf]; omega
      obtain ⟨tt, htt⟩ : ∃ tt, tt = (m k).getD ByteArray.empty := ⟨_, rfl⟩
      have HK := hide (And.intro hk htt)
      simp only at KG
      rw [← htt] at KG
      obtain ⟨zz, hzz⟩ : ∃ zz, zz = (m k).isSome := ⟨_, rfl⟩
      rw [← hzz] at KG
      clear hQ hR hk hkm hkf htt hat hzz
      go_wp2_with fail
      refine (unhide KG).mono ?_
      rintro e V ⟨rfl, bV⟩
      obtain ⟨hQ0, hR0⟩ := unhide HR
      have hQ := hQ0.bw bV
      have hR : SRow V (.slice (some ⟨g, 0, none⟩) N cv) ns := SRow.bw hR0 bV
      obtain ⟨g', cap', hv', ck', _, _⟩ := hR.cell (unhide HK).1
      rw [← (unhide HN).1] at hv'
      cases hv'
      have HZ : Hid (∀ v' w', QRow W w' v' (pairsOf m (ns.take i) ++ [⟨k, tt, false⟩]) → Fr u3.ownBlock.toList V w' → QRow W w' v' (pairsOf m (ns.take (i + 1))) ∧ SRow w' (.slice (some ⟨g, 0, none⟩) N cv) ns) := fun v' w' h1 h2 => by
        have e1 : ns.take (i + 1) = ns.take i ++ [k] := by rw [List.take_add_one, (unhide HK).1]; rfl
        refine ⟨by rw [e1, pairsOf_snoc, ← (unhide HK).2]; exact h1, srow_apart hR hQ h2⟩
      have HQ7 := hide hQ
      clear hQ hR HR hQ0 hR0 ck KG bV
      go_wp2_with (at_builtin; refine wpList_pushP (p := ⟨k, tt, false⟩) rfl (.tmp 25) (.tmp 32) rfl rfl rfl (unhide HQ7) hpl ?nx)
      case nx =>
        intro v' w5 E5 F5
        have HE5 := hide (unhide HZ v' w5 E5 F5)
        clear E5 F5 HZ HQ7 ck'
        go_wp2_with fail
        go_roundw
        case rel => exact ⟨i + 1, by omega, by go_num, HE5⟩
        case measure => simp only [intOf]; omega
    · obtain rfl : i = N := by omega
      have e1 : ns.take i = ns := by rw [(unhide HN).1]; exact List.take_length
      have hQ := (unhide HR).1
      rw [e1] at hQ
      have HF := hide hQ
      clear hQ HR e1
      go_wp2_with fail
      go_ret
      exact ⟨_, ns, rfl, (unhide HN).2.1, (unhide HN).2.2, unhide HF⟩
end Go.Proofs.YtfnpeiikjiffeaaGreat

/- The laws' own functions: others, fresh, SameTexts. -/
namespace Go.Proofs.YtfnpeiikjiffeaaGreat
open Go.RowKit Go.Maps

def outB (l : List PP) (p : PP) : Bool := !namedB l p.n
theorem filter_snoc {la : List PP} {i : Nat} {p : PP} (h : la[i]? = some p) (f : PP → Bool) : (la.take (i + 1)).filter f = (la.take i).filter f ++ (if f p = true then [p] else []) := by
  rw [take_snoc h, List.filter_append]; congr 1; cases e : f p <;> simp [e]
theorem QRow.fit {w W : World} {v : Value} {l l' : List PP} (h : QRow w W v l) (hl : l.length ≤ 140737488355328) (hs : ∀ x ∈ l, x ∈ l') (hf : ∀ x ∈ l', x.n.size ≤ 140737488355328 ∧ x.t.size ≤ 140737488355328) : ∃ a c, v = .slice a l.length c ∧ PrsAt W a l := h.row.read hl (fun x hx => hf x (hs x hx))
set_option maxRecDepth 100000 in
set_option maxHeartbeats 8000000 in
theorem others_any {w : World} {a b c : Option Addr} {ca cb cc : Nat} {la lb l : List PP} (ha : PrsAt w a la) (hb : PrsAt w b lb) (hc : PrsAt w c l) (hla : la.length ≤ 256) (hlb : lb.length ≤ 256) :
    Calls Tryz.prog 23 #[.slice a la.length ca, .slice b lb.length cb, .slice c l.length cc] w fun e w' => ∃ z : Bool, e = .returned (.bool z) ∧ (z = true ↔ la.filter (outB l) = lb.filter (outB l)) ∧ Below w.heap.size w w' := by
  obtain ⟨LA, hLA⟩ : ∃ L, L = la.length := ⟨_, rfl⟩
  obtain ⟨LB, hLB⟩ : ∃ L, L = lb.length := ⟨_, rfl⟩
  obtain ⟨LL, hLL⟩ : ∃ L, L = l.length := ⟨_, rfl⟩
  rw [← hLA, ← hLB, ← hLL]
  have hAi : (LA : Int) ≤ 256 := by omega
  have hBi : (LB : Int) ≤ 256 := by omega
  have HL := hide (And.intro hLA (And.intro hLB hLL))
  have HA := hide ha
  have HB := hide hb
  have KN := hide (fun k (W : World) (hW : Below w.heap.size w W) => named_any (cap := cc) (hc.bw hW) k)
  rw [← hLL] at KN
  clear ha hb hc hla hlb hLA hLB hLL
  go_enter Tryz.func23, Tryz.ntmps23
  go_wp2_with fail
  go_loopw [9, 7] (fun iv xv wr => ∃ i : Nat, i ≤ LA ∧ iv = .int .i64 (i : Int) ∧ Hid (QRow w wr xv ((la.take i).filter (outB l)))) (fun iv _ _ => (LA - intOf iv).toNat)
  case atStart => exact ⟨0, by omega, rfl, QRow.nil w⟩
  case round =>
    obtain ⟨i, hi, rfl, HR⟩ := hrel
    by_cases hlt : i < LA
    · obtain ⟨p, hp⟩ : ∃ p, la[i]? = some p := ⟨_, List.getElem?_eq_getElem (by have := (unhide HL).1; omega)⟩
      obtain ⟨b1, o1, h1, c1⟩ := (unhide HA).get hp
      subst h1
      obtain ⟨p0, p1, p2⟩ := c1 wr (unhide HR).bel
      have hii : (i : Int) < (LA : Int) := by omega
      have K1 := hide (unhide KN p.n wr (unhide HR).bel)
      have hpl : ((la.take i).filter (outB l)).length ≤ 1000000 := Nat.le_trans (List.length_filter_le _ _) (by rw [List.length_take]; omega)
      cases hz : namedB l p.n
      · rw [hz] at K1
        have HZ : Hid (∀ v' w', QRow w w' v' ((la.take i).filter (outB l) ++ [p]) → QRow w w' v' ((la.take (i + 1)).filter (outB l))) := fun v' w' hq => by
          rw [filter_snoc hp, if_pos (by unfold outB; rw [hz]; rfl)]; exact hq
        obtain ⟨pn, pt, pg⟩ := p
        simp only at p0 p1 p2 K1
        clear c1 hp hz
        go_wp2_with (first | (go_at_call 50; refine (unhide K1).mono ?_; rintro e w1 ⟨rfl, rfl⟩) | (at_builtin; refine wpList_pushP (p := ⟨pn, pt, pg⟩) rfl (.tmp 25) (.tmp 30) rfl rfl rfl (unhide HR) hpl ?nx))
        case nx =>
          intro v' w5 E5 F5
          have HE5 := hide (unhide HZ v' w5 E5)
          clear E5 F5 HZ HR K1 p0 p1 p2
          go_wp2_with fail
          go_roundw
          case rel => exact ⟨i + 1, by omega, by go_num, HE5⟩
          case measure => simp only [intOf]; omega
      · rw [hz] at K1
        have HN : Hid (QRow w wr u7 ((la.take (i + 1)).filter (outB l))) := by
          unfold Hid
          rw [filter_snoc hp, if_neg (by unfold outB; rw [hz]; simp), List.append_nil]; exact unhide HR
        clear c1 hp hz HR
        go_wp2_with (first | (go_at_call 50; refine (unhide K1).mono ?_; rintro e w1 ⟨rfl, rfl⟩))
        go_roundw
        case rel => exact ⟨i + 1, by omega, by go_num, HN⟩
        case measure => simp only [intOf]; omega
    · obtain rfl : i = LA := by omega
      have e1 : la.take i = la := by rw [(unhide HL).1]; exact List.take_length
      have hQ := unhide HR
      rw [e1] at hQ
      obtain ⟨V0, hV0⟩ : ∃ V0, V0 = wr := ⟨_, rfl⟩
      subst hV0
      have HX := hide hQ
      clear hQ HR e1
      go_wp2_with fail
      go_loopw [10, 8] (fun iv yv wz => ∃ j : Nat, j ≤ LB ∧ iv = .int .i64 (j : Int) ∧ Hid (QRow V0 wz yv ((lb.take j).filter (outB l)))) (fun iv _ _ => (LB - intOf iv).toNat)
      case atStart => exact ⟨0, by omega, rfl, QRow.nil V0⟩
      case round =>
        obtain ⟨j, hj, rfl, HS⟩ := hrel
        by_cases hlt2 : j < LB
        · obtain ⟨p, hp⟩ : ∃ p, lb[j]? = some p := ⟨_, List.getElem?_eq_getElem (by have := (unhide HL).2.1; omega)⟩
          obtain ⟨b1, o1, h1, c1⟩ := (unhide HB).get hp
          subst h1
          have bw2 := bw_tr (unhide HX).bel (unhide HS).bel
          obtain ⟨p0, p1, p2⟩ := c1 _ bw2
          have hii : (j : Int) < (LB : Int) := by omega
          have K1 := hide (unhide KN p.n _ bw2)
          have hpl : ((lb.take j).filter (outB l)).length ≤ 1000000 := Nat.le_trans (List.length_filter_le _ _) (by rw [List.length_take]; omega)
          cases hz : namedB l p.n
          · rw [hz] at K1
            have HZ : Hid (∀ v' w', QRow V0 w' v' ((lb.take j).filter (outB l) ++ [p]) → QRow V0 w' v' ((lb.take (j + 1)).filter (outB l))) := fun v' w' hq => by
              rw [filter_snoc hp, if_pos (by unfold outB; rw [hz]; rfl)]; exact hq
            obtain ⟨pn, pt, pg⟩ := p
            simp only at p0 p1 p2 K1
            clear c1 hp hz bw2
            go_wp2_with (first | (go_at_call 50; refine (unhide K1).mono ?_; rintro e w1 ⟨rfl, rfl⟩) | (at_builtin; refine wpList_pushP (p := ⟨pn, pt, pg⟩) rfl (.tmp 46) (.tmp 51) rfl rfl rfl (unhide HS) hpl ?nx))
            case nx =>
              intro v' w5 E5 F5
              have HE5 := hide (unhide HZ v' w5 E5)
              clear E5 F5 HZ HS K1 p0 p1 p2
              go_wp2_with fail
              go_roundw
              case rel => exact ⟨j + 1, by omega, by go_num, HE5⟩
              case measure => simp only [intOf]; omega
          · rw [hz] at K1
            have HN : Hid (QRow V0 wr u8 ((lb.take (j + 1)).filter (outB l))) := by
              unfold Hid
              rw [filter_snoc hp, if_neg (by unfold outB; rw [hz]; simp), List.append_nil]; exact unhide HS
            clear c1 hp hz HS bw2
            go_wp2_with (first | (go_at_call 50; refine (unhide K1).mono ?_; rintro e w1 ⟨rfl, rfl⟩))
            go_roundw
            case rel => exact ⟨j + 1, by omega, by go_num, HN⟩
            case measure => simp only [intOf]; omega
        · obtain rfl : j = LB := by omega
          have e1 : lb.take j = lb := by rw [(unhide HL).2.1]; exact List.take_length
          have hQ2 := unhide HS
          rw [e1] at hQ2
          have hX2 := (unhide HX).bw hQ2.bel
          have hk1 : (la.filter (outB l)).length ≤ 256 := Nat.le_trans (List.length_filter_le _ _) (by have := (unhide HL).1; omega)
          have hk2 : (lb.filter (outB l)).length ≤ 256 := Nat.le_trans (List.length_filter_le _ _) (by have := (unhide HL).2.1; omega)
          obtain ⟨ax, cx, hvx, hAx⟩ := hX2.fit (by omega) (fun x hx => (List.mem_filter.1 hx).1) (unhide HA).fit
          obtain ⟨ay, cy, hvy, hAy⟩ := hQ2.fit (by omega) (fun x hx => (List.mem_filter.1 hx).1) (unhide HB).fit
          subst hvx hvy
          have KS := hide (same7_any (ca := cx) (cb := cy) hAx hAy)
          have HF := hide hX2.bel
          clear e1 hQ2 hX2 hAx hAy HS
          go_wp2_with fail
          refine (unhide KS).mono ?_
          rintro e W9 ⟨z, rfl, hz, b9⟩
          have HZ := hide (And.intro hz (bw_tr (unhide HF) b9))
          clear hz b9
          go_wp2_with fail
          go_ret
          exact ⟨z, rfl, (unhide HZ).1, (unhide HZ).2⟩
end Go.Proofs.YtfnpeiikjiffeaaGreat
