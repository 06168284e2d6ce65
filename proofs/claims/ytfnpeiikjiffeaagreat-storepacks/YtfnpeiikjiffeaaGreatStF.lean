/- A pair comes behind a row of pairs; the contract of put. -/
import Derived.Test.YtfnpeiikjiffeaaGreatStE
import Derived.Test.YtfnpeiikjiffeaaGreatStC
import Derived.Test.YtfnpeiikjiffeaaGreatBaK
namespace Go.Proofs.YtfnpeiikjiffeaaGreat
open Go.RowKit Go.Maps

/-- A row of pairs of one's own. -/
structure QRow (w wr : World) (v : Value) (l : List PP) : Prop where
  bel : Below w.heap.size w wr
  row : PRow wr v l
  new : ∀ k, v.ownBlock = some k → w.heap.size ≤ k
theorem cells3_new (w : World) (x y z : Value) (t : TypeId) : ∀ j u, [x, y, z][j]? = some u → (w.alloc (.cells #[x, y, z] t)).cell? ((⟨w.heap.size, 0, none⟩ : Addr).add j) = some u := by
  intro j u hj
  match j, hj with
  | 0, hj => simp at hj; subst hj; simp [go_sem, Addr.add]
  | 1, hj => simp at hj; subst hj; simp [go_sem, Addr.add]
  | 2, hj => simp at hj; subst hj; simp [go_sem, Addr.add]
  | j + 3, hj => simp at hj
theorem wpList_pushP {w W : World} {v : Value} {l : List PP} {p : PP} {ops : Array Oper} {rest : List Oper} {o : Oper} {a : Act} {Q : Exit → Act → World → Prop} (hgd : o.guard = none) (s x : Operand)
    (ho : o.op = .call { callee := .builtin .append, args := #[s, x], argTypes := #[22, 22] }) (hs : a.eval s = v) (hx : a.eval x = .slice (some ⟨W.heap.size, 0, none⟩) 1 1) (h : QRow w W v l) (hl : l.length ≤ 1000000)
    (hk : ∀ v' w', QRow w w' v' (l ++ [p]) → Fr v.ownBlock.toList W w' → wpList Tryz.prog ops Q rest (a.put o.dst v') w') : wpList Tryz.prog ops Q (o :: rest) a (W.alloc (.cells #[.string p.n, .string p.t, .bool p.g] 48)) := by
  obtain ⟨i0, hi, hz0, hz1, hz2⟩ := info_pair
  obtain ⟨hb, hr, hn⟩ := h
  refine wpList_append_own_at _ hgd s x 22 ho 0 48 i0 (pairV zpp) 3 40 Tryz.underlying22 hi hz0 hz1 hz2 rfl (by decide) v l.length (l.flatMap prC) hs (own_alloc hr _) ⟨W.heap.size, 0, none⟩ 1 1 (prC p) hx rfl (cells3_new _ _ _ _ _) (by simp [prC, Value.oneCell']) (by unfold maxLen; omega) (by omega) (Nat.zero_le _) ?_
  intro v' w' h1 h2 _ h4
  have hF : Fr v.ownBlock.toList W w' := ((Fr.refl _ W).alloc _).tr (Fr.ofGrown h2)
  refine hk v' w' ⟨Fr.toBase hb hF (fun k hk => hn k (by simpa using hk)), ?_, fun k hk => ?_⟩ hF
  · unfold PRow
    simpa using h1
  · rcases h4 with c | c
    · exact hn k (c.symm.trans hk)
    · rw [c] at hk; simp at hk; have := hb.size; omega
theorem at_of {m : MM} {k t : ByteArray} (h : m k = some t) : m.at k = ⟨k, t, false⟩ := by unfold MM.at; rw [h]
theorem pairsOf_snoc (m : MM) (ns : List ByteArray) (k : ByteArray) : pairsOf m (ns ++ [k]) = pairsOf m ns ++ [⟨k, (m k).getD ByteArray.empty, false⟩] := by simp [pairsOf]
theorem Nm.at {m : MM} {ns : List ByteArray} (h : Nm m ns) {k : ByteArray} (hk : k ∈ ns) : m.at k = ⟨k, (m k).getD ByteArray.empty, false⟩ := by
  have := (h.mem k).1 hk
  cases e : m k with
  | none => rw [e] at this; cases this
  | some t => rw [at_of e]; simp
theorem pairsOf_fit {m : MM} {ns : List ByteArray} (h : Nm m ns) (hf : Fits m) : ∀ p ∈ pairsOf m ns, p.n.size ≤ 65536 ∧ p.t.size ≤ 65536 ∧ p.g = false := (packE_ok (pairsOf_ok h hf)).1
theorem packT_size {m : MM} {ns : List ByteArray} (h : Nm m ns) (hf : Fits m) (hn : ns.length ≤ 256) : (packT m ns).size ≤ 100000000 := by
  have h1 := body_len (pairsOf m ns) (fun p hp => ⟨(pairsOf_fit h hf p hp).1, (pairsOf_fit h hf p hp).2.1⟩)
  have h2 : (pairsOf m ns).length = ns.length := by simp [pairsOf]
  have h3 := Wi.enc_length ((pairsOf m ns).length : Int)
  unfold packT
  rw [← size_list, data_str, packB, List.length_append]
  rw [h2] at h1
  have h4 := Nat.mul_le_mul_right 131100 hn
  omega
/-- The pairs of a map, in order: put's loop. -/
def PI (w wr : World) (v lv : Value) (m : MM) (ns : List ByteArray) (nb i : Nat) : Prop := QRow w wr lv (pairsOf m (ns.take i)) ∧ SRow wr v ns ∧ PMap wr nb m 256
set_option maxRecDepth 100000 in
set_option maxHeartbeats 8000000 in
theorem sput_go {w W : World} {d : Nat} {S : DS} {rs : List Res} {jb n : Nat} {t : ByteArray} (E : ED w W d S (jr jb d n t false :: rs)) (hu : S.up = true) (h4 : 4 ≤ S.N) {sb mb : Nat} (hs : W.heap[sb]? = some (sc jb mb false)) {nb : Nat} {m : MM} {ns : List ByteArray} (PM : PMap W nb m 256) (hN : Nm m ns) (hf : Fits m) (hl : ns.length ≤ 256)
    {R : Int → World → Prop} (hfull : room6 S < (packT m ns).size → ∀ W', ED w W' d S (jr jb d n t false :: rs) → Below W.heap.size W W' → R 5 W')
    (hput : (packT m ns).size ≤ room6 S → ∀ W', ED w W' d S (jr jb d n t false :: rs) → Below W.heap.size W W' → Calls Tryz.prog 70 #[.pointer (some ⟨jb, 0, none⟩), .string (packT m ns)] W' fun e W'' => ∃ x, e = .returned (.int .i64 x) ∧ R x W'') :
    Calls Tryz.prog 44 #[.pointer (some ⟨sb, 0, none⟩), .map (some nb)] W fun e W'' => ∃ x, e = .returned (.int .i64 x) ∧ R x W'' := by
  obtain ⟨c0, c1, c2, -⟩ := sc_cells hs
  have KG := hide (get_any E)
  rw [if_neg (by simp [hu]), if_neg (by simp [hu])] at KG
  have KI := hide (inOrder_any PM (by omega))
  have HE := hide (And.intro E (And.intro hu h4))
  have HS := hide (And.intro hs (And.intro PM (And.intro hN (And.intro hf hl))))
  have HQ := hide (And.intro hfull hput)
  clear E hs PM hN hf hl hfull hput hu h4
  go_enter Tryz.func44, Tryz.ntmps44
  go_wp2_with fail
  refine (unhide KG).mono ?_
  rintro e W0 ⟨rfl, rfl⟩
  clear KG c1 c2
  go_wp2_with fail
  refine (unhide KI).mono ?_
  rintro e W1 ⟨v, ns', rfl, hN', hR, hnew, b1⟩
  obtain rfl : ns = ns' := (unhide HS).2.2.1.uniq hN'
  obtain ⟨av, cv, hv⟩ := own_slice hR
  subst hv
  have HI : Hid (PI W0 W1 (.slice av ns.length cv) (.slice none 0 0) m ns nb 0) := ⟨⟨b1, prow_nil _, fun k hk => by cases hk⟩, hR, (unhide HS).2.1.bw b1⟩
  obtain ⟨N, hNN⟩ : ∃ N, N = ns.length := ⟨_, rfl⟩
  rw [← hNN] at HI ⊢
  have HN := hide hNN
  have hNi : (N : Int) ≤ 256 := by have := (unhide HS).2.2.2.2; omega
  clear KI hN' hR hnew b1 hNN c0
  go_wp2_with fail
  go_loopw [30, 7] (fun iv lv wr => ∃ i : Nat, i ≤ N ∧ iv = .int .i64 (i : Int) ∧ Hid (PI W0 wr (.slice av N cv) lv m ns nb i)) (fun iv _ _ => (N - intOf iv).toNat)
  case atStart => exact ⟨0, by omega, rfl, HI⟩
  case round =>
    clear HI
    obtain ⟨i, hi, rfl, HR⟩ := hrel
    by_cases hlt : i < N
    · obtain ⟨k, hk⟩ : ∃ k, ns[i]? = some k := ⟨_, List.getElem?_eq_getElem (by have := unhide HN; omega)⟩
      have hkm : k ∈ ns := List.mem_of_getElem? hk
      obtain ⟨hQ, hR, hP⟩ := unhide HR
      have hkf : k.size ≤ 65536 := by
        have hm := ((unhide HS).2.2.1.mem k).1 hkm
        cases e : m k with
        | none => rw [e] at hm; cases hm
        | some t => exact ((unhide HS).2.2.2.1 k t e).1
      have lk := hP.look (k := k) (by omega)
      rw [(unhide HS).2.2.1.at hkm] at lk
      unfold pairV at lk
      obtain ⟨g, cap, hv, ck, _, _⟩ := hR.cell hk
      rw [← unhide HN] at hv
      cases hv
      have hii : (i : Int) < (N : Int) := by omega
      have hpl : (pairsOf m (ns.take i)).length ≤ 1000000 := by simp [pairsOf]; omega
      have HZ : Hid (∀ v' w', QRow W0 w' v' (pairsOf m (ns.take i) ++ [⟨k, (m k).getD ByteArray.empty, false⟩]) → Fr u7.ownBlock.toList wr w' → PI W0 w' (.slice (some ⟨g, 0, none⟩) N cv) v' m ns nb (i + 1)) := fun v' w' h1 h2 => by
        have e1 : ns.take (i + 1) = ns.take i ++ [k] := by rw [List.take_add_one, hk]; rfl
        refine ⟨by rw [e1, pairsOf_snoc]; exact h1, ?_, ?_⟩
        · refine own_keep hR (fun x hx => h2.block x (World.ownsRow.lt hR x hx).2 ?_)
          intro c
          have c : u7.ownBlock = some x := by simpa using c
          exact own_apart hQ.row hR (by decide) c hx
        · refine hP.keep (h2.block nb hP.lt ?_)
          intro c
          have c : u7.ownBlock = some nb := by simpa using c
          obtain ⟨cur, hc⟩ := own_kind hQ.row c
          obtain ⟨es, clock, hb⟩ := hP.block
          rw [hb] at hc; cases hc
      have HQ7 := hide hQ
      obtain ⟨tt, htt⟩ : ∃ tt, tt = (m k).getD ByteArray.empty := ⟨_, rfl⟩
      rw [← htt] at lk HZ
      clear hQ hR hP HR hk hkm hkf htt
      go_wp2_with (at_builtin; refine wpList_pushP (p := ⟨k, tt, false⟩) rfl (.tmp 34) (.tmp 38) rfl rfl rfl (unhide HQ7) hpl ?nx)
      case nx =>
        intro v' w5 E5 F5
        have HE5 := hide (unhide HZ v' w5 E5 F5)
        clear E5 F5 HZ HQ7 lk ck
        go_wp2_with fail
        go_roundw
        case rel => exact ⟨i + 1, by omega, by go_num, HE5⟩
        case measure => simp only [intOf]; omega
    · obtain rfl : i = N := by omega
      obtain ⟨hQ, hR, hP⟩ := unhide HR
      have e1 : ns.take i = ns := by rw [unhide HN]; exact List.take_length
      rw [e1] at hQ
      have hfit := pairsOf_fit (unhide HS).2.2.1 (unhide HS).2.2.2.1
      obtain ⟨al, cl, hv, hA⟩ := hQ.row.read (by simp [pairsOf]; have := (unhide HS).2.2.2.2; omega) (fun x hx => by have := hfit x hx; omega)
      subst hv
      have KP := hide (pack_any (cap := cl) hA)
      rw [packT_x (unhide HS).2.2.1 (unhide HS).2.2.2.1 (unhide HS).2.2.2.2, packS_of (unhide HS).2.2.1 (unhide HS).2.2.2.1 (unhide HS).2.2.2.2] at KP
      have HB := hide hQ.bel
      have hsz := packT_size (unhide HS).2.2.1 (unhide HS).2.2.2.1 (unhide HS).2.2.2.2
      clear hQ hR hP HR e1 hfit hA
      go_wp2_with fail
      refine (unhide KP).mono ?_
      rintro e W2 ⟨rfl, b2⟩
      have bel := bw_tr (unhide HB) b2
      have E2 := (unhide HE).1.new bel
      have s2 : W2.heap[sb]? = some (sc jb mb false) := (bel.block _ (lt_of_blk (unhide HS).1)).trans (unhide HS).1
      obtain ⟨c0, -, -, -⟩ := sc_cells s2
      have KM := hide (jRoom_any E2 (by have := (unhide HE).2.2; omega))
      rw [show (S.N - 2) / 2 * 64 = room6 S from rfl] at KM
      have hrm : (room6 S : Int) ≤ 1000000 := by have := E2.ok.n2; unfold room6; omega
      have HF2 := hide (And.intro E2 bel)
      obtain ⟨T, hT⟩ : ∃ T, T = packT m ns := ⟨_, rfl⟩
      rw [← hT] at HQ hsz ⊢
      obtain ⟨rm, hrme⟩ : ∃ rm, rm = room6 S := ⟨_, rfl⟩
      rw [← hrme] at HQ KM hrm
      clear hT hrme bel E2 b2 s2 KP HB
      by_cases hbig : rm < T.size
      · have hbi : (rm : Int) < (T.size : Int) := by omega
        have hQ := (unhide HQ).1 hbig W2 (unhide HF2).1 (unhide HF2).2
        have HQ2 := hide hQ
        clear hQ HQ hbig
        go_wp2_with (first | (go_at_call 69; refine (unhide KM).mono ?_; rintro e w1 ⟨rfl, rfl⟩))
        go_ret
        exact ⟨5, rfl, unhide HQ2⟩
      · have hbi : ¬ (rm : Int) < (T.size : Int) := by omega
        have KPu := hide ((unhide HQ).2 (by omega) W2 (unhide HF2).1 (unhide HF2).2)
        clear HQ hbig
        go_wp2_with (first | (go_at_call 69; refine (unhide KM).mono ?_; rintro e w1 ⟨rfl, rfl⟩))
        refine (unhide KPu).mono ?_
        rintro e W3 ⟨x, rfl, hq⟩
        go_wp2_with fail
        go_ret
        exact ⟨x, rfl, hq⟩
end Go.Proofs.YtfnpeiikjiffeaaGreat
