/- Texts joined: NTmC NTmD NTmE NTmF NTmG. -/
import Derived.Test.YtokdflbajnecpaaNTmB
/- Contracts of untold and Dag of package term. -/
namespace Go.Proofs.Ytokdflbajnecpaa.Tn
open Go.RowKit Go.Maps
theorem ret_i {k : IntKind} {a b : Int} (h : a = b) : Ending.returned (.int k a) = .returned (.int k b) := by rw [h]
end Go.Proofs.Ytokdflbajnecpaa.Tn

/- What Dag of package term keeps in memory while it works. No walk is in this text. -/
namespace Go.Proofs.Ytokdflbajnecpaa.Tn
open Go.RowKit Go.Maps
def NRow (B : Nat) (w : World) (v : Value) (l : List Nat) : Prop := w.ownsRow B 3 1 v l.length (l.map fun m => .int .i64 ((m : Nat) : Int))
theorem NRow.keep {B : Nat} {w w' : World} {v : Value} {l : List Nat} (h : NRow B w v l) (hb : ∀ k, v.ownBlock = some k → w'.heap[k]? = w.heap[k]?) : NRow B w' v l := by
  refine ⟨h.1, ?_⟩
  rcases h.2 with h2 | ⟨g, cap, cur, hv, h0, hg, r⟩
  · exact Or.inl h2
  · exact Or.inr ⟨g, cap, cur, hv, h0, by rw [hb g (by rw [hv]; rfl)]; exact hg, r⟩
theorem NRow.lt {B : Nat} {w : World} {v : Value} {l : List Nat} (h : NRow B w v l) : ∀ k, v.ownBlock = some k → B ≤ k ∧ k < w.heap.size := World.ownsRow.lt h
theorem NRow.block {B : Nat} {w : World} {v : Value} {l : List Nat} {k : Nat} (h : NRow B w v l) (hk : v.ownBlock = some k) : ∃ cur, w.heap[k]? = some (.cells cur 3 (0, 0)) := by
  rcases h.2 with ⟨rfl, _⟩ | ⟨g, cap, cur, rfl, _, hg, _⟩
  · cases hk
  · simp [Value.ownBlock] at hk; subst hk; exact ⟨cur, hg⟩
theorem NRow.form {B : Nat} {w : World} {v : Value} {l : List Nat} (h : NRow B w v l) : (v = .slice none 0 0 ∧ l = []) ∨ ∃ g cap, v = .slice (some ⟨g, 0, none⟩) l.length cap ∧ B ≤ g ∧ g < w.heap.size ∧ l.length ≤ cap ∧ cap ≤ maxLen := by
  rcases h.2 with ⟨h1, h2⟩ | ⟨g, cap, cur, hv, hB, hg, h1, h2, _⟩
  · exact Or.inl ⟨h1, List.length_eq_zero_iff.1 h2⟩
  · exact Or.inr ⟨g, cap, hv, hB, lt_of_blk hg, h1, h2⟩
theorem NRow.at {B : Nat} {w : World} {v : Value} {l : List Nat} (h : NRow B w v l) {g : Nat} (hg : v.ownBlock = some g) {i m : Nat} (hi : l[i]? = some m) : w.cell? ⟨g, i, none⟩ = some (.int .i64 (m : Int)) := by
  have := World.ownsRow.cells h hg i (.int .i64 (m : Int)) (by simp [hi])
  cases i <;> simpa [Addr.add] using this
theorem NRow.pop {B : Nat} {w : World} {g cap : Nat} {l : List Nat} {m : Nat} (h : NRow B w (.slice (some ⟨g, 0, none⟩) (l.length + 1) cap) (l ++ [m])) : NRow B w (.slice (some ⟨g, 0, none⟩) l.length cap) l := by
  refine ⟨by simp, ?_⟩
  rcases h.2 with ⟨h1, _⟩ | ⟨g', cap', cur, hv, hB, hg, h1, h2, h3, h4⟩
  · cases h1
  · simp only [Value.slice.injEq, Option.some.injEq, Addr.mk.injEq, and_true] at hv
    obtain ⟨rfl, _, rfl⟩ := hv
    refine Or.inr ⟨g, cap, cur, rfl, hB, hg, by simp at h1; omega, h2, h3, ?_⟩
    have e := congrArg (List.take l.length) h4
    rw [List.take_take] at e
    simp only [List.length_append, List.length_cons, List.length_nil, Nat.mul_one, List.map_append] at e
    rw [show min l.length (l.length + (0 + 1)) = l.length by omega] at e
    rw [Nat.mul_one, e]
    simp
theorem term_ne_int : (55 : TypeId) ≠ 3 := by decide
theorem rows_apart {B B' : Nat} {w : World} {u v : Value} {l : List Tm} {k : List Nat} {x : Nat} (h : TmRow B w u l) (h' : NRow B' w v k) (hx : u.ownBlock = some x) : v.ownBlock ≠ some x := by
  intro c
  obtain ⟨_, h1⟩ := h.block hx
  obtain ⟨_, h2⟩ := h'.block c
  rw [h1] at h2
  simp only [Option.some.injEq, Obj.cells.injEq] at h2
  exact term_ne_int h2.2.1
theorem PMap.block {w : World} {b : Nat} {o : List Nat} (h : PMap w b o) : ∃ es clock, w.heap[b]? = some (.map es clock) := by
  obtain ⟨D, ⟨es, clock, hb, _⟩, _⟩ := h; exact ⟨es, clock, hb⟩
structure Dg (w wr : World) (L : List Tm) (M : Nat) (lv bv : Value) (stk o : List Nat) : Prop where
  beg : Begun L stk o
  told : Told L o
  rl : TmRow w.heap.size wr lv (outs L o)
  rb : NRow w.heap.size wr bv stk
  pm : PMap wr M o
  hM : w.heap.size ≤ M
  bel : Below w.heap.size w wr
theorem Dg.apart {w wr : World} {L : List Tm} {M : Nat} {lv bv : Value} {stk o : List Nat} (h : Dg w wr L M lv bv stk o) : lv.ownBlock ≠ some M ∧ bv.ownBlock ≠ some M ∧ ∀ x, lv.ownBlock = some x → bv.ownBlock ≠ some x := by
  obtain ⟨es, clock, hm⟩ := h.pm.block
  refine ⟨fun c => ?_, fun c => ?_, fun x hx => rows_apart h.rl h.rb hx⟩
  · obtain ⟨_, h1⟩ := h.rl.block c; rw [hm] at h1; simp at h1
  · obtain ⟨_, h1⟩ := h.rb.block c; rw [hm] at h1; simp at h1
theorem Dg.new {w wr w' : World} {L : List Tm} {M : Nat} {lv bv : Value} {stk o : List Nat} (h : Dg w wr L M lv bv stk o) (hb : Below wr.heap.size wr w') : Dg w w' L M lv bv stk o :=
  ⟨h.beg, h.told, h.rl.bw hb, h.rb.keep (fun k hk => hb.block k (h.rb.lt k hk).2), h.pm.bw hb, h.hM, bw_tr h.bel hb⟩
end Go.Proofs.Ytokdflbajnecpaa.Tn

/- The contract of Dag of package term. -/
namespace Go.Proofs.Ytokdflbajnecpaa.Tn
open Go.RowKit Go.Maps
def lenOf : Value → Nat
  | .slice _ n _ => n
  | _ => 0
theorem Dg.start {w : World} {L : List Tm} {n : Nat} (h1 : 1 ≤ n) (h2 : n ≤ L.length) : Dg w ((w.alloc (.map #[] 0)).alloc (.cells #[.int .i64 (n : Int)] 3)) L w.heap.size (.slice none 0 0) (.slice (some ⟨w.heap.size + 1, 0, none⟩) 1 1) [n] [] := by
  have e : (w.alloc (.map #[] 0)).heap.size = w.heap.size + 1 := by simp
  refine ⟨⟨by simp; omega, by simp⟩, told_nil L, TmRow.nil _ _, ?_, ?_, Nat.le_refl _, ?_⟩
  · refine ⟨rfl, Or.inr ⟨w.heap.size + 1, 1, #[.int .i64 (n : Int)], rfl, by omega, ?_, Nat.le_refl _, by unfold maxLen; omega, rfl, rfl⟩⟩
    rw [← e]; exact heap_alloc_new _ _
  · exact (PMap.made w).bw ((Below.refl _ _).alloc (Nat.le_refl _) _)
  · exact ((Below.refl _ _).alloc (Nat.le_refl _) _).alloc (by simp) _
theorem slice_upto (w : World) (g n cap i : Nat) (hi : i ≤ n) (hc : n ≤ cap) : (Instr.slice 24 (.slice (some ⟨g, 0, none⟩) n cap) none (some (.int .i64 (i : Int))) none).run Try.prog w = .ok (.slice (some ⟨g, 0, none⟩) i cap) w := by
  have ht : Try.prog.underlying 24 = some (.slice (Try.prog.elem 24)) := by kernel_rfl
  have he : Try.prog.elem 24 = 3 := by kernel_rfl
  have hs : (Go.sizeOf 3).run Try.prog w = .ok 1 w := by kernel_rfl
  rw [run_slice_h (P := Try.prog) w 24 (some ⟨g, 0, none⟩) n cap ht .i64 i (by omega) (by omega), he, hs]
  simp [Result.andThen, sliced, Addr.add]
theorem own_form {B : Nat} {w : World} {e : TypeId} {c : Nat} {v : Value} {n : Nat} {xs : List Value} (h : w.ownsRow B e c v (n + 1) xs) : ∃ g cap, v = .slice (some ⟨g, 0, none⟩) (n + 1) cap := by
  rcases h.2 with ⟨_, h⟩ | ⟨g, cap, _, h, _⟩
  · omega
  · exact ⟨g, cap, h⟩
end Go.Proofs.Ytokdflbajnecpaa.Tn

/- Contracts of New, List and Data of package term. -/
namespace Go.Proofs.Ytokdflbajnecpaa.Tn
open Go.RowKit Go.Maps
set_option maxRecDepth 100000 in
set_option maxHeartbeats 400000 in
theorem new_any (w : World) :
    Calls Try.prog 25 #[] w fun e w' => ∃ b mb, e = .returned (.pointer (some ⟨b, 0, none⟩)) ∧ St w' b (.slice none 0 0) mb [] ∧ (∀ x ∈ foot b (.slice none 0 0) mb, w.heap.size ≤ x) ∧ Below w.heap.size w w' := by
  have hmm := @run_makeMap Try.prog
  go_enter Try.func25, Try.ntmps25
  go_wp2
  go_ret
  refine ⟨w.heap.size + 1, w.heap.size, rfl, ⟨?_, TmRow.nil _ _, ?_, good_nil, by simp⟩, ?_, ?_⟩
  · have e : (w.alloc (.map #[] 0)).heap.size = w.heap.size + 1 := by simp
    rw [← e]; exact heap_alloc_new _ _
  · exact (TMap.made w).keep (Below.heap_alloc _ _ _ (by simp))
  · intro x hx
    rcases mem_foot.1 hx with rfl | rfl | hx
    · omega
    · omega
    · cases hx
  · exact ((Below.refl _ _).alloc (Nat.le_refl _) _).alloc (by simp) _
def NIs (w : World) (v : Value) (l : List Int) : Prop :=
  ∃ a cap, v = .slice a l.length cap ∧ l.length ≤ 140737488355328 ∧ (∀ z ∈ l, -9223372036854775808 ≤ z ∧ z ≤ 9223372036854775807) ∧ (l = [] ∨ ∃ g o, a = some ⟨g, o, none⟩ ∧ ∀ i z, l[i]? = some z → w.cell? ⟨g, o + i, none⟩ = some (.int .i64 z))
theorem NIs.fr {S : List Nat} {w w' : World} {v : Value} {l : List Int} (h : NIs w v l) (hb : Fr S w w') (hS : ∀ k, v.ownBlock = some k → k ∉ S) : NIs w' v l := by
  obtain ⟨a, cap, rfl, hl, hz, hc⟩ := h
  refine ⟨a, cap, rfl, hl, hz, ?_⟩
  rcases hc with hc | ⟨g, o, rfl, hc⟩
  · exact Or.inl hc
  · refine Or.inr ⟨g, o, rfl, fun i z ht => ?_⟩
    have := hc i z ht
    rw [World.cell?_of_block (w := w) (hb.block g (lt_of_cell this) (hS g rfl))]
    exact this
theorem NIs.bw {w w' : World} {v : Value} {l : List Int} (h : NIs w v l) (hb : Below w.heap.size w w') : NIs w' v l := h.fr (Fr.ofBelow hb) (by simp)
def lsF : List Tm → List Int → Int → List Tm × Int × Int
  | L, [], n => (L, n, 0)
  | L, a :: r, n => if mkE L ⟨3, 0, a, n⟩ = 0 then lsF (mkL L ⟨3, 0, a, n⟩) r (mkN L ⟨3, 0, a, n⟩ : Nat) else (mkL L ⟨3, 0, a, n⟩, 0, mkE L ⟨3, 0, a, n⟩)
def ls (L : List Tm) (l : List Int) : List Tm × Int × Int :=
  if l.all (thr L.length) = true then (match l.reverse with | [] => (L, 0, 0) | n :: r => lsF L r n) else (L, 0, 1)
theorem mkN_bd {L : List Tm} (h : Good L) (t : Tm) : (mkN L t : Int) ≤ 1048576 := by
  have := h.len
  unfold mkN
  split
  · split
    · have := num_le L t; omega
    · split <;> omega
  · omega
theorem ls_end {p : List Tm × Int × Int} {L' : List Tm} {n e : Int} (h : p = (L', n, e)) : Ending.returned (.tuple #[.int .i64 n, .int .i64 e]) = .returned (.tuple #[.int .i64 p.2.1, .int .i64 p.2.2]) := by subst h; rfl
theorem ls_step {p : List Tm × Int × Int} {L' : List Tm} {n e : Int} {w w' : World} {b : Nat} {sv sv' : Value} {mb : Nat} (h : p = (L', n, e)) (k : SStep w w' b sv sv' mb L') : SStep w w' b sv sv' mb p.1 := by subst h; exact k
set_option maxRecDepth 100000 in
set_option maxHeartbeats 4000000 in
theorem list_any (b : Nat) (sv : Value) (mb : Nat) (L : List Tm) (v : Value) (l : List Int) (w : World) (h : St w b sv mb L) (hv : NIs w v l) (hsep : ∀ k, v.ownBlock = some k → k ∉ foot b sv mb) :
    Calls Try.prog 63 #[.pointer (some ⟨b, 0, none⟩), v] w fun e w' => e = .returned (.tuple #[.int .i64 (ls L l).2.1, .int .i64 (ls L l).2.2]) ∧ ∃ sv', SStep w w' b sv sv' mb (ls L l).1 := by
  have K := missing_any b sv mb L w h
  have KH := fun x => has_any b sv mb L x w h
  have hv' := hv
  obtain ⟨a, cap, rfl, hl, hz, hc⟩ := hv'
  obtain ⟨N, hN⟩ : ∃ N, N = l.length := ⟨_, rfl⟩
  rw [← hN]
  have hNb : (N : Int) ≤ 140737488355328 := by omega
  have HN := hide hN
  have HH := hide h
  have HV := hide hv
  have HKH := hide KH
  clear hN hl h hv KH
  go_enter Try.func63, Try.ntmps63
  go_wp2_with fail
  refine K.mono ?_
  rintro e w ⟨rfl, rfl⟩
  go_wp2_with fail
  go_loopw [15] (fun iv wr => ∃ k : Nat, k ≤ N ∧ iv = .int .i64 (k : Int) ∧ wr = w ∧ Hid ((l.take k).all (thr L.length) = true)) (fun iv _ => (N - intOf iv).toNat)
  case atStart => exact ⟨0, Nat.zero_le _, rfl, rfl, by simp [Hid]⟩
  case round =>
    obtain ⟨k, hk, rfl, hwr, HA⟩ := hrel
    obtain rfl : w = wr := hwr.symm
    by_cases hlt : k < N
    · obtain ⟨z, hzk⟩ : ∃ z, l[k]? = some z := ⟨_, List.getElem?_eq_getElem (by rw [← unhide HN]; exact hlt)⟩
      rcases hc with hc | ⟨g, o, rfl, hc⟩
      · rw [hc] at hzk; simp at hzk
      · have cz := hc k z hzk
        have KZ := unhide HKH z
        cases ht : thr L.length z
        · have e : ls L l = (L, 0, 1) := by
            unfold ls
            rw [if_neg]
            intro c
            have := List.all_eq_true.1 c z (List.mem_of_getElem? hzk)
            rw [ht] at this; cases this
          rw [ht] at KZ
          have HE := hide e
          clear hzk e ht hc hz
          go_wp2_with fail
          refine KZ.mono ?_
          rintro e w2 ⟨rfl, rfl⟩
          go_wp2_with fail
          go_ret2
          exact ⟨ls_end (unhide HE), _, ls_step (unhide HE) (SStep.refl (unhide HH))⟩
        · have HA' : Hid ((l.take (k + 1)).all (thr L.length) = true) := by
            unfold Hid
            rw [List.take_add_one, hzk]
            simp [ht]
            exact (by simpa using unhide HA)
          rw [ht] at KZ
          clear hzk ht hc hz HA
          go_wp2_with fail
          refine KZ.mono ?_
          rintro e w2 ⟨rfl, rfl⟩
          go_wp2_with fail
          go_roundw
          case rel => exact ⟨k + 1, by omega, by go_num, trivial, HA'⟩
          case measure => simp only [intOf]; omega
    · have hall : l.all (thr L.length) = true := by
        have := unhide HA
        rwa [List.take_of_length_le (by rw [← unhide HN]; omega)] at this
      rcases Nat.eq_zero_or_pos N with h0 | h0
      · have e : ls L l = (L, 0, 0) := by
          have : l = [] := List.length_eq_zero_iff.1 (by rw [← unhide HN]; exact h0)
          subst this; simp [ls]
        have HE := hide e
        subst h0
        clear e hall hc hz hlt HA
        go_wp2_with fail
        go_ret2
        exact ⟨ls_end (unhide HE), _, ls_step (unhide HE) (SStep.refl (unhide HH))⟩
      · obtain ⟨q, hq⟩ : ∃ q, N = q + 1 := ⟨N - 1, by omega⟩
        subst hq
        obtain ⟨n0, hn0⟩ : ∃ z, l[q]? = some z := ⟨_, List.getElem?_eq_getElem (by rw [← unhide HN]; omega)⟩
        have hstart : lsF L (l.take q).reverse n0 = ls L l := by
          have e : l = l.take q ++ [n0] := by
            have e1 : l.take (q + 1) = l := List.take_of_length_le (by rw [← unhide HN]; omega)
            rw [List.take_add_one, hn0] at e1
            exact e1.symm
          unfold ls
          rw [if_pos hall]
          conv => rhs; rw [e]
          rw [List.reverse_append]
          rfl
        rcases hc with hc | ⟨g, o, rfl, hc⟩
        · rw [hc] at hn0; simp at hn0
        have cn := hc q n0 hn0
        have hn0b := hz n0 (List.mem_of_getElem? hn0)
        have HC := hide (And.intro hc hz)
        have HS := hide hstart
        have HSep := hide hsep
        obtain ⟨k', rfl⟩ : ∃ k', k = k' := ⟨k, rfl⟩
        have hqb : (q : Int) ≤ 140737488355328 := by omega
        have hkq : (k : Int) = (q : Int) + 1 := by omega
        clear hall hc hz hn0 hstart HA hsep HKH hNb
        obtain rfl : k = q + 1 := by omega
        clear hk hlt h0 hkq
        go_wp2_with fail
        go_loopw [8, 9] (fun nv iv wq => ∃ (j : Nat) (L' : List Tm) (sv' : Value) (n : Int), j ≤ q ∧ iv = .int .i64 ((j : Int) - 1) ∧ nv = .int .i64 n ∧ (-9223372036854775808 ≤ n ∧ n ≤ 9223372036854775807) ∧ Hid (lsF L' (l.take j).reverse n = ls L l) ∧ SStep w wq b sv sv' mb L') (fun _ iv _ => (intOf iv + 1).toNat)
        case atStart => exact ⟨q, L, sv, n0, Nat.le_refl _, by go_num, rfl, hn0b, HS, SStep.refl (unhide HH)⟩
        case round =>
          obtain ⟨j, L', sv', n, hj, rfl, rfl, hnb, HF, hst⟩ := hrel
          rcases Nat.eq_zero_or_pos j with hj0 | hj0
          · subst hj0
            have e : ls L l = (L', n, 0) := by have := unhide HF; simpa [lsF] using this.symm
            have HE := hide e
            clear e HF
            go_wp2_with fail
            go_ret2
            exact ⟨ls_end (unhide HE), _, ls_step (unhide HE) hst⟩
          · obtain ⟨j', rfl⟩ : ∃ j', j = j' + 1 := ⟨j - 1, by omega⟩
            obtain ⟨z, hzj⟩ : ∃ z, l[j']? = some z := ⟨_, List.getElem?_eq_getElem (by rw [← unhide HN]; omega)⟩
            have hzb := (unhide HC).2 z (List.mem_of_getElem? hzj)
            have cz : wr.cell? ⟨g, o + j', none⟩ = some (.int .i64 z) := by
              have := (unhide HC).1 j' z hzj
              rw [World.cell?_of_block (w := w) (hst.fr.block g (lt_of_cell this) (unhide HSep g rfl))]
              exact this
            have htk : (l.take (j' + 1)).reverse = z :: (l.take j').reverse := by rw [List.take_add_one, hzj]; simp
            have hF := unhide HF
            rw [htk] at hF
            have hok : (⟨3, 0, z, n⟩ : Tm).ok := ⟨by simp, by simp, by simp, by simp, hzb.1, hzb.2, hnb.1, hnb.2⟩
            have KM := make_any b sv' mb L' ⟨3, 0, z, n⟩ _ hst.st hok
            have hG := hst.st.good
            have hNm := mkN_bd hG ⟨3, 0, z, n⟩
            have hjb : (j' : Int) ≤ 140737488355328 := by omega
            have hjq : (j' : Int) < (q : Int) + 1 := by omega
            simp only at KM
            clear htk HF hzj hG
            by_cases he : mkE L' ⟨3, 0, z, n⟩ = 0
            · have HF' : Hid (lsF (mkL L' ⟨3, 0, z, n⟩) (l.take j').reverse (mkN L' ⟨3, 0, z, n⟩ : Nat) = ls L l) := by
                unfold Hid; rw [← hF]; simp [lsF, he]
              rw [he] at KM
              clear he hF
              generalize mkN L' ⟨3, 0, z, n⟩ = n' at *
              generalize mkL L' ⟨3, 0, z, n⟩ = L2 at *
              go_wp2_with fail
              refine KM.mono ?_
              rintro e w4 ⟨rfl, sv2, hst2⟩
              have hst3 := hst.trans hst2
              clear hst2
              go_wp2_with fail
              go_roundw
              case rel => exact ⟨j', L2, sv2, n', by omega, by go_num, rfl, by omega, HF', hst3⟩
              case measure => simp only [intOf]; omega
            · have e : ls L l = (mkL L' ⟨3, 0, z, n⟩, 0, mkE L' ⟨3, 0, z, n⟩) := by rw [← hF]; simp [lsF, he]
              have HE := hide e
              have z1 : (mkE L' ⟨3, 0, z, n⟩ == 0) = false := by simpa using he
              clear e hF
              generalize mkN L' ⟨3, 0, z, n⟩ = n' at *
              generalize mkL L' ⟨3, 0, z, n⟩ = L2 at *
              generalize mkE L' ⟨3, 0, z, n⟩ = e2 at *
              go_wp2_with fail
              refine KM.mono ?_
              rintro e w4 ⟨rfl, sv2, hst2⟩
              have hst3 := hst.trans hst2
              clear hst2
              go_wp2_with fail
              go_ret2
              exact ⟨ls_end (unhide HE), _, ls_step (unhide HE) hst3⟩
end Go.Proofs.Ytokdflbajnecpaa.Tn

/- The contract of Data of package term. -/
namespace Go.Proofs.Ytokdflbajnecpaa.Tn
open Go.RowKit Go.Maps
def dtF : List Tm → List Int → List Nat → List Tm × Int × Int
  | L, [], acc => ls L (acc.map fun (m : Nat) => (m : Int))
  | L, n :: r, acc => if mkE L ⟨2, n, 0, 0⟩ = 0 then dtF (mkL L ⟨2, n, 0, 0⟩) r (acc ++ [mkN L ⟨2, n, 0, 0⟩]) else (mkL L ⟨2, n, 0, 0⟩, 0, mkE L ⟨2, n, 0, 0⟩)
def dt (L : List Tm) (l : List Int) : List Tm × Int × Int := dtF L l []
theorem NRow.nil (B : Nat) (w : World) : NRow B w (.slice none 0 0) [] := World.ownsRow_nil _ _ _ _
theorem NRow.foot {B : Nat} {w : World} {v : Value} {l : List Nat} {b : Nat} {sv : Value} {mb : Nat} {L : List Tm} (h : NRow B w v l) (hs : St w b sv mb L) : ∀ k, v.ownBlock = some k → k ∉ foot b sv mb := by
  intro k hk c
  obtain ⟨cur, hc⟩ := h.block hk
  rcases mem_foot.1 c with rfl | rfl | c
  · have := hs.blk; rw [hc] at this; simp at this
  · obtain ⟨es, clock, hm⟩ := hs.map.block; rw [hc] at hm; simp at hm
  · exact rows_apart hs.row h c hk
theorem NRow.nis {B : Nat} {w : World} {v : Value} {l : List Nat} (h : NRow B w v l) (hl : l.length ≤ 140737488355328) (hz : ∀ m ∈ l, m ≤ 1048576) : NIs w v (l.map fun (m : Nat) => (m : Int)) := by
  rcases h.form with ⟨rfl, rfl⟩ | ⟨g, cap, hv, _⟩
  · exact ⟨none, 0, rfl, by simp, by simp, Or.inl rfl⟩
  · refine ⟨_, cap, by rw [List.length_map]; exact hv, by simpa using hl, fun z hz' => ?_, Or.inr ⟨g, 0, rfl, fun i z hi => ?_⟩⟩
    · obtain ⟨m, hm, rfl⟩ := List.mem_map.1 hz'
      have := hz m hm; omega
    · rw [List.getElem?_map] at hi
      cases hm : l[i]? with
      | none => rw [hm] at hi; cases hi
      | some m =>
        rw [hm] at hi
        simp only [Option.map_some, Option.some.injEq] at hi
        subst hi
        rw [Nat.zero_add]
        exact h.at (by rw [hv]; rfl) hm
theorem SStep.beside {w w4 w5 : World} {b : Nat} {sv sv2 : Value} {mb : Nat} {L : List Tm} {nv : Value} {acc : List Nat} {ob : Obj} (h : SStep w w4 b sv sv2 mb L) (hn : NRow w.heap.size w4 nv acc) (hg : (w4.alloc ob).grownBy w5 nv.ownBlock) : SStep w w5 b sv sv2 mb L := by
  have f1 : Fr nv.ownBlock.toList w4 w5 := ((Fr.refl nv.ownBlock.toList w4).alloc ob).tr (Fr.ofGrown hg)
  have hd := hn.foot h.st
  refine ⟨h.st.keep f1 (fun x hx c => hd x (by simpa using c) hx), ?_, h.place⟩
  exact h.fr.trans f1 (fun _ _ c => c) (fun x hx c => by have := (hn.lt x (by simpa using c)).1; omega)
theorem NRow.grown {w w4 : World} {v' : Value} {acc : List Nat} {n : Nat} (h : w4.ownsRow w.heap.size 3 1 v' (acc.length + 1) (acc.map (fun m => .int .i64 ((m : Nat) : Int)) ++ [.int .i64 (n : Int)])) : NRow w.heap.size w4 v' (acc ++ [n]) := by
  unfold NRow; simpa using h
set_option maxRecDepth 100000 in
set_option maxHeartbeats 4000000 in
theorem data_any (b : Nat) (sv : Value) (mb : Nat) (L : List Tm) (v : Value) (l : List Int) (w : World) (h : St w b sv mb L) (hv : NIs w v l) (hsep : ∀ k, v.ownBlock = some k → k ∉ foot b sv mb) (hlen : l.length ≤ 1000) :
    Calls Try.prog 66 #[.pointer (some ⟨b, 0, none⟩), v] w fun e w' => e = .returned (.tuple #[.int .i64 (dt L l).2.1, .int .i64 (dt L l).2.2]) ∧ ∃ sv', SStep w w' b sv sv' mb (dt L l).1 := by
  have K := missing_any b sv mb L w h
  obtain ⟨a, cap, rfl, hl, hz, hc⟩ := hv
  obtain ⟨N, hN⟩ : ∃ N, N = l.length := ⟨_, rfl⟩
  rw [← hN]
  have hNb : N ≤ 1000 := by omega
  obtain ⟨j0, hj, hy0, hy1, hy2⟩ := info_parts Try.infoInt
  have HN := hide hN
  have HH := hide h
  have HC := hide (And.intro hc (And.intro hz hsep))
  clear hN hl h hc hz hsep hlen
  go_enter Try.func66, Try.ntmps66
  go_wp2_with fail
  refine K.mono ?_
  rintro e w ⟨rfl, rfl⟩
  clear K
  go_wp2_with fail
  go_loopw [6, 15] (fun nv iv wr => ∃ (k : Nat) (L' : List Tm) (sv' : Value) (acc : List Nat), k ≤ N ∧ iv = .int .i64 (k : Int) ∧ acc.length ≤ k ∧ Hid (dtF L' (l.drop k) acc = dt L l ∧ NRow w.heap.size wr nv acc ∧ SStep w wr b sv sv' mb L' ∧ ∀ m ∈ acc, m ≤ 1048576)) (fun _ iv _ => (N - intOf iv).toNat)
  case atStart => exact ⟨0, L, sv, [], Nat.zero_le _, rfl, by simp, ⟨by simp [dt], NRow.nil _ _, SStep.refl (unhide HH), by simp⟩⟩
  case round =>
    obtain ⟨k, L', sv', acc, hk, rfl, hak, HR⟩ := hrel
    by_cases hlt : k < N
    · obtain ⟨z, hzk⟩ : ∃ z, l[k]? = some z := ⟨_, List.getElem?_eq_getElem (by rw [← unhide HN]; exact hlt)⟩
      obtain ⟨hF, hn, hst, hm⟩ := unhide HR
      have hzb := (unhide HC).2.1 z (List.mem_of_getElem? hzk)
      obtain ⟨g, o, rfl, cz⟩ : ∃ g o, a = some ⟨g, o, none⟩ ∧ wr.cell? ⟨g, o + k, none⟩ = some (.int .i64 z) := by
        rcases (unhide HC).1 with hc | ⟨g, o, rfl, hc⟩
        · rw [hc] at hzk; simp at hzk
        · refine ⟨g, o, rfl, ?_⟩
          have := hc k z hzk
          rw [World.cell?_of_block (w := w) (hst.fr.block g (lt_of_cell this) ((unhide HC).2.2 g rfl))]
          exact this
      have hdr : l.drop k = z :: l.drop (k + 1) := by
        rw [List.drop_eq_getElem_cons (by rw [← unhide HN]; exact hlt)]
        congr 1
        have := List.getElem?_eq_getElem (l := l) (i := k) (by rw [← unhide HN]; exact hlt)
        rw [hzk] at this; exact (Option.some.inj this).symm
      rw [hdr] at hF
      have hok : (⟨2, z, 0, 0⟩ : Tm).ok := ⟨by simp, by simp, hzb.1, hzb.2, by simp, by simp, by simp, by simp⟩
      have KM := make_any b sv' mb L' ⟨2, z, 0, 0⟩ _ hst.st hok
      have hNm := mkN_bd hst.st.good ⟨2, z, 0, 0⟩
      simp only at KM
      have hF2 : ∀ w4 sv2, SStep wr w4 b sv' sv2 mb (mkL L' ⟨2, z, 0, 0⟩) → NRow w.heap.size w4 u6 acc ∧ SStep w w4 b sv sv2 mb (mkL L' ⟨2, z, 0, 0⟩) := fun w4 sv2 h2 =>
        ⟨hn.keep (fun x hx => h2.fr.block x (hn.lt x hx).2 (hn.foot hst.st x hx)), hst.trans h2⟩
      have hsz := hst.fr.size
      clear HR hdr hzk hn hst
      by_cases he : mkE L' ⟨2, z, 0, 0⟩ = 0
      · have HF' : Hid (dtF (mkL L' ⟨2, z, 0, 0⟩) (l.drop (k + 1)) (acc ++ [mkN L' ⟨2, z, 0, 0⟩]) = dt L l) := by
          unfold Hid; rw [← hF]; simp [dtF, he]
        rw [he] at KM
        have HNm := hide hNm
        have HF2 := hide hF2
        have HMM := hide hm
        clear he hF hNm hF2 hm
        generalize mkN L' ⟨2, z, 0, 0⟩ = n' at *
        generalize mkL L' ⟨2, z, 0, 0⟩ = L2 at *
        go_wp2_with fail
        refine KM.mono ?_
        rintro e w4 ⟨rfl, sv2, hst2⟩
        have h4 := hst2.fr.size
        obtain ⟨hn4, hst4⟩ := unhide HF2 w4 sv2 hst2
        clear KM hst2
        have hrow : w4.ownsRow w.heap.size 3 1 u6 acc.length (acc.map (fun m => .int .i64 ((m : Nat) : Int))) := hn4
        have HS4 := hide (And.intro hn4 hst4)
        clear hn4 hst4 HF2
        go_wp2_with (at_builtin; refine wpList_append_own_at _ rfl (.tmp 29) (.tmp 31) 24 rfl w.heap.size 3 j0 (.int .i64 0) 1 8 Try.underlying24 hj hy0 hy1 hy2 rfl (by decide) _ acc.length _ rfl (World.ownsRow.alloc hrow _) ⟨w4.heap.size, 0, none⟩ 1 1 [_] rfl rfl (cell_one_new _ _ _) ?c2 ?c3 ?c4 ?c5 ?nx)
        case c2 => intro u hu; simp at hu; subst hu; rfl
        case c3 => unfold maxLen; omega
        case c4 => omega
        case c5 => simp; omega
        case nx =>
          intro v' w5 hown' hgrow _ _
          have hn5 : NRow w.heap.size w5 v' (acc ++ [n']) := NRow.grown hown'
          have hst5 := (unhide HS4).2.beside (unhide HS4).1 hgrow
          have hm5 : ∀ m ∈ acc ++ [n'], m ≤ 1048576 := fun m hm => by
            rcases List.mem_append.1 hm with c | c
            · exact unhide HMM m c
            · simp at c; subst c; have := unhide HNm; omega
          have HR5 : Hid (dtF L2 (l.drop (k + 1)) (acc ++ [n']) = dt L l ∧ NRow w.heap.size w5 v' (acc ++ [n']) ∧ SStep w w5 b sv sv2 mb L2 ∧ ∀ m ∈ acc ++ [n'], m ≤ 1048576) := ⟨unhide HF', hn5, hst5, hm5⟩
          clear hown' hgrow hn5 hst5 hm5 HS4
          go_wp2_with fail
          go_roundw
          case rel => exact ⟨k + 1, L2, sv2, acc ++ [n'], by omega, by go_num, by simp; omega, HR5⟩
          case measure => simp only [intOf]; omega
      · have e : dt L l = (mkL L' ⟨2, z, 0, 0⟩, 0, mkE L' ⟨2, z, 0, 0⟩) := by rw [← hF]; simp [dtF, he]
        have HE := hide e
        have HF2 := hide hF2
        have z1 : (mkE L' ⟨2, z, 0, 0⟩ == 0) = false := by simpa using he
        clear e hF hNm hF2 hm
        generalize mkN L' ⟨2, z, 0, 0⟩ = n' at *
        generalize mkL L' ⟨2, z, 0, 0⟩ = L2 at *
        generalize mkE L' ⟨2, z, 0, 0⟩ = e2 at *
        go_wp2_with fail
        refine KM.mono ?_
        rintro e w4 ⟨rfl, sv2, hst2⟩
        have hst3 := (unhide HF2 w4 sv2 hst2).2
        clear hst2 HF2 KM
        go_wp2_with fail
        go_ret2
        exact ⟨ls_end (unhide HE), _, ls_step (unhide HE) hst3⟩
    · obtain ⟨hF, hn, hst, hm⟩ := unhide HR
      have hd : l.drop k = [] := List.drop_eq_nil_of_le (by rw [← unhide HN]; omega)
      rw [hd] at hF
      have KL := list_any b sv' mb L' u6 (acc.map fun (m : Nat) => (m : Int)) wr hst.st (hn.nis (by omega) hm) (hn.foot hst.st)
      have e : ls L' (acc.map fun (m : Nat) => (m : Int)) = dt L l := hF
      rw [e] at KL
      have HST := hide hst
      clear HR hd hF e hn hst hm HC
      go_wp2_with fail
      refine KL.mono ?_
      rintro e w4 ⟨rfl, sv2, hst2⟩
      have hst3 := (unhide HST).trans hst2
      clear hst2 KL
      go_wp2_with fail
      go_ret2
      exact ⟨rfl, _, hst3⟩
end Go.Proofs.Ytokdflbajnecpaa.Tn
