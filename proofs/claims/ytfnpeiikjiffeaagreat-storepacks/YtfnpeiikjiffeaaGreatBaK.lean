/- Texts joined: DkN JnR JnV. -/
import Derived.Test.YtfnpeiikjiffeaaGreatBaE
import Derived.Test.YtfnpeiikjiffeaaGreatBaJ
import Derived.Laws.OwnMore
/- Noughts, of the document's disk. -/
namespace Go.Proofs.YtfnpeiikjiffeaaGreat
open Go.RowKit Go.Maps

theorem nought_list : (⟨(List.replicate 64 (0 : UInt8)).toArray⟩ : ByteArray) = nought := rfl
theorem madeN (n : Nat) : (madeCells (Value.int .u8 0).cells (n * 1)).toList = List.replicate n (.int .u8 0) := by
  rw [made_zero]; apply List.ext_getElem?; intro j
  rw [List.getElem?_replicate]
  by_cases h : j < n <;> simp [filC, h]
theorem conv_zero (w1 : World) (g n : Nat) (h : w1.ownsRow g 5 1 (.slice (some ⟨g, 0, none⟩) n n) n (madeCells (Value.int .u8 0).cells (n * 1)).toList) : (convert 59 9 (.slice (some ⟨g, 0, none⟩) n n)).run Tryz.prog w1 = .ok (.string ⟨(List.replicate n (0 : UInt8)).toArray⟩) w1 := by
  have hcv := run_convert_bytes_back (P := Tryz.prog) w1 59 9 5 ⟨g, 0, none⟩ n (List.replicate n (0 : UInt8)) Tryz.underlying59 Tryz.underlying5 Tryz.underlying9 (fun j hj => by
    have hj' : j < n := by simpa using hj
    rw [Addr.add_mid, Nat.zero_add]
    refine own_cell h rfl ?_
    rw [madeN, List.getElem?_replicate, if_pos hj']
    simp)
  rw [List.length_replicate] at hcv
  exact hcv
end Go.Proofs.YtfnpeiikjiffeaaGreat

/- layer 6's alive. -/
namespace Go.Proofs.YtfnpeiikjiffeaaGreat
open Go.RowKit Go.Maps

def abc : ByteArray := ⟨#[97, 98, 99]⟩
def zs (m : Nat) : ByteArray := ⟨(List.replicate m (0 : UInt8)).toArray⟩
theorem zs_size (m : Nat) : (zs m).size = m := by simp [zs, ByteArray.size]
theorem good_open {w W : World} {d : Nat} {S : DS} {rs : List Res} (h : ED w W d S rs) {n : Nat} {t : ByteArray} (hg : Good S n t) :
    Calls Tryz.prog 40 #[.pointer (some ⟨d, 0, none⟩)] W fun e W' => ∃ jb, e = .returned (.tuple #[.pointer (some ⟨jb, 0, none⟩), .int .i64 0]) ∧ ED w W' d S (jr jb d n t false :: rs) := by
  obtain ⟨n0, l0, n1, l1, hh, e1, e2⟩ := hg.heads
  refine (open_any h hh).mono ?_
  rintro e W' ⟨jb, rfl, hE, -⟩
  rw [e1, e2, hg.tx] at hE
  exact ⟨jb, rfl, hE⟩
theorem good_put {w W : World} {d : Nat} {S : DS} {rs : List Res} {jb n : Nat} {t : ByteArray} (h : ED w W d S (jr jb d n t false :: rs)) (hsol : ∀ r ∈ rs, Solid r) (hg : Good S n t) (hc : S.cut = none) (hn : n < 1000000) (s : ByteArray) (hs : s.size ≤ room6 S) (hcnt : S.cnt ≤ 1000000) :
    Calls Tryz.prog 70 #[.pointer (some ⟨jb, 0, none⟩), .string s] W fun e W' => ∃ S', e = .returned (.int .i64 0) ∧ Good S' (n + 1) s ∧ S'.cut = none ∧ S'.cnt = S.cnt + costN s.size ∧ S'.N = S.N ∧ ED w W' d S' (jr jb d (n + 1) s false :: rs) := by
  refine (Put_go h hsol hg.up hg.N4 (by omega) s hs hcnt (by rw [hg.sn]; simp)).mono ?_
  rintro e W' ⟨S', x, rfl, hv, hE⟩
  obtain ⟨rfl, g1, g2, g3, g4⟩ := hg.putPlain hc hn hs hv
  exact ⟨S', rfl, g1, g2, g3, g4, hE⟩
end Go.Proofs.YtfnpeiikjiffeaaGreat

/- A journal's disk, plainly: what a Put leaves where the disk is cut. -/
namespace Go.Proofs.YtfnpeiikjiffeaaGreat

theorem fl_other {bits : Int} {l : List (Nat × ByteArray)} {i : Nat} {f : Nat → ByteArray} {k : Nat} (h : ∀ p ∈ l, p.1 ≠ k) : fl bits i f l k = f k := by
  induction l generalizing f i with
  | nil => rfl
  | cons p l ih =>
    show fl bits (i + 1) (upd f p.1 _) l k = f k
    rw [ih (fun q hq => h q (by simp [hq])), upd_other _ _ (Ne.symm (h p (by simp)))]
theorem wrL_mem {A : Nat} {s : ByteArray} {i : Nat} {p : Nat × ByteArray} (h : p ∈ wrL A s i) : A ≤ p.1 ∧ p.1 < A + i := by
  simp only [wrL, List.mem_map, List.mem_range] at h
  obtain ⟨j, hj, rfl⟩ := h
  exact ⟨by simp, by simp; omega⟩
theorem wrI_cut {S : DS} (hu : S.up = true) {c : Nat} {bits : Int} (hc : S.cut = some (c, bits)) (A : Nat) (s : ByteArray) (i : Nat) (hi : A + i ≤ S.N) (hic : i ≤ c) : wrI S A s i = { S with since := S.since ++ wrL A s i, cnt := S.cnt + i, cut := some (c - i, bits) } ∧ ∀ j, j < i → wrE S A s j = 0 := by
  induction i with
  | zero => exact ⟨by simp [wrI, wrL, ← hc], fun j hj => by omega⟩
  | succ i ih =>
    obtain ⟨e1, e2⟩ := ih (by omega) (by omega)
    obtain ⟨m, hm⟩ : ∃ m, c - i = m + 1 := ⟨c - i - 1, by omega⟩
    have hw : (wrI S A s i).write ((A + i : Nat) : Int) (chk s i) = ({ S with since := S.since ++ wrL A s (i + 1), cnt := S.cnt + (i + 1), cut := some (c - (i + 1), bits) }, 0) := by
      rw [e1]
      unfold DS.write
      rw [if_neg (by simp [hu]), if_neg (by simp only [chk_size]; omega)]
      have : c - (i + 1) = m := by omega
      simp only [DS.come, hm, DS.put, DS.did, wrL_succ, List.append_assoc, Nat.add_assoc, this]
      rfl
    refine ⟨by simp only [wrI]; rw [hw], fun j hj => ?_⟩
    by_cases c : j = i
    · subst c; simp only [wrE]; rw [hw]
    · exact e2 j (by omega)
/-- The write that is cut. -/
theorem wrI_fall {S : DS} (hu : S.up = true) {c : Nat} {bits : Int} (hc : S.cut = some (c, bits)) (A : Nat) (s : ByteArray) (hi : A + c < S.N) :
    wrE S A s c = 6 ∧ wrI S A s (c + 1) = ({ S with since := S.since ++ wrL A s c, cnt := S.cnt + c } : DS).fall bits := by
  obtain ⟨e1, e2⟩ := wrI_cut hu hc A s c (by omega) (Nat.le_refl _)
  have hw : (wrI S A s c).write ((A + c : Nat) : Int) (chk s c) = (({ S with since := S.since ++ wrL A s c, cnt := S.cnt + c } : DS).fall bits, 6) := by
    rw [e1]
    unfold DS.write
    rw [if_neg (by simp [hu]), if_neg (by simp only [chk_size]; omega)]
    simp only [DS.come, Nat.sub_self]
    rfl
  exact ⟨by simp only [wrE]; rw [hw], by simp only [wrI]; rw [hw]⟩
theorem cat_congr {S T : DS} {A i : Nat} (h : ∀ j, j < i → T.now (A + j) = S.now (A + j)) : cat T A i = cat S A i := by
  induction i with
  | zero => rfl
  | succ i ih => simp only [cat]; rw [ih (fun j hj => h j (by omega)), h i (by omega)]
/-- The old text is there still, where its heads and its sectors are. -/
theorem Good.old {S T : DS} {n : Nat} {t : ByteArray} (h : Good S n t) (hu : T.up = true) (hN : T.N = S.N) (hs : T.since = []) (hb : ∀ k, k < 2 ∨ (at0 S.N n ≤ k ∧ k < at0 S.N n + (S.N - 2) / 2) → T.base k = S.base k) : Good T n t := by
  obtain ⟨l, o1, o2, o3⟩ := h.ho
  have hr := h.r
  refine ⟨hu, by rw [hN]; exact h.N4, hs, h.nb, by rw [hb _ (Or.inl (by omega))]; exact h.hn, ⟨l, by rw [hb _ (Or.inl (by omega))]; exact o1, by unfold room6; rw [hN]; exact o2, o3⟩, h.z, by unfold room6; rw [hN]; exact hr, ?_⟩
  have e : txt T n t.size = txt S n t.size := by
    unfold txt
    rw [hN, cat_congr (S := S) (T := T)]
    intro j hj
    rw [now_base hs, now_base h.sn]
    refine hb _ (Or.inr ⟨by omega, ?_⟩)
    unfold room6 at hr; unfold rnds at hj; omega
  rw [e]; exact h.tx
/-- The new text is there. -/
theorem Good.fresh {S T : DS} {n : Nat} {t : ByteArray} (h : Good S n t) (hnb : n < 1000000) {s : ByteArray} (hsz : s.size ≤ room6 S) (hu : T.up = true) (hN : T.N = S.N) (hs : T.since = []) (h1 : T.base ((n + 1 + 1) % 2) = hd (n + 1) s.size) (h2 : T.base ((n + 1) % 2) = S.base ((n + 1) % 2)) (h3 : ∀ j, j < rnds s.size → T.base (at0 S.N (n + 1) + j) = chk s j) : Good T (n + 1) s := by
  refine ⟨hu, by rw [hN]; exact h.N4, hs, by omega, h1, ⟨t.size, by rw [h2]; exact h.hn, by unfold room6; rw [hN]; exact h.r, fun c => h.z (by omega)⟩, by omega, by unfold room6; rw [hN]; exact hsz, ?_⟩
  refine txt_text fun j hj => ?_
  rw [now_base hs, hN]; exact h3 j hj
theorem halves {N n : Nat} : (at0 N n = 2 ∧ at0 N (n + 1) = 2 + (N - 2) / 2) ∨ (at0 N (n + 1) = 2 ∧ at0 N n = 2 + (N - 2) / 2) := by
  unfold at0
  rcases Nat.mod_two_eq_zero_or_one n with c | c
  · right; rw [show (n + 1 + 1) % 2 = 0 from by omega, show (n + 1) % 2 = 1 from by omega]; omega
  · left; rw [show (n + 1 + 1) % 2 = 1 from by omega, show (n + 1) % 2 = 0 from by omega]; omega
theorem costN_rnds (m : Nat) : costN m = rnds m + 3 := by unfold costN rnds; split <;> omega
/-- A disk behind a fall, up again. -/
def DS.again (S : DS) : DS := { S with up := true, cut := none }
theorem Good.fellText {S : DS} {n : Nat} {t : ByteArray} (h : Good S n t) {s : ByteArray} (hs : s.size ≤ room6 S) {i : Nat} (hi : i ≤ rnds s.size) {m : Nat} {bits : Int} {S1 : DS} (h1 : S1 = ({ S with since := wrL (at0 S.N (n + 1)) s i, cnt := m } : DS).fall bits) : S1.up = false ∧ S1.N = S.N ∧ S1.cnt = m ∧ S1.since = [] ∧ Good S1.again n t := by
  subst h1
  refine ⟨rfl, rfl, rfl, rfl, h.old rfl rfl rfl ?_⟩
  intro k hk
  have hq : rnds s.size ≤ (S.N - 2) / 2 := by unfold room6 at hs; unfold rnds; omega
  have h4 := h.N4
  refine fl_other fun p hp => ?_
  obtain ⟨p1, p2⟩ := wrL_mem (List.mem_of_mem_take hp)
  rcases halves (N := S.N) (n := n) with ⟨a1, a2⟩ | ⟨a1, a2⟩ <;> omega
/-- What a Put leaves where the disk is cut. -/
theorem Good.putCut {S : DS} {n : Nat} {t : ByteArray} (h : Good S n t) {c : Nat} {bits : Int} (hc : S.cut = some (c, bits)) (hnb : n < 1000000) {s : ByteArray} (hs : s.size ≤ room6 S) {S' : DS} {x : Int} (hv : Saved S (n + 1) s S' x) :
    (costN s.size ≤ c ∧ x = 0 ∧ Good S' (n + 1) s ∧ S'.N = S.N ∧ S'.cnt = S.cnt + costN s.size) ∨
    (c < costN s.size ∧ x = 6 ∧ S'.up = false ∧ S'.N = S.N ∧ S'.since = [] ∧ S'.cnt ≤ S.cnt + costN s.size ∧ (Good S'.again n t ∨ (c + 1 = costN s.size ∧ Good S'.again (n + 1) s))) := by
  obtain ⟨f2, fN⟩ := at0_fit (n := n + 1) (len := s.size) hs h.N4
  have hcost := costN_rnds s.size
  have h4 := h.N4
  by_cases c1 : c < rnds s.size
  · obtain ⟨e6, eF⟩ := wrI_fall h.up hc (at0 S.N (n + 1)) s (by omega)
    obtain ⟨-, e0⟩ := wrI_cut h.up hc (at0 S.N (n + 1)) s c (by omega) (Nat.le_refl _)
    rw [h.sn, List.nil_append] at eF
    cases hv with
    | text i hi h0 he =>
      have hic : i = c := by
        rcases Nat.lt_trichotomy i c with q | q | q
        · exact absurd (e0 i q) he
        · exact q
        · have := h0 c q; rw [e6] at this; cases this
      subst hic
      obtain ⟨g1, g2, g3, g4, g5⟩ := h.fellText hs (Nat.le_of_lt c1) eF
      exact Or.inr ⟨by omega, e6, g1, g2, g4, by rw [g3]; omega, Or.inl g5⟩
    | sync h0 _ => have := h0 c c1; rw [e6] at this; cases this
    | head h0 _ _ => have := h0 c c1; rw [e6] at this; cases this
    | last h0 _ _ => have := h0 c c1; rw [e6] at this; cases this
  obtain ⟨m, rfl⟩ : ∃ m, c = rnds s.size + m := ⟨c - rnds s.size, by omega⟩
  obtain ⟨eW, e0⟩ := wrI_cut h.up hc (at0 S.N (n + 1)) s (rnds s.size) fN (by omega)
  rw [h.sn, List.nil_append, show rnds s.size + m - rnds s.size = m from by omega] at eW
  cases m with
  | zero =>
    have eS : (wrI S (at0 S.N (n + 1)) s (rnds s.size)).sync = (({ S with since := wrL (at0 S.N (n + 1)) s (rnds s.size), cnt := S.cnt + rnds s.size } : DS).fall bits, 6) := by
      rw [eW]; unfold DS.sync; rw [if_neg (by simp [h.up])]; simp only [DS.come]; rfl
    cases hv with
    | text i hi h0 he => exact absurd (e0 i hi) he
    | sync h0 he =>
      rw [eS]
      obtain ⟨g1, g2, g3, g4, g5⟩ := h.fellText hs (Nat.le_refl _) (m := S.cnt + rnds s.size) (bits := bits) rfl
      exact Or.inr ⟨by omega, rfl, g1, g2, g4, by rw [g3]; omega, Or.inl g5⟩
    | head h0 h1 _ => rw [eS] at h1; cases h1
    | last h0 h1 _ => rw [eS] at h1; cases h1
  | succ m =>
    obtain ⟨T, hT⟩ : ∃ T : DS, T = { S with base := cur S.base (wrL (at0 S.N (n + 1)) s (rnds s.size)), since := [], cnt := S.cnt + rnds s.size + 1, cut := some (m, bits) } := ⟨_, rfl⟩
    have eS : (wrI S (at0 S.N (n + 1)) s (rnds s.size)).sync = (T, 0) := by
      rw [eW, hT]; unfold DS.sync; rw [if_neg (by simp [h.up])]; simp only [DS.come, DS.settle, DS.did, DS.now]
    have hTb : ∀ k, T.base k = if at0 S.N (n + 1) ≤ k ∧ k < at0 S.N (n + 1) + rnds s.size then chk s (k - at0 S.N (n + 1)) else S.base k := fun k => by rw [hT]; exact cur_wrL _ _ _ _ _
    have hTu : T.up = true := by rw [hT]; exact h.up
    have hTN : T.N = S.N := by rw [hT]
    have hTs : T.since = [] := by rw [hT]
    have hTc : T.cut = some (m, bits) := by rw [hT]
    have hTn : T.cnt = S.cnt + rnds s.size + 1 := by rw [hT]
    clear hT
    have hq : rnds s.size ≤ (S.N - 2) / 2 := by unfold room6 at hs; unfold rnds; omega
    have hTo : ∀ k, k < 2 ∨ (at0 S.N n ≤ k ∧ k < at0 S.N n + (S.N - 2) / 2) → T.base k = S.base k := by
      intro k hk; rw [hTb, if_neg]
      rcases halves (N := S.N) (n := n) with ⟨a1, a2⟩ | ⟨a1, a2⟩ <;> omega
    have hlt : ((n + 1 + 1) % 2) < 2 := by omega
    have hwr : T.write (((n + 1 + 1) % 2 : Nat) : Int) (hd (n + 1) s.size) = T.come (fun S => S.put ((n + 1 + 1) % 2) (hd (n + 1) s.size)) := by
      unfold DS.write
      rw [if_neg (by simp [hTu]), if_neg (by simp only [hd_size]; rw [hTN]; omega)]
      rfl
    cases m with
    | zero =>
      have eH : T.write (((n + 1 + 1) % 2 : Nat) : Int) (hd (n + 1) s.size) = (T.fall bits, 6) := by rw [hwr]; unfold DS.come; rw [hTc]
      cases hv with
      | text i hi h0 he => exact absurd (e0 i hi) he
      | sync h0 he => rw [eS] at he; exact absurd rfl he
      | head h0 h1 he =>
        rw [eS]; simp only; rw [eH]
        refine Or.inr ⟨by omega, rfl, rfl, hTN, rfl, ?_, Or.inl (h.old rfl hTN rfl ?_)⟩
        · show T.cnt ≤ _; rw [hTn]; omega
        · intro k hk
          show fl bits 0 T.base (T.since.take 31) k = _
          rw [hTs]; exact hTo k hk
      | last h0 h1 h2 => rw [eS] at h2; simp only at h2; rw [eH] at h2; cases h2
    | succ m =>
      obtain ⟨U, hU⟩ : ∃ U : DS, U = { T with since := [((n + 1 + 1) % 2, hd (n + 1) s.size)], cnt := T.cnt + 1, cut := some (m, bits) } := ⟨_, rfl⟩
      have eH : T.write (((n + 1 + 1) % 2 : Nat) : Int) (hd (n + 1) s.size) = (U, 0) := by
        rw [hwr]; unfold DS.come; rw [hTc]; simp only [DS.put, DS.did, hTs, List.nil_append, hU]
      have hUu : U.up = true := by rw [hU]; exact hTu
      have hUN : U.N = S.N := by rw [hU]; exact hTN
      have hUc : U.cut = some (m, bits) := by rw [hU]
      have hUb : U.base = T.base := by rw [hU]
      have hUs : U.since = [((n + 1 + 1) % 2, hd (n + 1) s.size)] := by rw [hU]
      have hUn : U.cnt = S.cnt + rnds s.size + 2 := by rw [hU]; simp only; rw [hTn]
      clear hU
      have h3 : ∀ (T2 : DS) (y : ByteArray), T2.base = upd T.base ((n + 1 + 1) % 2) y → ∀ j, j < rnds s.size → T2.base (at0 S.N (n + 1) + j) = chk s j := by
        intro T2 y e j hj; rw [e, upd_other _ _ (by omega), hTb, if_pos (by omega)]; congr 1; omega
      have h2 : ∀ (T2 : DS) (y : ByteArray), T2.base = upd T.base ((n + 1 + 1) % 2) y → T2.base ((n + 1) % 2) = S.base ((n + 1) % 2) := by
        intro T2 y e; rw [e, upd_other _ _ (by omega)]; exact hTo _ (Or.inl (by omega))
      cases m with
      | zero =>
        have eV : U.sync = (U.fall bits, 6) := by unfold DS.sync; rw [if_neg (by simp [hUu])]; unfold DS.come; rw [hUc]
        have hfb : (U.fall bits).again.base = upd T.base ((n + 1 + 1) % 2) (torn (T.base ((n + 1 + 1) % 2)) (hd (n + 1) s.size) (fate bits 0)) := by
          show fl bits 0 U.base (U.since.take 31) = _
          rw [hUb, hUs]; rfl
        cases hv with
        | text i hi h0 he => exact absurd (e0 i hi) he
        | sync h0 he => rw [eS] at he; exact absurd rfl he
        | head h0 h1 he => rw [eS] at he; simp only at he; rw [eH] at he; exact absurd rfl he
        | last h0 h1 h2' =>
          rw [eS]; simp only; rw [eH]; simp only; rw [eV]
          refine Or.inr ⟨by omega, rfl, rfl, hUN, rfl, ?_, ?_⟩
          · show U.cnt ≤ _; rw [hUn]; omega
          obtain ⟨l, o1, o2, o3⟩ := h.ho
          have hold : T.base ((n + 1 + 1) % 2) = hd (n - 1) l := by rw [hTo _ (Or.inl (by omega)), show (n + 1 + 1) % 2 = n % 2 from by omega]; exact o1
          rw [hold] at hfb
          rcases torn_hd (n - 1) l (n + 1) s.size (fate bits 0) with q | q
          · left
            rw [q, ← hold, upd_id] at hfb
            exact h.old rfl hUN rfl (fun k hk => by rw [hfb]; exact hTo k hk)
          · right
            rw [q] at hfb
            exact ⟨by omega, h.fresh hnb hs rfl hUN rfl (by rw [hfb, upd_same]) (h2 _ _ hfb) (h3 _ _ hfb)⟩
      | succ m =>
        obtain ⟨V, hV⟩ : ∃ V : DS, V = { U with base := upd T.base ((n + 1 + 1) % 2) (hd (n + 1) s.size), since := [], cnt := U.cnt + 1, cut := some (m, bits) } := ⟨_, rfl⟩
        have eV : U.sync = (V, 0) := by
          unfold DS.sync; rw [if_neg (by simp [hUu])]; unfold DS.come; rw [hUc]
          simp only [DS.settle, DS.did, DS.now, hV, hUb, hUs]
          rfl
        have hVb : V.base = upd T.base ((n + 1 + 1) % 2) (hd (n + 1) s.size) := by rw [hV]
        cases hv with
        | text i hi h0 he => exact absurd (e0 i hi) he
        | sync h0 he => rw [eS] at he; exact absurd rfl he
        | head h0 h1 he => rw [eS] at he; simp only at he; rw [eH] at he; exact absurd rfl he
        | last h0 h1 h2' =>
          rw [eS]; simp only; rw [eH]; simp only; rw [eV]
          exact Or.inl ⟨by omega, rfl, h.fresh hnb hs (by rw [hV]; exact hUu) (by rw [hV]; exact hUN) (by rw [hV]) (by rw [hVb, upd_same]) (h2 _ _ hVb) (h3 _ _ hVb), by rw [hV]; exact hUN, by rw [hV]; show U.cnt + 1 = _; rw [hUn]; omega⟩
end Go.Proofs.YtfnpeiikjiffeaaGreat
