/- Texts joined: ScF ScG ScH. -/
import Derived.Test.YtcbafeneaoaglaaGreatDoorScE
import Derived.Test.YtcbafeneaoaglaaGreatDoorZ06
/- The contract of sched.node: what a context has of a node. -/
namespace Go.Proofs.YtcbafeneaoaglaaGreatDoor.Tn
open Go.RowKit Go.Maps

/-- What a context has of a node. -/
def nodP (p : List Tm × List Nat) (x : Nat) (pub : Nat) : List Tm × List Nat := ((dat p (x : Int)).1, (dat p (x : Int)).2 ++ [pub])
def nod (p : List Tm × List Nat) (x : Nat) (n : Nd) : List Tm × List Nat := dats (nodP p x n.pub.toNat) (if x % 2 = 0 then [n.mem, n.ep] else n.un)

set_option maxRecDepth 100000 in
set_option maxHeartbeats 4000000 in
theorem scnode_any {b : Nat} {sv : Value} {mb : Nat} {L : List Tm} {w : World} (h : St w b sv mb L) (lv : Value) (acc : List Nat) (hr : NRow 0 w lv acc) (x : Nat) (hx : x ≤ 1000) (n : Nd) (u : Value) (hu : ∀ W, Fr (foot b sv mb ++ lv.ownBlock.toList) w W → Nums W u n.un) (hz : (∀ z ∈ n.un, -9223372036854775808 ≤ z ∧ z ≤ 9223372036854775807) ∧ (-9223372036854775808 ≤ n.mem ∧ n.mem ≤ 9223372036854775807) ∧ (-9223372036854775808 ≤ n.ep ∧ n.ep ≤ 9223372036854775807)) (hp : 0 ≤ n.pub) (hul : n.un.length ≤ 8) (hl : L.length + 20 ≤ 1048576) (hac : acc.length ≤ 900) :
    Calls Tryz.prog 63 #[.func (.func 24) #[.pointer (some ⟨b, 0, none⟩)] #[], lv, .int .i64 (x : Int), .agg #[.int .i64 n.pub, .int .i64 n.mem, .int .i64 n.ep, u]] w fun e w' => ∃ lv', e = .returned (.tuple #[lv', .int .i64 0]) ∧ ∃ sv', DStep w w' b sv sv' mb (nod (L, acc) x n).1 lv lv' (nod (L, acc) x n).2 := by
  obtain ⟨pub, mem, ep, un⟩ := n
  obtain ⟨pn, rfl⟩ : ∃ pn : Nat, pub = (pn : Int) := ⟨pub.toNat, by simp at hp; omega⟩
  simp only at hu hz hul
  obtain ⟨ua, uc, rfl⟩ := nums_slice (hu w (Fr.refl _ _))
  obtain ⟨UN, hUN⟩ : ∃ UN, UN = un.length := ⟨_, rfl⟩
  rw [← hUN] at hu ⊢
  obtain ⟨w0, hw0⟩ : ∃ w0, w0 = w.alloc (.cells #[.int .i64 (pn : Int), .int .i64 mem, .int .i64 ep, .slice ua UN uc] 62) := ⟨_, rfl⟩
  have x0 : Below w.heap.size w w0 := by rw [hw0]; exact bwA' _ _
  have k0 : w0.heap[w.heap.size]? = some (.cells #[.int .i64 (pn : Int), .int .i64 mem, .int .i64 ep, .slice ua UN uc] 62 (0, 0)) := by rw [hw0]; exact heap_alloc_new _ _
  have hlv : ∀ j, lv.ownBlock = some j → j ≠ w.heap.size := fun j hj c => by have := (hr.lt j hj).2; omega
  have h0 := h.bw x0
  have hr0 : NRow 0 w0 lv acc := hr.keep (fun k hk => x0.block k (hr.lt k hk).2)
  have hu0 : ∀ W, Fr (foot b sv mb ++ lv.ownBlock.toList) w0 W → Nums W (.slice ua UN uc) un := fun W hW => hu W (((Fr.ofBelow x0).mono (fun _ _ c => by cases c)).tr hW)
  obtain ⟨j0, hj, hy0, hy1, hy2⟩ := info_parts Tryz.infoInt
  -- the first number
  obtain ⟨w1, hw1⟩ : ∃ w1, w1 = w0.alloc (.cells #[.int .i64 (x : Int)] 3) := ⟨_, rfl⟩
  have x1 : Below w0.heap.size w0 w1 := by rw [hw1]; exact bwA' _ _
  have hr1 : NRow 0 w1 lv acc := hr0.keep (fun k hk => x1.block k (hr0.lt k hk).2)
  have K1 := scdata_any (h0.bw x1) lv acc hr1 (.slice (some ⟨w0.heap.size, 0, none⟩) 1 1) [(x : Int)] (by rw [hw1]; exact nums_new1 h0 hr0 (x : Int)) (by simp; omega) (by simp; omega) (by simp) (by omega)
  have HP : Hid (dats (L, acc) [(x : Int)] = dat (L, acc) (x : Int)) := rfl
  rw [unhide HP] at K1
  obtain ⟨P, hP⟩ : ∃ P, P = dat (L, acc) (x : Int) := ⟨_, rfl⟩
  have hPl := dat_len (L, acc) (x : Int)
  rw [← hP] at K1 hPl
  simp only at hPl
  have HK1 : Hid (Calls Tryz.prog 62 #[.func (.func 24) #[.pointer (some ⟨b, 0, none⟩)] #[], lv, .slice (some ⟨w0.heap.size, 0, none⟩) 1 1] w1 fun e w' => ∃ lv', e = .returned (.tuple #[lv', .int .i64 0]) ∧ ∃ sv', DStep w0 w' b sv sv' mb P.1 lv lv' P.2) := K1.mono (fun e w' hh => by obtain ⟨l', e1, s', d⟩ := hh; exact ⟨l', e1, s', d.before x1⟩)
  have KD : Hid (∀ W sv1 L1 lv1 acc1 nv ns, DStep w0 W b sv sv1 mb L1 lv lv1 acc1 → (∀ V, Fr (foot b sv1 mb ++ lv1.ownBlock.toList) W V → Nums V nv ns) → (∀ z ∈ ns, -9223372036854775808 ≤ z ∧ z ≤ 9223372036854775807) → L1.length + ns.length ≤ 1048576 → ns.length ≤ 100 → acc1.length ≤ 1000 → Calls Tryz.prog 62 #[.func (.func 24) #[.pointer (some ⟨b, 0, none⟩)] #[], lv1, nv] W fun e w' => ∃ lv', e = .returned (.tuple #[lv', .int .i64 0]) ∧ ∃ sv', DStep w0 w' b sv sv' mb (dats (L1, acc1) ns).1 lv lv' (dats (L1, acc1) ns).2) := fun W sv1 L1 lv1 acc1 nv ns D hn hz hl hns hac => by
    refine (scdata_any D.st lv1 acc1 D.row nv ns hn hz hl hns hac).mono ?_
    rintro e w' ⟨l', e1, s', d⟩
    exact ⟨l', e1, s', D.trans d⟩
  have HE : Hid (∀ lv' sv' w', DStep w0 w' b sv sv' mb (nod (L, acc) x ⟨(pn : Int), mem, ep, un⟩).1 lv lv' (nod (L, acc) x ⟨(pn : Int), mem, ep, un⟩).2 → DStep w w' b sv sv' mb (nod (L, acc) x ⟨(pn : Int), mem, ep, un⟩).1 lv lv' (nod (L, acc) x ⟨(pn : Int), mem, ep, un⟩).2) := fun _ _ _ d => d.before x0
  have HNod : Hid (nod (L, acc) x ⟨(pn : Int), mem, ep, un⟩ = dats (P.1, P.2 ++ [pn]) (if x % 2 = 0 then [mem, ep] else un)) := by unfold Hid nod nodP; rw [hP]; simp
  have HH := hide (And.intro h0 (And.intro hlv (And.intro hu0 (And.intro hz (And.intro hul (And.intro hl (And.intro hPl.1 (And.intro hPl.2.2 hac))))))))
  have HW0 := hide hw0
  have HW1 := hide hw1
  have HUN := hide hUN
  have hx2 : (x : Int) ≤ 1000 := by omega
  clear h hr hu hz hul hl hac hw0 hw1 x0 x1 h0 hr0 hr1 hu0 K1 hP HP hPl hUN hlv hp
  generalize nod (L, acc) x ⟨(pn : Int), mem, ep, un⟩ = RR at *
  go_enter Tryz.func63, Tryz.ntmps63
  go_upto_region 1 with fail
  rw [← unhide HW0]
  go_wp2_with fail
  rw [← unhide HW1]
  refine (unhide HK1).mono ?_
  rintro e w2 ⟨lv2, rfl, sv2, d2⟩
  have D2 := hide d2
  have k2 := fr_keep d2.fr (unhide HH).1 k0 (by decide) (by decide) (unhide HH).2.1
  have hs2 := d2.fr.size
  have c2 := blk_cell (i := 0) k2 rfl
  obtain ⟨A2, hA2⟩ : ∃ A2, A2 = P.2.length := ⟨_, rfl⟩
  have hal : A2 ≤ 901 := by have := (unhide HH).2.2.2.2.2.2.2; omega
  have hrow : w2.ownsRow 0 3 1 lv2 A2 (P.2.map (fun m => .int .i64 ((m : Nat) : Int))) := by rw [hA2]; exact d2.row
  have HA := hide hA2
  clear d2 HK1 HW0 HW1 k2 hA2
  go_wp2_with (at_builtin; refine wpList_append_own_at _ rfl (.tmp 22) (.tmp 25) 55 rfl 0 3 j0 (.int .i64 0) 1 8 Tryz.underlying55 hj hy0 hy1 hy2 rfl (by decide) _ A2 _ rfl (World.ownsRow.alloc hrow _) ⟨w2.heap.size, 0, none⟩ 1 1 [_] rfl rfl (cell_one_new _ _ _) ?c2 ?c3 ?c4 ?c5 ?nx)
  case c2 => intro u hu; simp at hu; subst hu; rfl
  case c3 => unfold maxLen; omega
  case c4 => omega
  case c5 => exact Nat.zero_le _
  case nx =>
    intro v' w5 hown' hgrow _ hpl
    have hn5 : NRow 0 w5 v' (P.2 ++ [pn]) := by
      rw [unhide HA] at hown'
      unfold NRow; simpa using hown'
    have D5 : Hid (DStep w0 w5 b sv sv2 mb P.1 lv v' (P.2 ++ [pn])) := (unhide D2).grown hn5 hgrow (by simpa using hpl)
    have k5 := fr_keep (unhide D5).fr (unhide HH).1 k0 (by decide) (by decide) (unhide HH).2.1
    clear hown' hgrow hn5 hpl D2 hrow c2 hs2
    by_cases hpar : x % 2 = 0
    · have r1 : Int.tmod (x : Int) 2 = 0 := by rw [Int.tmod_eq_emod_of_nonneg (by omega)]; omega
      have d1 := blk_cell (i := 1) k5 rfl
      have d2 := blk_cell (i := 2) k5 rfl
      have K6 := unhide KD (w5.alloc (.cells #[.int .i64 mem, .int .i64 ep] 3)) sv2 P.1 v' (P.2 ++ [pn]) (.slice (some ⟨w5.heap.size, 0, none⟩) 2 2) [mem, ep] ((unhide D5).bw (bwA' _ _)) (nums_new2 (unhide D5).st (unhide D5).row mem ep) (by have := (unhide HH).2.2.2.1.2; intro z hz; simp at hz; rcases hz with rfl | rfl; exact this.1; exact this.2) (by have := (unhide HH).2.2.2.2.2; simp; omega) (by simp) (by have := (unhide HH).2.2.2.2.2.2.2; simp; omega)
      have e6 : dats (P.1, P.2 ++ [pn]) [mem, ep] = RR := by rw [unhide HNod, if_pos hpar]
      rw [e6] at K6
      have HK := hide K6
      clear K6 e6 hpar
      go_wp2_with fail
      refine (unhide HK).mono ?_
      rintro e w7 ⟨lv7, rfl, sv7, d7⟩
      have D7 := hide (unhide HE _ _ _ d7)
      clear d7 HK d1 d2 k5
      go_wp2
      go_ret2
      exact ⟨lv7, rfl, sv7, unhide D7⟩
    · have r1 : Int.tmod (x : Int) 2 = 1 := by rw [Int.tmod_eq_emod_of_nonneg (by omega)]; omega
      have d3 := blk_cell (i := 3) k5 rfl
      have K6 := unhide KD w5 sv2 P.1 v' (P.2 ++ [pn]) (.slice ua UN uc) un (unhide D5) (fun V hV => (unhide HH).2.2.1 V ((unhide D5).frs hV)) (unhide HH).2.2.2.1.1 (by have := (unhide HH).2.2.2.2; omega) (by have := (unhide HH).2.2.2.2; omega) (by have := (unhide HH).2.2.2.2.2.2.2; simp; omega)
      have e6 : dats (P.1, P.2 ++ [pn]) un = RR := by rw [unhide HNod, if_neg hpar]
      rw [e6] at K6
      have HK := hide K6
      clear K6 e6 hpar
      go_wp2_with fail
      refine (unhide HK).mono ?_
      rintro e w7 ⟨lv7, rfl, sv7, d7⟩
      have D7 := hide (unhide HE _ _ _ d7)
      clear d7 HK d3 k5
      go_wp2
      go_ret2
      exact ⟨lv7, rfl, sv7, unhide D7⟩
end Go.Proofs.YtcbafeneaoaglaaGreatDoor.Tn

/- The contract of sched.public: the list of what a context is the digest of. -/
namespace Go.Proofs.YtcbafeneaoaglaaGreatDoor.Tn
open Go.RowKit Go.Maps

/-- A tree that reads as it does in all worlds of a kind, at the same places. -/
def Tfix (F : World → Prop) (v : Value) (T : List Nd) : Prop :=
  (T = [] ∧ ∃ a c, v = .slice a 0 c) ∨ ∃ g o c, ∃ us : Nat → Value, v = .slice (some ⟨g, o, none⟩) T.length c ∧ ∀ W, F W → ∀ i, i < T.length → NdC W g (o + i * 4) (ndAt T i) (us i) ∧ Nums W (us i) (ndAt T i).un
theorem Tfix.slice {F : World → Prop} {v : Value} {T : List Nd} (h : Tfix F v T) : ∃ a c, v = .slice a T.length c := by
  rcases h with ⟨rfl, a, c, rfl⟩ | ⟨g, o, c, us, rfl, _⟩
  · exact ⟨a, c, rfl⟩
  · exact ⟨_, c, rfl⟩
theorem Tfix.mono {F G : World → Prop} {v : Value} {T : List Nd} (h : Tfix F v T) (hG : ∀ W, G W → F W) : Tfix G v T := by
  rcases h with h | ⟨g, o, c, us, e, hh⟩
  · exact Or.inl h
  · exact Or.inr ⟨g, o, c, us, e, fun W hW => hh W (hG W hW)⟩
/-- The numbers of a tree. -/
structure Tb (T : List Nd) : Prop where
  len : T.length ≤ 15
  un : ∀ x ∈ T, x.un.length ≤ 8
  pub : ∀ x ∈ T, 0 ≤ x.pub
  rng : ∀ x ∈ T, (∀ z ∈ x.un, -9223372036854775808 ≤ z ∧ z ≤ 9223372036854775807) ∧ (-9223372036854775808 ≤ x.mem ∧ x.mem ≤ 9223372036854775807) ∧ (-9223372036854775808 ≤ x.ep ∧ x.ep ≤ 9223372036854775807)

def pubK (T : List Nd) (p : List Tm × List Nat) (k : Nat) : List Tm × List Nat := (List.range k).foldl (fun p i => if (ndAt T i).pub = 0 then p else nod p i (ndAt T i)) p
def pubP (L : List Tm) (g e : Int) (T : List Nd) : List Tm × List Nat := pubK T (dats (L, []) [g, e]) T.length
theorem pubK_succ (T : List Nd) (p : List Tm × List Nat) (k : Nat) : pubK T p (k + 1) = if (ndAt T k).pub = 0 then pubK T p k else nod (pubK T p k) k (ndAt T k) := by
  unfold pubK
  rw [List.range_succ, List.foldl_append]
  rfl
theorem nod_len (p : List Tm × List Nat) (x : Nat) (n : Nd) (h : n.un.length ≤ 8) : (nod p x n).1.length ≤ p.1.length + 9 ∧ p.1.length ≤ (nod p x n).1.length ∧ (nod p x n).2.length ≤ p.2.length + 10 := by
  have h1 := dat_len p (x : Int)
  have h2 := dats_len (if x % 2 = 0 then [n.mem, n.ep] else n.un) (nodP p x n.pub.toNat)
  have h3 : (if x % 2 = 0 then [n.mem, n.ep] else n.un).length ≤ 8 := by split; simp; exact h
  unfold nod
  have h4 : (nodP p x n.pub.toNat).1.length = (dat p (x : Int)).1.length ∧ (nodP p x n.pub.toNat).2.length = (dat p (x : Int)).2.length + 1 := by simp [nodP]
  omega
theorem pubK_len (T : List Nd) (hT : ∀ x ∈ T, x.un.length ≤ 8) (p : List Tm × List Nat) : ∀ k, k ≤ T.length → (pubK T p k).1.length ≤ p.1.length + 9 * k ∧ p.1.length ≤ (pubK T p k).1.length ∧ (pubK T p k).2.length ≤ p.2.length + 10 * k := by
  intro k
  induction k with
  | zero => intro _; simp [pubK]
  | succ k ih =>
    intro hk
    have h := ih (by omega)
    rw [pubK_succ]
    split
    · omega
    · have := nod_len (pubK T p k) k (ndAt T k) (hT _ (ndAt_mem (by omega)))
      omega

set_option maxRecDepth 100000 in
set_option maxHeartbeats 4000000 in
theorem scpublic_any {b : Nat} {sv : Value} {mb : Nat} {L : List Tm} {w : World} (h : St w b sv mb L) (g e : Int) (hg : -9223372036854775808 ≤ g ∧ g ≤ 9223372036854775807) (he : -9223372036854775808 ≤ e ∧ e ≤ 9223372036854775807) (v : Value) (T : List Nd) (ht : Tfix (fun W => Fr (foot b sv mb) w W) v T) (hb : Tb T) (hl : L.length + 200 ≤ 1048576) :
    Calls Tryz.prog 31 #[.func (.func 24) #[.pointer (some ⟨b, 0, none⟩)] #[], .int .i64 g, .int .i64 e, .agg #[v]] w fun e_ w' => ∃ lv', e_ = .returned (.tuple #[lv', .int .i64 0]) ∧ ∃ sv', DStep w w' b sv sv' mb (pubP L g e T).1 (.slice none 0 0) lv' (pubP L g e T).2 := by
  obtain ⟨a, c, rfl⟩ := ht.slice
  obtain ⟨N, hN⟩ : ∃ N, N = T.length := ⟨_, rfl⟩
  rw [← hN]
  have hNb : N ≤ 15 := by have := hb.len; omega
  obtain ⟨w0, hw0⟩ : ∃ w0, w0 = w.alloc (.cells #[.slice a N c] 25) := ⟨_, rfl⟩
  have x0 : Below w.heap.size w w0 := by rw [hw0]; exact bwA' _ _
  have k0 : w0.heap[w.heap.size]? = some (.cells #[.slice a N c] 25 (0, 0)) := by rw [hw0]; exact heap_alloc_new _ _
  have h0 := h.bw x0
  obtain ⟨w1, hw1⟩ : ∃ w1, w1 = w0.alloc (.cells #[.int .i64 g, .int .i64 e] 3) := ⟨_, rfl⟩
  have x1 : Below w0.heap.size w0 w1 := by rw [hw1]; exact bwA' _ _
  have K1 := scdata_any (h0.bw x1) (.slice none 0 0) [] (NRow.nil _ _) (.slice (some ⟨w0.heap.size, 0, none⟩) 2 2) [g, e] (by rw [hw1]; exact nums_new2 h0 (NRow.nil _ _) g e) (by intro z hz; simp at hz; rcases hz with rfl | rfl; exact hg; exact he) (by simp; omega) (by simp) (by simp)
  obtain ⟨P, hP⟩ : ∃ P, P = dats (L, []) [g, e] := ⟨_, rfl⟩
  have hPl := dats_len [g, e] (L, [])
  rw [← hP] at K1 hPl
  simp only [List.length_cons, List.length_nil] at hPl
  have HK1 : Hid (Calls Tryz.prog 62 #[.func (.func 24) #[.pointer (some ⟨b, 0, none⟩)] #[], .slice none 0 0, .slice (some ⟨w0.heap.size, 0, none⟩) 2 2] w1 fun e w' => ∃ lv', e = .returned (.tuple #[lv', .int .i64 0]) ∧ ∃ sv', DStep w w' b sv sv' mb P.1 (.slice none 0 0) lv' P.2 ∧ w'.heap[w.heap.size]? = some (.cells #[.slice a N c] 25 (0, 0))) := K1.mono (fun e w' hh => by
    obtain ⟨l', e1, s', d⟩ := hh
    exact ⟨l', e1, s', (d.before x1).before x0, fr_keep d.fr (h0.bw x1) (kept_blk k0 x1) (by decide) (by decide) (fun j hj => by cases hj)⟩)
  have HQ : Hid (pubP L g e T = pubK T P T.length) := by unfold Hid pubP; rw [hP]
  have HH := hide (And.intro h (And.intro ht (And.intro hb (And.intro hl hPl))))
  have HW0 := hide hw0
  have HW1 := hide hw1
  have HN := hide hN
  clear h ht hb hl hPl hw0 hw1 x0 x1 h0 K1 hP k0 hg he hN
  go_enter Tryz.func31, Tryz.ntmps31
  go_upto_region 1 with fail
  rw [← unhide HW0]
  go_wp2_with fail
  rw [← unhide HW1]
  refine (unhide HK1).mono ?_
  rintro e_ w2 ⟨lv2, rfl, sv2, d2, k2⟩
  have D2 := hide d2
  have c2 := blk_cell (i := 0) k2 rfl
  clear d2 HK1 HW0 HW1 k2
  go_wp2_with fail
  go_loopw [10, 11, 25] (fun lv ev iv wr => ∃ (k : Nat) (sv' : Value), k ≤ N ∧ iv = .int .i64 (k : Int) ∧ ev = .int .i64 0 ∧ Hid (DStep w wr b sv sv' mb (pubK T P k).1 (.slice none 0 0) lv (pubK T P k).2)) (fun _ _ iv _ => (N - intOf iv).toNat)
  case atStart => exact ⟨0, sv2, Nat.zero_le _, rfl, rfl, unhide D2⟩
  case round =>
    obtain ⟨k, sv', hk, rfl, rfl, HR⟩ := hrel
    by_cases hlt : k < N
    · obtain ⟨-, ht, hb, hl, hPl⟩ := unhide HH
      have hkT : k < T.length := by rw [← unhide HN]; exact hlt
      obtain ⟨gb, o, rfl, u, hC, hU⟩ : ∃ gb o, a = some ⟨gb, o, none⟩ ∧ ∃ u, NdC wr gb (o + k * 4) (ndAt T k) u ∧ ∀ W, Fr (foot b sv mb) w W → Nums W u (ndAt T k).un := by
        rcases ht with ⟨rfl, _⟩ | ⟨gb, o, c', us, e, hh⟩
        · simp at hkT
        · cases e
          refine ⟨gb, o, rfl, us k, (hh wr (by have := (unhide HR).sstep.fr; exact this) k hkT).1, fun W hW => (hh W hW k hkT).2⟩
      have hm := ndAt_mem hkT
      have hbu := hb.un _ hm
      have hbp := hb.pub _ hm
      have hbr := hb.rng _ hm
      have hlen := pubK_len T hb.un P k (by omega)
      have hq := pubK_succ T P k
      obtain ⟨Q, hQ⟩ : ∃ Q, Q = pubK T P k := ⟨_, rfl⟩
      rw [← hQ] at HR hlen hq
      obtain ⟨⟨pub, mem, ep, un⟩, hn⟩ : ∃ n, n = ndAt T k := ⟨_, rfl⟩
      rw [← hn] at hC hU hbu hbp hbr hq
      obtain ⟨ua, uc, rfl⟩ := nums_slice (hU w (Fr.refl _ _))
      simp only at hC hU hbu hbp hbr hq
      obtain ⟨cc0, cc1, cc2, cc3⟩ := hC
      simp only at cc0 cc1 cc2 cc3
      obtain ⟨UL, hUL⟩ : ∃ UL, UL = un.length := ⟨_, rfl⟩
      rw [← hUL] at cc3 hU
      by_cases hp0 : pub = 0
      · subst hp0
        have D2' : Hid (∀ ob, DStep w (wr.alloc ob) b sv sv' mb (pubK T P (k + 1)).1 (.slice none 0 0) u10 (pubK T P (k + 1)).2) := fun ob => by
          rw [hq, if_pos rfl]
          exact (unhide HR).bw (bwA' _ _)
        clear hb hl hPl hm hbu hbp hbr hlen hq hQ hn ht hU hUL HR hkT
        go_wp2_with fail
        go_roundw
        case rel => exact ⟨k + 1, sv', by omega, by go_num, rfl, unhide D2' _⟩
        case measure => simp only [intOf]; omega
      · have z1 : (pub == 0) = false := by simpa using hp0
        have z2 : decide (pub = 0) = false := by simpa using hp0
        obtain ⟨ob, hob⟩ : ∃ ob, ob = Obj.cells #[.int .i64 pub, .int .i64 mem, .int .i64 ep, .slice ua UL uc] 62 := ⟨_, rfl⟩
        have D3 : Hid (DStep w (wr.alloc ob) b sv sv' mb Q.1 (.slice none 0 0) u10 Q.2) := (unhide HR).bw (bwA' _ _)
        have KN := scnode_any (unhide D3).st u10 Q.2 (unhide D3).row k (by omega) ⟨pub, mem, ep, un⟩ (.slice ua UL uc) (fun W hW => hU W (by have := (unhide D3).frs hW; simpa [Value.ownBlock] using this)) hbr hbp hbu (by omega) (by omega)
        have HK : Hid (Calls Tryz.prog 63 #[.func (.func 24) #[.pointer (some ⟨b, 0, none⟩)] #[], u10, .int .i64 (k : Int), .agg #[.int .i64 pub, .int .i64 mem, .int .i64 ep, .slice ua UL uc]] (wr.alloc ob) fun e w' => ∃ lv', e = .returned (.tuple #[lv', .int .i64 0]) ∧ ∃ sv2, DStep w w' b sv sv2 mb (pubK T P (k + 1)).1 (.slice none 0 0) lv' (pubK T P (k + 1)).2) := KN.mono (fun e w' hh => by
          obtain ⟨l', e1, s', d⟩ := hh
          refine ⟨l', e1, s', ?_⟩
          rw [hq, if_neg hp0]
          exact (unhide D3).trans d)
        subst hob
        clear hb hl hPl hm hbu hbp hbr hlen hq hQ hn ht hU hUL HR hkT KN D3 hp0
        go_wp2_with fail
        refine (unhide HK).mono ?_
        rintro e_ w7 ⟨lv7, rfl, sv7, d7⟩
        have D7 := hide d7
        clear d7 HK
        go_wp2_with fail
        go_roundw
        case rel => exact ⟨k + 1, sv7, by omega, by go_num, rfl, D7⟩
        case measure => simp only [intOf]; omega
    · have e : k = N := by omega
      subst e
      clear hlt hk
      have D : Hid (DStep w wr b sv sv' mb (pubP L g e T).1 (.slice none 0 0) u10 (pubP L g e T).2) := by
        have := unhide HR
        rw [unhide HN] at this
        unfold Hid; rw [unhide HQ]; exact this
      clear HR
      go_wp2
      go_ret2
      exact ⟨u10, rfl, sv', unhide D⟩
end Go.Proofs.YtcbafeneaoaglaaGreatDoor.Tn

/- The contracts of sched.digest and hold.Tree. -/
namespace Go.Proofs.YtcbafeneaoaglaaGreatDoor.Tn
open Go.RowKit Go.Maps

def digF : List Tm → List Nat → Nat → List Tm × Nat
  | L, [], n => (L, n)
  | L, a :: r, n => digF (mkL L ⟨3, 0, (a : Int), (n : Int)⟩) r (mkN L ⟨3, 0, (a : Int), (n : Int)⟩)
def digP (L : List Tm) (acc : List Nat) : List Tm × Nat := match acc.reverse with | [] => (L, 0) | n :: r => digF L r n
def dig (L : List Tm) (acc : List Nat) : List Tm × Nat := (mkL (digP L acc).1 ⟨7, 0, ((digP L acc).2 : Int), 0⟩, mkN (digP L acc).1 ⟨7, 0, ((digP L acc).2 : Int), 0⟩)
theorem may_hash {N : Nat} {a : Int} (ha : thr N a = true) : may N ⟨7, 0, a, 0⟩ = true := by
  unfold may
  simp [ha]
theorem ok_hash {a : Int} (h : 0 ≤ a ∧ a ≤ 1048577) : Tm.ok ⟨7, 0, a, 0⟩ := by
  constructor <;> simp <;> omega

set_option maxRecDepth 100000 in
set_option maxHeartbeats 4000000 in
theorem scdigest_any {b : Nat} {sv : Value} {mb : Nat} {L : List Tm} {w : World} (h : St w b sv mb L) (lv : Value) (acc : List Nat) (hr : NRow 0 w lv acc) (hne : acc ≠ []) (hrg : Rg L.length acc) (hl : L.length + acc.length ≤ 1048576) (hac : acc.length ≤ 1000) :
    Calls Tryz.prog 32 #[.func (.func 24) #[.pointer (some ⟨b, 0, none⟩)] #[], lv] w fun e w' => e = .returned (.tuple #[.int .i64 ((dig L acc).2 : Nat), .int .i64 0]) ∧ ∃ sv', SStep w w' b sv sv' mb (dig L acc).1 := by
  have hpos : 0 < acc.length := by cases acc with | nil => exact absurd rfl hne | cons _ _ => simp
  obtain ⟨g, cap, rfl⟩ : ∃ g cap, lv = .slice (some ⟨g, 0, none⟩) acc.length cap := by
    rcases hr.form with ⟨_, rfl⟩ | ⟨g, cap, hv, _⟩
    · simp at hpos
    · exact ⟨g, cap, hv⟩
  have hcell : ∀ W sv' L', SStep w W b sv sv' mb L' → ∀ (i m : Nat), acc[i]? = some m → W.cell? ⟨g, i, none⟩ = some (.int .i64 (m : Int)) := fun W sv' L' s i m hi => by
    have := hr.keep (w' := W) (fun k hk => s.fr.block k (hr.lt k hk).2 (hr.foot h k hk))
    exact this.at rfl hi
  obtain ⟨q, hq⟩ : ∃ q, acc.length = q + 1 := ⟨acc.length - 1, by omega⟩
  obtain ⟨n0, hn0⟩ : ∃ z, acc[q]? = some z := ⟨_, List.getElem?_eq_getElem (by omega)⟩
  have hstart : digF L (acc.take q).reverse n0 = digP L acc := by
    have e : acc = acc.take q ++ [n0] := by
      have e1 : acc.take (q + 1) = acc := List.take_of_length_le (by omega)
      rw [List.take_add_one, hn0] at e1
      exact e1.symm
    unfold digP
    conv => rhs; rw [e]
    rw [List.reverse_append]
    rfl
  rw [hq] at hl hac ⊢
  have hn1 := hrg n0 (List.mem_of_getElem? hn0)
  have cn := hcell w sv L (SStep.refl h) q n0 hn0
  have hqb : (q : Int) ≤ 1000 := by omega
  have HH := hide (And.intro h (And.intro hrg (And.intro hl (And.intro hq hcell))))
  have HS := hide hstart
  have HN1 := hide hn1
  clear h hr hne hrg hl hac hpos hcell hstart hn0 hn1
  obtain ⟨DP, hDP⟩ : ∃ DP, DP = digP L acc := ⟨_, rfl⟩
  have HDG : Hid (dig L acc = (mkL DP.1 ⟨7, 0, (DP.2 : Int), 0⟩, mkN DP.1 ⟨7, 0, (DP.2 : Int), 0⟩)) := by unfold Hid dig; rw [hDP]
  rw [← hDP] at HS
  clear hDP
  generalize dig L acc = DG at *
  go_enter Tryz.func32, Tryz.ntmps32
  go_wp2_with fail
  go_loopw [6, 7] (fun nv iv wq => ∃ (j : Nat) (L' : List Tm) (sv' : Value) (n : Nat), j ≤ q ∧ iv = .int .i64 ((j : Int) - 1) ∧ nv = .int .i64 (n : Int) ∧ Hid (digF L' (acc.take j).reverse n = DP ∧ SStep w wq b sv sv' mb L' ∧ L'.length + j ≤ L.length + q ∧ L.length ≤ L'.length ∧ 1 ≤ n ∧ n ≤ L'.length)) (fun _ iv _ => (intOf iv + 1).toNat)
  case atStart => exact ⟨q, L, sv, n0, Nat.le_refl _, by go_num, rfl, ⟨unhide HS, SStep.refl (unhide HH).1, Nat.le_refl _, Nat.le_refl _, unhide HN1⟩⟩
  case round =>
    obtain ⟨j, L', sv', n, hj, rfl, rfl, HR⟩ := hrel
    rcases Nat.eq_zero_or_pos j with hj0 | hj0
    · subst hj0
      obtain ⟨hF, hst, hl1, hl2, hn⟩ := unhide HR
      have e : DP = (L', n) := by rw [← hF]; rfl
      have tn : thr L'.length (n : Int) = true := thr_iff.2 (by omega)
      have hl := (unhide HH).2.2.1
      have KM := hide (make_ok hst.st 7 0 (n : Int) 0 (ok_hash (by omega)) (may_hash tn) (by omega))
      have HG : Hid (DG = (mkL L' ⟨7, 0, (n : Int), 0⟩, mkN L' ⟨7, 0, (n : Int), 0⟩)) := by unfold Hid; rw [unhide HDG, e]
      have HST := hide hst
      clear HR hF hst hl1 hl2 hn e tn hl HDG
      go_wp2_with fail
      refine (unhide KM).mono ?_
      rintro e w4 ⟨rfl, sv4, s4⟩
      have S4 := hide ((unhide HST).trans s4)
      clear KM s4
      go_wp2
      go_ret2
      refine ⟨?_, sv4, ?_⟩
      · rw [unhide HG]; rfl
      · rw [unhide HG]; exact unhide S4
    · obtain ⟨j', rfl⟩ : ∃ j', j = j' + 1 := ⟨j - 1, by omega⟩
      obtain ⟨hF, hst, hl1, hl2, hn⟩ := unhide HR
      obtain ⟨-, hrg, hl, hq, hcell⟩ := unhide HH
      obtain ⟨z, hzj⟩ : ∃ z, acc[j']? = some z := ⟨_, List.getElem?_eq_getElem (by omega)⟩
      have hz := hrg z (List.mem_of_getElem? hzj)
      have cz := hcell wr sv' L' hst j' z hzj
      have htk : (acc.take (j' + 1)).reverse = z :: (acc.take j').reverse := by rw [List.take_add_one, hzj]; simp
      rw [htk] at hF
      have hm : may L'.length ⟨3, 0, (z : Int), (n : Int)⟩ = true := may_pair (thr_iff.2 (by omega)) (thr_iff.2 (by omega))
      have KM := hide (make_ok hst.st 3 0 (z : Int) (n : Int) (ok_pair (by omega)) hm (by omega))
      have tn := thr_iff.1 (mkN_thr hm (by omega)).1
      have lm := mkL_len L' ⟨3, 0, (z : Int), (n : Int)⟩
      have lm2 := mkL_le L' ⟨3, 0, (z : Int), (n : Int)⟩
      obtain ⟨nn, hnn⟩ : ∃ nn : Nat, nn = mkN L' ⟨3, 0, (z : Int), (n : Int)⟩ := ⟨_, rfl⟩
      obtain ⟨LL, hLL⟩ : ∃ LL, LL = mkL L' ⟨3, 0, (z : Int), (n : Int)⟩ := ⟨_, rfl⟩
      have hF2 : digF LL (acc.take j').reverse nn = DP := by rw [hLL, hnn]; exact hF
      rw [← hnn, ← hLL] at KM
      rw [← hnn, ← hLL] at tn
      rw [← hLL] at lm lm2
      have HX : Hid (digF LL (acc.take j').reverse nn = DP ∧ LL.length + j' ≤ L.length + q ∧ L.length ≤ LL.length ∧ 1 ≤ nn ∧ nn ≤ LL.length) := ⟨hF2, by omega, by omega, by omega, by omega⟩
      have HST := hide hst
      have hjq : (j' : Int) < (q : Int) + 1 := by omega
      have hjb : (j' : Int) ≤ 1000 := by omega
      clear HR hF hst hl1 hl2 hn hrg hl hq hcell hzj hz htk hm tn lm lm2 hnn hLL hF2
      go_wp2_with fail
      refine (unhide KM).mono ?_
      rintro e w4 ⟨rfl, sv4, s4⟩
      have S4 := hide ((unhide HST).trans s4)
      clear KM s4
      go_wp2_with fail
      go_roundw
      case rel => exact ⟨j', LL, sv4, nn, by omega, by go_num, rfl, ⟨(unhide HX).1, unhide S4, (unhide HX).2⟩⟩
      case measure => simp only [intOf]; omega

/-- Is a tree held by a store? -/
def heldB (L : List Tm) (T : List Nd) : Bool := mayB T && T.all (fun n => decide (n.pub = 0) || thr L.length n.pub)
set_option maxRecDepth 100000 in
set_option maxHeartbeats 4000000 in
theorem htree_any {b : Nat} {sv : Value} {mb : Nat} {L : List Tm} {w : World} (h : St w b sv mb L) (v : Value) (T : List Nd) (ht : Trd w v T) (hT : Tab w) :
    Calls Tryz.prog 28 #[.pointer (some ⟨b, 0, none⟩), .agg #[v]] w fun e w' => e = .returned (.bool (heldB L T)) ∧ Below w.heap.size w w' := by
  obtain ⟨a, c, rfl⟩ := ht.slice
  obtain ⟨w0, hw0⟩ : ∃ w0, w0 = w.alloc (.cells #[.slice a T.length c] 25) := ⟨_, rfl⟩
  have x0 : Below w.heap.size w w0 := by rw [hw0]; exact bwA' _ _
  have k0 : w0.heap[w.heap.size]? = some (.cells #[.slice a T.length c] 25 (0, 0)) := by rw [hw0]; exact heap_alloc_new _ _
  have KC := check_any (ht.bw x0) (hT.bw x0)
  obtain ⟨-, hat⟩ := ht.at
  obtain ⟨N, hN⟩ : ∃ N, N = T.length := ⟨_, rfl⟩
  have hlen := ht.len
  rw [← hN] at KC k0 hw0 hlen ⊢
  have HW := hide hw0
  have HK0 := hide k0
  have HH := hide (And.intro h (And.intro hat hN))
  have X0 := hide x0
  have c0 := blk_cell (i := 0) k0 rfl
  cases hm : mayB T
  · have e : heldB L T = false := by simp [heldB, hm]
    rw [e]
    rw [hm] at KC
    have HC := hide KC
    clear e hm KC h ht hT hw0 x0 k0 hat hN
    go_enter Tryz.func28, Tryz.ntmps28
    go_upto_region 1 with fail
    rw [← unhide HW]
    go_wp2_with fail
    refine (unhide HC).mono ?_
    rintro e w1 ⟨rfl, y⟩
    go_wp2
    go_ret
    exact ⟨rfl, bw_tr (unhide X0) y⟩
  · rw [hm] at KC
    have HC := hide KC
    have HM := hide hm
    have hNI : (N : Int) ≤ 140737488355328 := by omega
    clear hm KC h ht hT hw0 x0 k0 hat hN
    go_enter Tryz.func28, Tryz.ntmps28
    go_upto_region 1 with fail
    rw [← unhide HW]
    go_wp2_with fail
    refine (unhide HC).mono ?_
    rintro e w1 ⟨rfl, y⟩
    have c1 := blk_cell (i := 0) (kept_blk (unhide HK0) y) rfl
    have B1 := hide (bw_tr (unhide X0) y)
    clear c0 HC y
    go_wp2_with fail
    go_loopw [13] (fun iv wr => ∃ k : Nat, k ≤ N ∧ iv = .int .i64 (k : Int) ∧ Hid (Below w.heap.size w wr ∧ (T.take k).all (fun n => decide (n.pub = 0) || thr L.length n.pub) = true)) (fun iv _ => (N - intOf iv).toNat)
    case atStart => exact ⟨0, Nat.zero_le _, rfl, ⟨unhide B1, by simp⟩⟩
    case round =>
      obtain ⟨k, hk, rfl, HR⟩ := hrel
      by_cases hlt : k < N
      · obtain ⟨h, hat, hN⟩ := unhide HH
        obtain ⟨hbw, hal⟩ := unhide HR
        have hkT : k < T.length := by omega
        obtain ⟨gb, o, rfl, hh⟩ := hat (by omega)
        obtain ⟨u, ⟨cc0, cc1, cc2, cc3⟩, hU⟩ := hh wr hbw k hkT
        have hnd := ndAt_of hkT
        obtain ⟨⟨pub, mem, ep, un⟩, hn⟩ : ∃ n, n = ndAt T k := ⟨_, rfl⟩
        rw [← hn] at cc0 cc1 cc2 hnd hU
        simp only at cc0 cc1 cc2 hU
        obtain ⟨ua, uc, rfl⟩ := nums_slice hU
        obtain ⟨UL, hUL⟩ : ∃ UL, UL = un.length := ⟨_, rfl⟩
        rw [← hUL] at cc3
        clear hU
        have htk : (T.take (k + 1)).all (fun n => decide (n.pub = 0) || thr L.length n.pub) = (decide (pub = 0) || thr L.length pub) := by
          rw [List.take_add_one, hnd]
          simp only [Option.toList_some, List.all_append, hal, List.all_cons, List.all_nil, Bool.true_and, Bool.and_true]
        by_cases hp0 : pub = 0
        · subst hp0
          have HX : Hid (∀ ob, Below w.heap.size w (wr.alloc ob) ∧ (T.take (k + 1)).all (fun n => decide (n.pub = 0) || thr L.length n.pub) = true) := fun ob => ⟨hbw.alloc hbw.size _, by rw [htk]; simp⟩
          clear h hat hN hbw hal hkT hh hnd hn htk HR hUL
          go_wp2_with fail
          go_roundw
          case rel => exact ⟨k + 1, by omega, by go_num, unhide HX _⟩
          case measure => simp only [intOf]; omega
        · have z1 : (pub == 0) = false := by simpa using hp0
          have z2 : decide (pub = 0) = false := by simpa using hp0
          have z3 : (pub != 0) = true := by simpa using hp0
          rw [z2, Bool.false_or] at htk
          obtain ⟨ob, hob⟩ : ∃ ob, ob = Obj.cells #[.int .i64 pub, .int .i64 mem, .int .i64 ep, .slice ua UL uc] 62 := ⟨_, rfl⟩
          have hb2 : Below w.heap.size w (wr.alloc ob) := hbw.alloc hbw.size _
          have KH := hhas_any (h.bw hb2) pub
          cases htp : thr L.length pub
          · have e : heldB L T = false := by
              unfold heldB
              rw [Bool.and_eq_false_iff]
              right
              rw [List.all_eq_false]
              exact ⟨_, List.mem_of_getElem? hnd, by simp [z2, htp]⟩
            rw [htp] at KH
            have HK := hide KH
            have HE := hide e
            have HB2 := hide hb2
            subst hob
            clear h hat hN hbw hal hkT hh hnd hn htk HR hUL KH e hb2 htp
            go_wp2_with fail
            refine (unhide HK).mono ?_
            rintro e w7 ⟨rfl, y⟩
            go_wp2
            go_ret
            rw [unhide HE]
            exact ⟨rfl, bw_tr (unhide HB2) y⟩
          · rw [htp] at KH htk
            have HK := hide KH
            have HX : Hid (∀ W, Below (wr.alloc ob).heap.size (wr.alloc ob) W → Below w.heap.size w W ∧ (T.take (k + 1)).all (fun n => decide (n.pub = 0) || thr L.length n.pub) = true) := fun W hW => ⟨bw_tr hb2 hW, htk⟩
            subst hob
            clear h hat hN hbw hal hkT hh hnd hn htk HR hUL KH hb2 htp
            go_wp2_with fail
            refine (unhide HK).mono ?_
            rintro e w7 ⟨rfl, y⟩
            have HX2 := hide (unhide HX _ y)
            clear y HX HK
            go_wp2_with fail
            go_roundw
            case rel => exact ⟨k + 1, by omega, by go_num, unhide HX2⟩
            case measure => simp only [intOf]; omega
      · have e : heldB L T = true := by
          have := (unhide HR).2
          rw [List.take_of_length_le (by have := (unhide HH).2.2; omega)] at this
          unfold heldB
          rw [unhide HM, this]; rfl
        have HE := hide e
        have HB := hide (unhide HR).1
        clear e HR
        go_wp2
        go_ret
        rw [unhide HE]
        exact ⟨rfl, unhide HB⟩
end Go.Proofs.YtcbafeneaoaglaaGreatDoor.Tn
