/- The contract of sched.public: the list of what a context is the digest of. -/
import Derived.Test.YtcbafeneaoaglaaGreatDoorScF
namespace Go.Proofs.YtcbafeneaoaglaaGreatDoor.Tn
open Go.RowKit Go.Maps

/-- A tree that reads as it does in all worlds of a kind, at the same places. -/
def Tfix (F : World → Prop) (v : Value) (T : List Nd) : Prop :=
  (T = [] ∧ ∃ a c, v = .slice a 0 c) ∨ ∃ g o c, ∃ us : Nat → Value, v = .slice (some ⟨g, o, none⟩) T.length c ∧ ∀ W, F W → ∀ i, i < T.length → NdC W g (o + i * 4) (ndAt T i) (us i) ∧ Nums W (us i) (ndAt T i).un
theorem Tfix.slice {F : World → Prop} {v : Value} {T : List Nd} (h : Tfix F v T) : ∃ a c, v = .slice a T.length c := by
  rcases h with ⟨rfl, a, c, rfl⟩ | ⟨g, o, c, us, rfl, _⟩
  · exact ⟨a, c, rfl⟩
  · exact ⟨_, c, rfl⟩
theorem Tfix.mono {F G : World → Prop} {v : Value} {T : List Nd} (h : Tfix F v T) (hG : ∀ W, G W → F W) : Tfix G v T := by
  rcases h with h | ⟨g, o, c, us, e, hh⟩
  · exact Or.inl h
  · exact Or.inr ⟨g, o, c, us, e, fun W hW => hh W (hG W hW)⟩
/-- The numbers of a tree. -/
structure Tb (T : List Nd) : Prop where
  len : T.length ≤ 15
  un : ∀ x ∈ T, x.un.length ≤ 8
  pub : ∀ x ∈ T, 0 ≤ x.pub
  rng : ∀ x ∈ T, (∀ z ∈ x.un, -9223372036854775808 ≤ z ∧ z ≤ 9223372036854775807) ∧ (-9223372036854775808 ≤ x.mem ∧ x.mem ≤ 9223372036854775807) ∧ (-9223372036854775808 ≤ x.ep ∧ x.ep ≤ 9223372036854775807)

def pubK (T : List Nd) (p : List Tm × List Nat) (k : Nat) : List Tm × List Nat := (List.range k).foldl (fun p i => if (ndAt T i).pub = 0 then p else nod p i (ndAt T i)) p
def pubP (L : List Tm) (g e : Int) (T : List Nd) : List Tm × List Nat := pubK T (dats (L, []) [g, e]) T.length
theorem pubK_succ (T : List Nd) (p : List Tm × List Nat) (k : Nat) : pubK T p (k + 1) = if (ndAt T k).pub = 0 then pubK T p k else nod (pubK T p k) k (ndAt T k) := by
  unfold pubK
  rw [List.range_succ, List.foldl_append]
  rfl
theorem nod_len (p : List Tm × List Nat) (x : Nat) (n : Nd) (h : n.un.length ≤ 8) : (nod p x n).1.length ≤ p.1.length + 9 ∧ p.1.length ≤ (nod p x n).1.length ∧ (nod p x n).2.length ≤ p.2.length + 10 := by
  have h1 := dat_len p (x : Int)
  have h2 := dats_len (if x % 2 = 0 then [n.mem, n.ep] else n.un) (nodP p x n.pub.toNat)
  have h3 : (if x % 2 = 0 then [n.mem, n.ep] else n.un).length ≤ 8 := by split; simp; exact h
  unfold nod
  have h4 : (nodP p x n.pub.toNat).1.length = (dat p (x : Int)).1.length ∧ (nodP p x n.pub.toNat).2.length = (dat p (x : Int)).2.length + 1 := by simp [nodP]
  omega
theorem pubK_len (T : List Nd) (hT : ∀ x ∈ T, x.un.length ≤ 8) (p : List Tm × List Nat) : ∀ k, k ≤ T.length → (pubK T p k).1.length ≤ p.1.length + 9 * k ∧ p.1.length ≤ (pubK T p k).1.length ∧ (pubK T p k).2.length ≤ p.2.length + 10 * k := by
  intro k
  induction k with
  | zero => intro _; simp [pubK]
  | succ k ih =>
    intro hk
    have h := ih (by omega)
    rw [pubK_succ]
    split
    · omega
    · have := nod_len (pubK T p k) k (ndAt T k) (hT _ (ndAt_mem (by omega)))
      omega

set_option maxRecDepth 100000 in
set_option maxHeartbeats 4000000 in
theorem scpublic_any {b : Nat} {sv : Value} {mb : Nat} {L : List Tm} {w : World} (h : St w b sv mb L) (g e : Int) (hg : -9223372036854775808 ≤ g ∧ g ≤ 9223372036854775807) (he : -9223372036854775808 ≤ e ∧ e ≤ 9223372036854775807) (v : Value) (T : List Nd) (ht : Tfix (fun W => Fr (foot b sv mb) w W) v T) (hb : Tb T) (hl : L.length + 200 ≤ 1048576) :
    Calls Tryz.prog 31 #[.func (.func 24) #[.pointer (some ⟨b, 0, none⟩)] #[], .int .i64 g, .int .i64 e, .agg #[v]] w fun e_ w' => ∃ lv', e_ = .returned (.tuple #[lv', .int .i64 0]) ∧ ∃ sv', DStep w w' b sv sv' mb (pubP L g e T).1 (.slice none 0 0) lv' (pubP L g e T).2 := by
  obtain ⟨a, c, rfl⟩ := ht.slice
  obtain ⟨N, hN⟩ : ∃ N, N = T.length := ⟨_, rfl⟩
  rw [← hN]
  have hNb : N ≤ 15 := by have := hb.len; omega
  obtain ⟨w0, hw0⟩ : ∃ w0, w0 = w.alloc (.cells #[.slice a N c] 25) := ⟨_, rfl⟩
  have x0 : Below w.heap.size w w0 := by rw [hw0]; exact bwA' _ _
  have k0 : w0.heap[w.heap.size]? = some (.cells #[.slice a N c] 25 (0, 0)) := by rw [hw0]; exact heap_alloc_new _ _
  have h0 := h.bw x0
  obtain ⟨w1, hw1⟩ : ∃ w1, w1 = w0.alloc (.cells #[.int .i64 g, .int .i64 e] 3) := ⟨_, rfl⟩
  have x1 : Below w0.heap.size w0 w1 := by rw [hw1]; exact bwA' _ _
  have K1 := scdata_any (h0.bw x1) (.slice none 0 0) [] (NRow.nil _ _) (.slice (some ⟨w0.heap.size, 0, none⟩) 2 2) [g, e] (by rw [hw1]; exact nums_new2 h0 (NRow.nil _ _) g e) (by intro z hz; simp at hz; rcases hz with rfl | rfl; exact hg; exact he) (by simp; omega) (by simp) (by simp)
  obtain ⟨P, hP⟩ : ∃ P, P = dats (L, []) [g, e] := ⟨_, rfl⟩
  have hPl := dats_len [g, e] (L, [])
  rw [← hP] at K1 hPl
  simp only [List.length_cons, List.length_nil] at hPl
  have HK1 : Hid (Calls Tryz.prog 62 #[.func (.func 24) #[.pointer (some ⟨b, 0, none⟩)] #[], .slice none 0 0, .slice (some ⟨w0.heap.size, 0, none⟩) 2 2] w1 fun e w' => ∃ lv', e = .returned (.tuple #[lv', .int .i64 0]) ∧ ∃ sv', DStep w w' b sv sv' mb P.1 (.slice none 0 0) lv' P.2 ∧ w'.heap[w.heap.size]? = some (.cells #[.slice a N c] 25 (0, 0))) := K1.mono (fun e w' hh => by
    obtain ⟨l', e1, s', d⟩ := hh
    exact ⟨l', e1, s', (d.before x1).before x0, fr_keep d.fr (h0.bw x1) (kept_blk k0 x1) (by decide) (by decide) (fun j hj => by cases hj)⟩)
  have HQ : Hid (pubP L g e T = pubK T P T.length) := by unfold Hid pubP; rw [hP]
  have HH := hide (And.intro h (And.intro ht (And.intro hb (And.intro hl hPl))))
  have HW0 := hide hw0
  have HW1 := hide hw1
  have HN := hide hN
  clear h ht hb hl hPl hw0 hw1 x0 x1 h0 K1 hP k0 hg he hN
  go_enter Tryz.func31, Tryz.ntmps31
  go_upto_region 1 with fail
  rw [← unhide HW0]
  go_wp2_with fail
  rw [← unhide HW1]
  refine (unhide HK1).mono ?_
  rintro e_ w2 ⟨lv2, rfl, sv2, d2, k2⟩
  have D2 := hide d2
  have c2 := blk_cell (i := 0) k2 rfl
  clear d2 HK1 HW0 HW1 k2
  go_wp2_with fail
  go_loopw [10, 11, 25] (fun lv ev iv wr => ∃ (k : Nat) (sv' : Value), k ≤ N ∧ iv = .int .i64 (k : Int) ∧ ev = .int .i64 0 ∧ Hid (DStep w wr b sv sv' mb (pubK T P k).1 (.slice none 0 0) lv (pubK T P k).2)) (fun _ _ iv _ => (N - intOf iv).toNat)
  case atStart => exact ⟨0, sv2, Nat.zero_le _, rfl, rfl, unhide D2⟩
  case round =>
    obtain ⟨k, sv', hk, rfl, rfl, HR⟩ := hrel
    by_cases hlt : k < N
    · obtain ⟨-, ht, hb, hl, hPl⟩ := unhide HH
      have hkT : k < T.length := by rw [← unhide HN]; exact hlt
      obtain ⟨gb, o, rfl, u, hC, hU⟩ : ∃ gb o, a = some ⟨gb, o, none⟩ ∧ ∃ u, NdC wr gb (o + k * 4) (ndAt T k) u ∧ ∀ W, Fr (foot b sv mb) w W → Nums W u (ndAt T k).un := by
        rcases ht with ⟨rfl, _⟩ | ⟨gb, o, c', us, e, hh⟩
        · simp at hkT
        · cases e
          refine ⟨gb, o, rfl, us k, (hh wr (by have := (unhide HR).sstep.fr; exact this) k hkT).1, fun W hW => (hh W hW k hkT).2⟩
      have hm := ndAt_mem hkT
      have hbu := hb.un _ hm
      have hbp := hb.pub _ hm
      have hbr := hb.rng _ hm
      have hlen := pubK_len T hb.un P k (by omega)
      have hq := pubK_succ T P k
      obtain ⟨Q, hQ⟩ : ∃ Q, Q = pubK T P k := ⟨_, rfl⟩
      rw [← hQ] at HR hlen hq
      obtain ⟨⟨pub, mem, ep, un⟩, hn⟩ : ∃ n, n = ndAt T k := ⟨_, rfl⟩
      rw [← hn] at hC hU hbu hbp hbr hq
      obtain ⟨ua, uc, rfl⟩ := nums_slice (hU w (Fr.refl _ _))
      simp only at hC hU hbu hbp hbr hq
      obtain ⟨cc0, cc1, cc2, cc3⟩ := hC
      simp only at cc0 cc1 cc2 cc3
      obtain ⟨UL, hUL⟩ : ∃ UL, UL = un.length := ⟨_, rfl⟩
      rw [← hUL] at cc3 hU
      by_cases hp0 : pub = 0
      · subst hp0
        have D2' : Hid (∀ ob, DStep w (wr.alloc ob) b sv sv' mb (pubK T P (k + 1)).1 (.slice none 0 0) u10 (pubK T P (k + 1)).2) := fun ob => by
          rw [hq, if_pos rfl]
          exact (unhide HR).bw (bwA' _ _)
        clear hb hl hPl hm hbu hbp hbr hlen hq hQ hn ht hU hUL HR hkT
        go_wp2_with fail
        go_roundw
        case rel => exact ⟨k + 1, sv', by omega, by go_num, rfl, unhide D2' _⟩
        case measure => simp only [intOf]; omega
      · have z1 : (pub == 0) = false := by simpa using hp0
        have z2 : decide (pub = 0) = false := by simpa using hp0
        obtain ⟨ob, hob⟩ : ∃ ob, ob = Obj.cells #[.int .i64 pub, .int .i64 mem, .int .i64 ep, .slice ua UL uc] 62 := ⟨_, rfl⟩
        have D3 : Hid (DStep w (wr.alloc ob) b sv sv' mb Q.1 (.slice none 0 0) u10 Q.2) := (unhide HR).bw (bwA' _ _)
        have KN := scnode_any (unhide D3).st u10 Q.2 (unhide D3).row k (by omega) ⟨pub, mem, ep, un⟩ (.slice ua UL uc) (fun W hW => hU W (by have := (unhide D3).frs hW; simpa [Value.ownBlock] using this)) hbr hbp hbu (by omega) (by omega)
        have HK : Hid (Calls Tryz.prog 63 #[.func (.func 24) #[.pointer (some ⟨b, 0, none⟩)] #[], u10, .int .i64 (k : Int), .agg #[.int .i64 pub, .int .i64 mem, .int .i64 ep, .slice ua UL uc]] (wr.alloc ob) fun e w' => ∃ lv', e = .returned (.tuple #[lv', .int .i64 0]) ∧ ∃ sv2, DStep w w' b sv sv2 mb (pubK T P (k + 1)).1 (.slice none 0 0) lv' (pubK T P (k + 1)).2) := KN.mono (fun e w' hh => by
          obtain ⟨l', e1, s', d⟩ := hh
          refine ⟨l', e1, s', ?_⟩
          rw [hq, if_neg hp0]
          exact (unhide D3).trans d)
        subst hob
        clear hb hl hPl hm hbu hbp hbr hlen hq hQ hn ht hU hUL HR hkT KN D3 hp0
        go_wp2_with fail
        refine (unhide HK).mono ?_
        rintro e_ w7 ⟨lv7, rfl, sv7, d7⟩
        have D7 := hide d7
        clear d7 HK
        go_wp2_with fail
        go_roundw
        case rel => exact ⟨k + 1, sv7, by omega, by go_num, rfl, D7⟩
        case measure => simp only [intOf]; omega
    · have e : k = N := by omega
      subst e
      clear hlt hk
      have D : Hid (DStep w wr b sv sv' mb (pubP L g e T).1 (.slice none 0 0) u10 (pubP L g e T).2) := by
        have := unhide HR
        rw [unhide HN] at this
        unfold Hid; rw [unhide HQ]; exact this
      clear HR
      go_wp2
      go_ret2
      exact ⟨u10, rfl, sv', unhide D⟩
end Go.Proofs.YtcbafeneaoaglaaGreatDoor.Tn
