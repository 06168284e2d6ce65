/- Package account: who comes in, in memory; hasPubs; change. -/
import Derived.Test.YtokdflbajnecpaaAcB
namespace Go.Proofs.Ytokdflbajnecpaa.Tn.Ax
open Go.RowKit Go.Maps

structure Ad where
  m : Int
  e : Int
  p : Int
def Ad.ok (a : Ad) : Prop := i64r a.m ∧ i64r a.e ∧ i64r a.p
def AAt (w : World) (g o : Nat) (a : Ad) : Prop :=
  w.cell? ⟨g, o, none⟩ = some (.int .i64 a.m) ∧ w.cell? ⟨g, o + 1, none⟩ = some (.int .i64 a.e) ∧ w.cell? ⟨g, o + 2, none⟩ = some (.int .i64 a.p)
/-- A slice that reads as these who come in. -/
def Ads (w : World) (v : Value) (l : List Ad) : Prop :=
  ∃ a cap, v = .slice a l.length cap ∧ l.length ≤ 140737488355328 ∧ (∀ x ∈ l, x.ok) ∧ (l = [] ∨ ∃ g o, a = some ⟨g, o, none⟩ ∧ ∀ i t, l[i]? = some t → AAt w g (o + i * 3) t)
theorem AAt.keep {w w' : World} {g o : Nat} {t : Ad} (h : AAt w g o t) (hb : w'.heap[g]? = w.heap[g]?) : AAt w' g o t := by
  unfold AAt World.cell? at *
  rw [hb]; exact h
theorem AAt.lt {w : World} {g o : Nat} {t : Ad} (h : AAt w g o t) : g < w.heap.size := lt_of_cell h.1
theorem Ads.fr {S : List Nat} {w w' : World} {v : Value} {l : List Ad} (h : Ads w v l) (hb : Fr S w w') (hS : ∀ k, v.ownBlock = some k → k ∉ S) : Ads w' v l := by
  obtain ⟨a, cap, rfl, hl, hz, hc⟩ := h
  refine ⟨a, cap, rfl, hl, hz, ?_⟩
  rcases hc with hc | ⟨g, o, rfl, hc⟩
  · exact Or.inl hc
  · exact Or.inr ⟨g, o, rfl, fun i t ht => (hc i t ht).keep (hb.block g (hc i t ht).lt (hS g rfl))⟩
theorem Ads.bw {w w' : World} {v : Value} {l : List Ad} (h : Ads w v l) (hb : Below w.heap.size w w') : Ads w' v l := h.fr (Fr.ofBelow hb) (by simp)
theorem Ads.get {w : World} {a : Option Addr} {n cap : Nat} {l : List Ad} (h : Ads w (.slice a n cap) l) {i : Nat} {x : Ad} (hi : l[i]? = some x) : ∃ g o, a = some ⟨g, o, none⟩ ∧ AAt w g (o + i * 3) x := by
  obtain ⟨a', cap', hv, -, -, hc⟩ := h
  cases hv
  rcases hc with hc | ⟨g, o, rfl, hc⟩
  · rw [hc] at hi; simp at hi
  · exact ⟨g, o, rfl, hc i x hi⟩
theorem nis_shape {w : World} {v : Value} {l : List Int} (h : NIs w v l) : ∃ a cap, v = .slice a l.length cap := by obtain ⟨a, cap, h, -⟩ := h; exact ⟨a, cap, h⟩
theorem Ads.shape {w : World} {v : Value} {l : List Ad} (h : Ads w v l) : ∃ a cap, v = .slice a l.length cap := by obtain ⟨a, cap, h, -⟩ := h; exact ⟨a, cap, h⟩

def pubs (N : Nat) (l : List Ad) : Bool := l.all fun a => thr N a.p
set_option maxRecDepth 100000 in
set_option maxHeartbeats 4000000 in
theorem haspubs_any {b : Nat} {sv : Value} {mb : Nat} {L : List Tm} {w : World} (h : St w b sv mb L) (va : Value) (l : List Ad) (hv : Ads w va l) :
    Calls Try.prog 32 #[.pointer (some ⟨b, 0, none⟩), va] w fun e w' => e = .returned (.bool (pubs L.length l)) ∧ Below w.heap.size w w' := by
  obtain ⟨a, cap, rfl⟩ := hv.shape
  obtain ⟨N, hN⟩ : ∃ N, N = l.length := ⟨_, rfl⟩
  have hlen : l.length ≤ 140737488355328 := by obtain ⟨_, _, _, h, _⟩ := hv; exact h
  rw [← hN] at hv ⊢
  have hNb : (N : Int) ≤ 140737488355328 := by omega
  have HN := hide hN
  have HH := hide (And.intro h hv)
  obtain ⟨R, hR⟩ : ∃ R, R = pubs L.length l := ⟨_, rfl⟩
  rw [← hR]
  have HRR := hide hR
  clear hN h hv hlen hR
  go_enter Try.func32, Try.ntmps32
  go_wp2_with fail
  go_loopw [9] (fun iv wr => ∃ (k : Nat), k ≤ N ∧ iv = .int .i64 (k : Int) ∧ Hid (Below w.heap.size w wr ∧ ∀ i x, i < k → l[i]? = some x → thr L.length x.p = true)) (fun iv _ => (N - intOf iv).toNat)
  case atStart => exact ⟨0, Nat.zero_le _, rfl, Below.refl _ _, fun i x hi => by omega⟩
  case round =>
    obtain ⟨k, hk, rfl, HR⟩ := hrel
    by_cases hlt : k < N
    · obtain ⟨z, hzk⟩ : ∃ z, l[k]? = some z := ⟨_, List.getElem?_eq_getElem (by rw [← unhide HN]; exact hlt)⟩
      obtain ⟨hb, hp⟩ := unhide HR
      obtain ⟨g, o, rfl, c0, c1, c2⟩ := ((unhide HH).2.bw hb).get hzk
      obtain ⟨m, e, p⟩ := z
      simp only at c0 c1 c2
      have hst := (unhide HH).1.bw hb
      obtain ⟨r, hr⟩ : ∃ r, r = thr L.length p := ⟨_, rfl⟩
      have KH : Hid (∀ W, Below wr.heap.size wr W → Calls Try.prog 39 #[.pointer (some ⟨b, 0, none⟩), .int .i64 p] W fun e w' => e = .returned (.bool r) ∧ Below W.heap.size W w') := fun W hW => by rw [hr]; exact hhas_any (hst.bw hW) p
      have HB := hide hb
      have HP := hide (And.intro hp (And.intro hzk hr))
      clear hb hp hst hzk hr HR
      go_wp2_with fail
      refine (unhide KH _ (bwA' _ _)).mono ?_
      rintro e2 w2 ⟨rfl, b2⟩
      have B2 : Hid (Below w.heap.size w w2) := bw_tr ((unhide HB).alloc (unhide HB).size _) b2
      clear KH b2 HB c0 c1 c2
      cases r
      · obtain rfl : R = false := by
          rw [unhide HRR]
          refine Bool.eq_false_iff.2 (fun c => ?_)
          have := List.all_eq_true.1 c _ (List.mem_of_getElem? (unhide HP).2.1)
          rw [← (unhide HP).2.2] at this
          cases this
        clear HP HRR HH HN
        go_wp2
        go_ret
        exact ⟨rfl, unhide B2⟩
      · have HR2 : Hid (Below w.heap.size w w2 ∧ ∀ i x, i < k + 1 → l[i]? = some x → thr L.length x.p = true) := ⟨unhide B2, fun i x hi hx => by
          rcases Nat.lt_or_ge i k with q | q
          · exact (unhide HP).1 i x q hx
          · obtain rfl : i = k := by omega
            rw [(unhide HP).2.1] at hx
            cases hx
            exact (unhide HP).2.2.symm⟩
        clear HP B2
        go_wp2_with fail
        go_roundw
        case rel => exact ⟨k + 1, by omega, by go_num, HR2⟩
        case measure => simp only [intOf]; omega
    · have e : k = N := by omega
      subst e
      obtain rfl : R = true := by
        rw [unhide HRR]
        refine List.all_eq_true.2 (fun x hx => ?_)
        obtain ⟨i, hi, rfl⟩ := List.getElem_of_mem hx
        exact (unhide HR).2 i _ (by have := unhide HN; omega) (List.getElem?_eq_getElem hi)
      have B := hide (unhide HR).1
      clear HR HRR HH HN
      go_wp2
      go_ret
      exact ⟨rfl, unhide B⟩

/-- What a digest is the hash of, plainly. -/
def adP (P : List Tm × List Nat) (a : Ad) : List Tm × List Nat := ((dats P [a.m, a.e]).1, (dats P [a.m, a.e]).2 ++ [a.p.toNat])
def adsP (P : List Tm × List Nat) (l : List Ad) : List Tm × List Nat := l.foldl adP P
def chP (L : List Tm) (adds : List Ad) (rem : List Int) : List Tm × List Nat := dats (dats (adsP (dats (L, []) [(adds.length : Int)]) adds) [(rem.length : Int)]) rem
theorem adP_len (P : List Tm × List Nat) (a : Ad) : (adP P a).1.length ≤ P.1.length + 2 ∧ P.1.length ≤ (adP P a).1.length ∧ (adP P a).2.length = P.2.length + 3 := by
  have := dats_len [a.m, a.e] P
  simp only [List.length_cons, List.length_nil] at this
  exact ⟨by show (dats P [a.m, a.e]).1.length ≤ _; omega, by show _ ≤ (dats P [a.m, a.e]).1.length; omega, by simp [adP]; omega⟩
theorem adsP_len (l : List Ad) : ∀ P : List Tm × List Nat, (adsP P l).1.length ≤ P.1.length + 2 * l.length ∧ P.1.length ≤ (adsP P l).1.length ∧ (adsP P l).2.length = P.2.length + 3 * l.length := by
  induction l with
  | nil => intro P; simp [adsP]
  | cons a r ih =>
    intro P
    have h := ih (adP P a)
    have k := adP_len P a
    have e : adsP P (a :: r) = adsP (adP P a) r := rfl
    rw [e]
    simp only [List.length_cons]
    omega
theorem adsP_snoc (P : List Tm × List Nat) (l : List Ad) (k : Nat) (a : Ad) (h : l[k]? = some a) : adsP P (l.take (k + 1)) = adP (adsP P (l.take k)) a := by
  unfold adsP
  rw [List.take_add_one, h]
  simp
theorem Rg.adP {P : List Tm × List Nat} (h : Rg P.1.length P.2) (a : Ad) (N : Nat) (ha : thr N a.p = true) (hN : N ≤ P.1.length) (hl : P.1.length + 2 ≤ 1048576) : Rg (adP P a).1.length (adP P a).2 := by
  refine (h.dats [a.m, a.e] (by simpa using hl)).snoc ?_
  have := thr_iff.1 ha
  have := (dats_len [a.m, a.e] P).2.1
  omega
theorem Rg.adsP (l : List Ad) (N : Nat) : ∀ {P : List Tm × List Nat}, Rg P.1.length P.2 → (∀ a ∈ l, thr N a.p = true) → N ≤ P.1.length → P.1.length + 2 * l.length ≤ 1048576 → Rg (Ax.adsP P l).1.length (Ax.adsP P l).2 := by
  induction l with
  | nil => intro P h _ _ _; exact h
  | cons a r ih =>
    intro P h ha hN hl
    simp only [List.length_cons] at hl
    have k := adP_len P a
    exact ih (h.adP a N (ha a (by simp)) hN (by omega)) (fun x hx => ha x (by simp [hx])) (by omega) (by omega)
theorem Rg.nil (N : Nat) : Rg N [] := fun m hm => by cases hm
theorem chP_len (L : List Tm) (adds : List Ad) (rem : List Int) : (chP L adds rem).1.length ≤ L.length + 2 + 2 * adds.length + rem.length ∧ L.length ≤ (chP L adds rem).1.length ∧ (chP L adds rem).2.length = 2 + 3 * adds.length + rem.length := by
  have h1 := dats_len [(adds.length : Int)] (L, [])
  have h2 := adsP_len adds (dats (L, []) [(adds.length : Int)])
  have h3 := dats_len [(rem.length : Int)] (adsP (dats (L, []) [(adds.length : Int)]) adds)
  have h4 := dats_len rem (dats (adsP (dats (L, []) [(adds.length : Int)]) adds) [(rem.length : Int)])
  simp only [List.length_cons, List.length_nil] at h1 h2 h3 h4
  unfold chP
  omega
theorem chP_rg {L : List Tm} {adds : List Ad} (rem : List Int) (ha : ∀ a ∈ adds, thr L.length a.p = true) (hl : L.length + 2 + 2 * adds.length + rem.length ≤ 1048576) : Rg (chP L adds rem).1.length (chP L adds rem).2 := by
  have h1 := dats_len [(adds.length : Int)] (L, [])
  have h2 := adsP_len adds (dats (L, []) [(adds.length : Int)])
  have h3 := dats_len [(rem.length : Int)] (adsP (dats (L, []) [(adds.length : Int)]) adds)
  simp only [List.length_cons, List.length_nil] at h1 h2 h3
  have r1 := Rg.dats [(adds.length : Int)] (p := (L, [])) (Rg.nil _) (by simp; omega)
  have r2 := Rg.adsP adds L.length r1 ha (by omega) (by omega)
  have r3 := Rg.dats [(rem.length : Int)] r2 (by simp; omega)
  exact Rg.dats rem r3 (by omega)
end Go.Proofs.Ytokdflbajnecpaa.Tn.Ax
