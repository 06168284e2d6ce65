/- A pile that bears a list which rises: what Pop and Push make of it. -/
import Derived.Test.YtgiicendejgklaaZ24
import Derived.Test.YtgiicendejgklaaZ25
namespace Go.Proofs.Ytgiicendejgklaa
open Go.RowKit Go.Maps
structure Pq (w : World) (bp g n cap : Nat) (F : Nat → El) (L : List El) : Prop where
  pl : Pl w bp g n cap F
  hp : HP El.sq F n
  hs : HS F n L
  inj : ∀ i j, i < n → j < n → F i = F j → i = j
theorem Pl.blocks {w w' : World} {bp g n cap : Nat} {F : Nat → El} (h : Pl w bp g n cap F) (h1 : w'.heap[bp]? = w.heap[bp]?) (h2 : w'.heap[g]? = w.heap[g]?) (h3 : ∀ i, i < n → w'.cell? ⟨(F i).b, (F i).o, none⟩ = w.cell? ⟨(F i).b, (F i).o, none⟩) : Pl w' bp g n cap F := by
  obtain ⟨cur, k1, k2, k3⟩ := h.row
  exact ⟨by rw [h1]; exact h.blk, ⟨cur, by rw [h2]; exact k1, k2, k3⟩, h.le, h.mx, h.ne, fun i hi => by rw [h3 i hi]; exact h.sq i hi, h.ap⟩
theorem popR_any {w : World} {bp g n cap : Nat} {F : Nat → El} {a : El} {L : List El} (h : Pq w bp g (n + 1) cap F (a :: L)) (hr : ∀ b ∈ L, a.sq < b.sq) :
    Calls Try.prog 45 #[.iface 99 (.pointer (some ⟨bp, 0, none⟩))] w fun e w' => e = .returned (.iface 102 (ptrE a)) ∧ ∃ F', Pq w' bp g n cap F' L ∧ Fr [bp, g] w w' := by
  have h0 := h.hp.first h.hs hr
  refine (hpPop_any h.pl h.hp).mono ?_
  rintro e w' ⟨rfl, F', p1, p2, p3, p4⟩
  rw [h0]
  refine ⟨rfl, F', ⟨p1, p2, p3.1 _ (h.hs.pop h0 hr h.inj), p3.2 fun i j hi hj he => ?_⟩, p4⟩
  exact inj_sw h.inj (Nat.succ_pos n) (Nat.lt_succ_self n) i j (by omega) (by omega) he
theorem HS.push {F : Nat → El} {n : Nat} {L : List El} (h : HS F n L) (x : El) (k : Nat) : HS (fun t => if t = n then x else F t) (n + 1) (insAt L k x) := by
  refine ⟨by rw [insAt_len, h.len], fun t ht => ?_, fun a ha => ?_⟩
  · unfold insAt
    by_cases c : t = n
    · simp only [c, if_true]; simp
    · simp only [c, if_false]
      have := h.mem t (by omega)
      rw [← List.take_append_drop k L] at this
      simp only [List.mem_append, List.mem_cons] at this ⊢
      rcases this with q | q
      · exact Or.inl q
      · exact Or.inr (Or.inr q)
  · unfold insAt at ha
    simp only [List.mem_append, List.mem_cons] at ha
    have hm : a = x ∨ a ∈ L := by
      rcases ha with q | q | q
      · exact Or.inr (List.mem_of_mem_take q)
      · exact Or.inl q
      · exact Or.inr (List.mem_of_mem_drop q)
    rcases hm with rfl | q
    · exact ⟨n, by omega, by simp⟩
    · obtain ⟨i, hi, e⟩ := h.hit a q
      exact ⟨i, by omega, by simp only [show i ≠ n by omega, if_false]; exact e⟩
theorem pushR_any {w : World} {bp g n cap : Nat} {F : Nat → El} {L : List El} (h : Pq w bp g n cap F L) (hc : cap ≤ maxLen) (hn : n + 1 ≤ 1048576) {x : El} (hx : w.cell? ⟨x.b, x.o, none⟩ = some (.int .i64 x.sq)) (hxb : x.b ≠ bp ∧ x.b ≠ g) (hnew : ∀ a ∈ L, a ≠ x) (k : Nat) :
    Calls Try.prog 44 #[.iface 99 (.pointer (some ⟨bp, 0, none⟩)), .iface 102 (ptrE x)] w fun e w' => e = .returned (.tuple #[]) ∧ ∃ F' g' c', Pq w' bp g' (n + 1) c' F' (insAt L k x) ∧ Fr [bp, g] w w' ∧ (g' = g ∨ w.heap.size ≤ g') := by
  refine (hpPush_any h.pl h.hp hc hn hx hxb).mono ?_
  rintro e w' ⟨rfl, F', g', c', p1, p2, p3, p4, p5⟩
  refine ⟨rfl, F', g', c', ⟨p1, p2, p3.1 _ (h.hs.push x k), p3.2 fun i j hi hj he => ?_⟩, p4, p5⟩
  by_cases c1 : i = n
  · by_cases c2 : j = n
    · omega
    · simp only [c1, c2, if_true, if_false] at he
      exact absurd he.symm (hnew _ (h.hs.mem j (by omega)))
  · by_cases c2 : j = n
    · simp only [c1, c2, if_true, if_false] at he
      exact absurd he (hnew _ (h.hs.mem i (by omega)))
    · simp only [c1, c2, if_false] at he
      exact h.inj i j (by omega) (by omega) he
def elsOf (eg eo : Nat) (l : List Er) : List El := (List.range l.length).map (pF eg eo l)
theorem elsOf_get {eg eo : Nat} {l : List Er} {i : Nat} (h : i < l.length) : (elsOf eg eo l)[i]? = some (pF eg eo l i) := by simp [elsOf, h]
theorem piledR {w : World} {bp g cap eg eo : Nat} {l : List Er} (h : Pl w bp g l.length cap (pF eg eo l)) (hr : ∀ (i j : Nat) a b, i < j → l[i]? = some a → l[j]? = some b → a.sq < b.sq) : Pq w bp g l.length cap (pF eg eo l) (elsOf eg eo l) := by
  have hlt : ∀ i j, i < j → j < l.length → (pF eg eo l i).sq < (pF eg eo l j).sq := fun i j hij hj => by
    have ha : l[i]? = some l[i] := List.getElem?_eq_getElem (by omega)
    have hb : l[j]? = some l[j] := List.getElem?_eq_getElem hj
    have := hr i j _ _ hij ha hb
    unfold pF; rw [ha, hb]; exact this
  refine ⟨h, HP.rise hlt, ⟨by simp [elsOf], fun i hi => ?_, fun a ha => ?_⟩, fun i j hi hj he => ?_⟩
  · exact List.mem_of_getElem? (elsOf_get hi)
  · unfold elsOf at ha
    obtain ⟨i, hi, e⟩ := List.mem_map.1 ha
    exact ⟨i, List.mem_range.1 hi, e⟩
  · rcases Nat.lt_trichotomy i j with c | c | c
    · have := hlt i j c hj; rw [he] at this; omega
    · exact c
    · have := hlt j i c hi; rw [he] at this; omega
def runE {α : Type} (sq : α → Int) : Int → List α → List α × Int × List α
  | ex, [] => ([], ex, [])
  | ex, a :: m => if sq a = ex then (a :: (runE sq (ex + 1) m).1, (runE sq (ex + 1) m).2.1, (runE sq (ex + 1) m).2.2) else ((runE sq ex m).1, (runE sq ex m).2.1, a :: (runE sq ex m).2.2)
end Go.Proofs.Ytgiicendejgklaa
