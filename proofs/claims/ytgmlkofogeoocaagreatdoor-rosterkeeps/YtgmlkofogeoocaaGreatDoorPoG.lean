/- A box of a row of one's own is changed; the closures of Close and Done; turned. -/
import Derived.Test.YtgmlkofogeoocaaGreatDoorZ15
import Derived.Test.YtgmlkofogeoocaaGreatDoorPoF
namespace Go.Proofs.YtgmlkofogeoocaaGreatDoor
open Go.RowKit Go.Maps
theorem fl_set1 {c : Nat} {j : Nat} {u : Value} (hj : j < c) : ∀ {R : List (List Value)} {k : Nat} {r : List Value}, (∀ r ∈ R, r.length = c) → R[k]? = some r → R.flatten.set (k * c + j) u = (R.set k (r.set j u)).flatten
  | [], k, r, _, h => by simp at h
  | a :: R, 0, r, hl, h => by
    simp at h; subst h
    have := hl a (by simp)
    rw [Nat.zero_mul, Nat.zero_add, List.flatten_cons, List.set_cons_zero, List.flatten_cons, List.set_append_left _ _ (by omega)]
  | a :: R, k + 1, r, hl, h => by
    have ha := hl a (by simp)
    rw [List.getElem?_cons_succ] at h
    rw [List.flatten_cons, List.set_cons_succ, List.flatten_cons, List.set_append_right _ _ (by rw [ha, Nat.add_mul]; omega), ← fl_set1 hj (fun r hr => hl r (by simp [hr])) h]
    congr 2
    rw [ha, Nat.add_mul]; omega
theorem cellK_put {α ξ : Type} {K : EK α ξ} {l : List α} {xs : List ξ} {k j : Nat} {a a' : α} {x x' : ξ} {u : Value} (ha : l[k]? = some a) (hx : xs[k]? = some x) (hj : j < K.c) (hC : (K.C a x).set j u = K.C a' x') : (cellK K l xs).set (k * K.c + j) u = cellK K (l.set k a') (xs.set k x') := by
  have hk : k < l.length := (List.getElem?_eq_some_iff.1 ha).1
  have hkx : k < xs.length := (List.getElem?_eq_some_iff.1 hx).1
  unfold cellK
  rw [fl_set1 hj rowsK_len (r := K.C a x) (by unfold rowsK; rw [List.getElem?_zipWith, ha, hx]), hC]
  congr 1
  unfold rowsK
  apply List.ext_getElem?
  intro i
  by_cases c : k = i
  · subst c
    rw [List.getElem?_set_self (by rw [List.length_zipWith]; omega), List.getElem?_zipWith, List.getElem?_set_self hk, List.getElem?_set_self hkx]
  · rw [List.getElem?_set_ne c, List.getElem?_zipWith, List.getElem?_zipWith, List.getElem?_set_ne c, List.getElem?_set_ne c]
theorem OwL.put {α ξ : Type} {K : EK α ξ} {B g : Nat} {w w' : World} {v : Value} {l : List α} {xs : List ξ} (ho : OwL K B w v l xs) (hg : v.ownBlock = some g) {k j : Nat} {a a' : α} {x x' : ξ} {u : Value} (ha : l[k]? = some a) (hx : xs[k]? = some x) (hj : j < K.c) (hC : (K.C a x).set j u = K.C a' x')
    (hO : K.O B (w'.setCell ⟨g, k * K.c + j, none⟩ u) a' x') (hZ : ∀ z ∈ K.Z x', z ∈ K.Z x ∨ w.heap.size ≤ z) (hkp : ∀ z, z < w.heap.size → z ∉ K.Z x → w'.heap[z]? = w.heap[z]?) :
    OwL K B (w'.setCell ⟨g, k * K.c + j, none⟩ u) v (l.set k a') (xs.set k x') := by
  have hk : k < l.length := (List.getElem?_eq_some_iff.1 ha).1
  have hkx : k < xs.length := (List.getElem?_eq_some_iff.1 hx).1
  have hgl := World.ownsRow.lt ho.row g hg
  have row1 : w'.ownsRow B K.t K.c v l.length (cellK K l xs) := own_keep ho.row (fun z hz => by rw [hg] at hz; cases hz; exact hkp g hgl.2 (ho.self g k x hg hx))
  have row2 := own_set row1 hg (j := k * K.c + j) u
  rw [cellK_put ha hx hj hC] at row2
  refine ⟨by simp [ho.xl], by rw [List.length_set]; exact row2, fun i b y hb hy => ?_, fun i i' y y' z hy hy' hz hz' => ?_, fun z i y hz hy hzy => ?_⟩
  · by_cases c : k = i
    · subst c
      rw [List.getElem?_set_self hk] at hb
      rw [List.getElem?_set_self hkx] at hy
      cases hb; cases hy
      exact hO
    · rw [List.getElem?_set_ne c] at hb
      rw [List.getElem?_set_ne c] at hy
      refine K.keep _ _ _ _ _ (ho.el i b y hb hy) (fun z hz => ?_)
      have h1 := (ho.lt z (zK_el hy hz)).2
      rw [other_c (fun q => ho.self z i y (by rw [q]; exact hg) hy hz)]
      exact hkp z h1 (fun q => c (ho.ap k i x y z hx hy q hz))
  · by_cases c : k = i <;> by_cases d : k = i'
    · omega
    · subst c
      rw [List.getElem?_set_self hkx] at hy
      rw [List.getElem?_set_ne d] at hy'
      cases hy
      rcases hZ z hz with q | q
      · exact ho.ap k i' x y' z hx hy' q hz'
      · have := (ho.lt z (zK_el hy' hz')).2; omega
    · subst d
      rw [List.getElem?_set_self hkx] at hy'
      rw [List.getElem?_set_ne c] at hy
      cases hy'
      rcases hZ z hz' with q | q
      · exact ho.ap i k y x z hy hx hz q
      · have := (ho.lt z (zK_el hy hz)).2; omega
    · rw [List.getElem?_set_ne c] at hy
      rw [List.getElem?_set_ne d] at hy'
      exact ho.ap i i' y y' z hy hy' hz hz'
  · rw [hg] at hz; cases hz
    by_cases c : k = i
    · subst c
      rw [List.getElem?_set_self hkx] at hy
      cases hy
      rcases hZ g hzy with q | q
      · exact ho.self g k x hg hx q
      · omega
    · rw [List.getElem?_set_ne c] at hy
      exact ho.self g i y hg hy hzy
theorem OwL.bcell {B g : Nat} {w : World} {v : Value} {l : List Bx} {xs : List (Value × List Mx)} (ho : OwL kBx B w v l xs) (hg : v.ownBlock = some g) {k : Nat} {b : Bx} {x : Value × List Mx} (hb : l[k]? = some b) (hx : xs[k]? = some x) : ∀ j u, (bxC b x.1)[j]? = some u → w.cell? ⟨g, k * 4 + j, none⟩ = some u :=
  fun _ _ hj => own_cell ho.row hg (cellK_get (K := kBx) hb hx hj)
theorem OwL.bout {B g n cap : Nat} {w : World} {l : List Bx} {xs : List (Value × List Mx)} (ho : OwL kBx B w (.slice (some ⟨g, 0, none⟩) n cap) l xs) {k : Nat} {b : Bx} (hb : l[k]? = some b) : OwL kBx B (w.setCell ⟨g, k * 4 + 1, none⟩ (.bool true)) (.slice (some ⟨g, 0, none⟩) n cap) (l.set k { b with out := true }) xs := by
  have hk : k < xs.length := by rw [ho.xl]; exact (List.getElem?_eq_some_iff.1 hb).1
  have hx : xs[k]? = some xs[k] := List.getElem?_eq_getElem hk
  have := OwL.put (K := kBx) (w' := w) (j := 1) (u := .bool true) (a' := { b with out := true }) (x' := xs[k]) ho (g := g) rfl hb hx (by decide) rfl (OwL.keep (K := kMl) (ho.el k b _ hb hx) (fun z hz => other_c (fun q => ho.self g k _ rfl hx (by rw [← q]; exact hz)))) (fun z hz => Or.inl hz) (fun _ _ _ => rfl)
  rw [List.set_getElem_self] at this
  exact this
set_option maxRecDepth 100000 in
set_option maxHeartbeats 2000000 in
theorem close1_any {B g n cap : Nat} {w : World} {l : List Bx} {xs : List (Value × List Mx)} (ho : OwL kBx B w (.slice (some ⟨g, 0, none⟩) n cap) l xs) {k : Nat} {b : Bx} (hb : l[k]? = some b) :
    Calls Tryz.prog 76 #[.pointer (some ⟨g, k * 4, none⟩)] w fun e w' => ∃ er, e = .returned (.int .i64 er) ∧ er = 0 ∧ OwL kBx B w' (.slice (some ⟨g, 0, none⟩) n cap) (l.set k { b with out := true }) xs ∧ w' = w.setCell ⟨g, k * 4 + 1, none⟩ (.bool true) := by
  have hk : k < xs.length := by rw [ho.xl]; exact (List.getElem?_eq_some_iff.1 hb).1
  have c1 := ho.bcell (g := g) rfl hb (List.getElem?_eq_getElem hk) 1 _ rfl
  have fz := fun j => own_frozen ho.row (g := g) rfl j
  have HR := hide (ho.bout hb)
  clear ho hb
  go_enter Tryz.func76, Tryz.ntmps76
  go_wp2_with fail
  go_ret
  exact ⟨0, rfl, rfl, unhide HR, rfl⟩
set_option maxRecDepth 100000 in
set_option maxHeartbeats 4000000 in
theorem turnedC_any {w : World} {v : Value} {l : List Bx} {xs : List (Value × List Mx)} {d : Int} {P : Nat → Int → World → Value → Prop} (h : RdL kBx w v l xs) (hl : l.length ≤ 1073741824)
    (HF : ∀ (k : Nat) (b : Bx), mayP l → l[k]? = some b → b.dev = d → ∀ (W : World) (g cap : Nat) (ys : List (Value × List Mx)), OwL kBx w.heap.size W (.slice (some ⟨g, 0, none⟩) l.length cap) l ys → Below w.heap.size w W → Calls Tryz.prog 76 #[.pointer (some ⟨g, k * 4, none⟩)] W fun e w' => ∃ er, e = .returned (.int .i64 er) ∧ P k er w' (.slice (some ⟨g, 0, none⟩) l.length cap) ∧ Below w.heap.size w w') :
    Calls Tryz.prog 74 #[v, .int .i64 d, .func (.func 76) #[] #[]] w fun e w' => ∃ v' er, e = .returned (.tuple #[v', .int .i64 er]) ∧ Below w.heap.size w w' ∧ ((er = 1 ∧ mayX l = false ∧ v' = .slice none 0 0) ∨ (er = 7 ∧ mayP l ∧ (∀ p ∈ l, p.dev ≠ d) ∧ v' = .slice none 0 0) ∨ ∃ k b v2, mayP l ∧ l[k]? = some b ∧ b.dev = d ∧ P k er w' v2 ∧ ((er ≠ 0 ∧ v' = .slice none 0 0) ∨ (er = 0 ∧ v' = v2))) := by
  have K1 := hide (place_any h hl d)
  have K2 : Hid (∀ W, Below w.heap.size w W → Calls Tryz.prog 28 #[v, .func (.func 29) #[] #[]] W fun e w' => ∃ v' xs', e = .returned v' ∧ OwL kBx W.heap.size w' v' l xs' ∧ Below W.heap.size W w') := fun W hW => listBox_any (h.bw hW) hl
  have HH := hide HF
  obtain ⟨a, cap, rfl⟩ := rdl_slice h
  obtain ⟨N, hN⟩ : ∃ N, N = l.length := ⟨_, rfl⟩
  rw [← hN] at K1 K2 HH ⊢
  have hNI : (N : Int) ≤ 1073741824 := by omega
  have HN := hide hN
  clear h hl HF hN
  go_enter Tryz.func74, Tryz.ntmps74
  go_wp2_with fail
  refine (unhide K1).mono ?_
  rintro e w1 ⟨k, er, rfl, hp, b1⟩
  rcases hp with ⟨p1, rfl, rfl⟩ | ⟨p1, p2, rfl, rfl⟩ | ⟨p1, rfl, b, p2, p3⟩
  · have HP := hide p1
    go_wp2_with fail
    go_ret2
    exact ⟨_, 1, rfl, b1, Or.inl ⟨rfl, unhide HP, rfl⟩⟩
  · have HP := hide (And.intro p1 p2)
    clear p1 p2
    go_wp2_with fail
    go_ret2
    exact ⟨_, 7, rfl, b1, Or.inr (Or.inl ⟨rfl, (unhide HP).1, (unhide HP).2, rfl⟩)⟩
  · have hkN : k < N := by rw [unhide HN]; exact (List.getElem?_eq_some_iff.1 p2).1
    have HP := hide (And.intro p1 (And.intro p2 p3))
    clear p1 p2 p3
    have hkI : (k : Int) < (N : Int) := by omega
    have h0 : (0 : Int) ≤ (k : Int) := by omega
    go_wp2_with fail
    refine (unhide K2 w1 b1).mono ?_
    rintro e w2 ⟨v2, ys, rfl, ho, b2⟩
    have hor := ho.row
    rw [← unhide HN] at hor
    obtain ⟨g, cap2, rfl, _, _, _⟩ := own_open hor (by omega)
    have KF := hide (unhide HH k b (unhide HP).1 (unhide HP).2.1 (unhide HP).2.2 w2 g cap2 ys (ho.mono b1.size) (bw_tr b1 b2))
    clear ho hor b2
    go_wp2_with fail
    refine (unhide KF).mono ?_
    rintro e w3 ⟨er, rfl, hP, b3⟩
    have HX := hide (And.intro hP b3)
    clear hP b3 KF
    by_cases hz : er = 0
    · subst hz
      go_wp2_with fail
      go_ret2
      exact ⟨_, 0, rfl, (unhide HX).2, Or.inr (Or.inr ⟨k, b, _, (unhide HP).1, (unhide HP).2.1, (unhide HP).2.2, (unhide HX).1, Or.inr ⟨rfl, rfl⟩⟩)⟩
    · have hz2 : (er == 0) = false := by simp [hz]
      have hz3 : decide (er = 0) = false := decide_eq_false hz
      go_wp2_with fail
      go_ret2
      exact ⟨_, er, rfl, (unhide HX).2, Or.inr (Or.inr ⟨k, b, _, (unhide HP).1, (unhide HP).2.1, (unhide HP).2.2, (unhide HX).1, Or.inl ⟨hz, rfl⟩⟩)⟩
set_option maxRecDepth 100000 in
set_option maxHeartbeats 4000000 in
theorem turnedP_any {w : World} {v : Value} {l : List Bx} {xs : List (Value × List Mx)} {d : Int} {bs : Nat} {P : Nat → Int → World → Value → Prop} (h : RdL kBx w v l xs) (hl : l.length ≤ 1073741824)
    (HF : ∀ (k : Nat) (b : Bx), mayP l → l[k]? = some b → b.dev = d → ∀ (W : World) (g cap : Nat) (ys : List (Value × List Mx)), OwL kBx w.heap.size W (.slice (some ⟨g, 0, none⟩) l.length cap) l ys → Below w.heap.size w W → Calls Tryz.prog 75 #[.pointer (some ⟨g, k * 4, none⟩), .pointer (some ⟨bs, 0, none⟩)] W fun e w' => ∃ er, e = .returned (.int .i64 er) ∧ P k er w' (.slice (some ⟨g, 0, none⟩) l.length cap) ∧ Below w.heap.size w w') :
    Calls Tryz.prog 74 #[v, .int .i64 d, .func (.func 75) #[] #[.pointer (some ⟨bs, 0, none⟩)]] w fun e w' => ∃ v' er, e = .returned (.tuple #[v', .int .i64 er]) ∧ Below w.heap.size w w' ∧ ((er = 1 ∧ mayX l = false ∧ v' = .slice none 0 0) ∨ (er = 7 ∧ mayP l ∧ (∀ p ∈ l, p.dev ≠ d) ∧ v' = .slice none 0 0) ∨ ∃ k b v2, mayP l ∧ l[k]? = some b ∧ b.dev = d ∧ P k er w' v2 ∧ ((er ≠ 0 ∧ v' = .slice none 0 0) ∨ (er = 0 ∧ v' = v2))) := by
  have K1 := hide (place_any h hl d)
  have K2 : Hid (∀ W, Below w.heap.size w W → Calls Tryz.prog 28 #[v, .func (.func 29) #[] #[]] W fun e w' => ∃ v' xs', e = .returned v' ∧ OwL kBx W.heap.size w' v' l xs' ∧ Below W.heap.size W w') := fun W hW => listBox_any (h.bw hW) hl
  have HH := hide HF
  obtain ⟨a, cap, rfl⟩ := rdl_slice h
  obtain ⟨N, hN⟩ : ∃ N, N = l.length := ⟨_, rfl⟩
  rw [← hN] at K1 K2 HH ⊢
  have hNI : (N : Int) ≤ 1073741824 := by omega
  have HN := hide hN
  clear h hl HF hN
  go_enter Tryz.func74, Tryz.ntmps74
  go_wp2_with fail
  refine (unhide K1).mono ?_
  rintro e w1 ⟨k, er, rfl, hp, b1⟩
  rcases hp with ⟨p1, rfl, rfl⟩ | ⟨p1, p2, rfl, rfl⟩ | ⟨p1, rfl, b, p2, p3⟩
  · have HP := hide p1
    go_wp2_with fail
    go_ret2
    exact ⟨_, 1, rfl, b1, Or.inl ⟨rfl, unhide HP, rfl⟩⟩
  · have HP := hide (And.intro p1 p2)
    clear p1 p2
    go_wp2_with fail
    go_ret2
    exact ⟨_, 7, rfl, b1, Or.inr (Or.inl ⟨rfl, (unhide HP).1, (unhide HP).2, rfl⟩)⟩
  · have hkN : k < N := by rw [unhide HN]; exact (List.getElem?_eq_some_iff.1 p2).1
    have HP := hide (And.intro p1 (And.intro p2 p3))
    clear p1 p2 p3
    have hkI : (k : Int) < (N : Int) := by omega
    have h0 : (0 : Int) ≤ (k : Int) := by omega
    go_wp2_with fail
    refine (unhide K2 w1 b1).mono ?_
    rintro e w2 ⟨v2, ys, rfl, ho, b2⟩
    have hor := ho.row
    rw [← unhide HN] at hor
    obtain ⟨g, cap2, rfl, _, _, _⟩ := own_open hor (by omega)
    have KF := hide (unhide HH k b (unhide HP).1 (unhide HP).2.1 (unhide HP).2.2 w2 g cap2 ys (ho.mono b1.size) (bw_tr b1 b2))
    clear ho hor b2
    go_wp2_with fail
    refine (unhide KF).mono ?_
    rintro e w3 ⟨er, rfl, hP, b3⟩
    have HX := hide (And.intro hP b3)
    clear hP b3 KF
    by_cases hz : er = 0
    · subst hz
      go_wp2_with fail
      go_ret2
      exact ⟨_, 0, rfl, (unhide HX).2, Or.inr (Or.inr ⟨k, b, _, (unhide HP).1, (unhide HP).2.1, (unhide HP).2.2, (unhide HX).1, Or.inr ⟨rfl, rfl⟩⟩)⟩
    · have hz2 : (er == 0) = false := by simp [hz]
      have hz3 : decide (er = 0) = false := decide_eq_false hz
      go_wp2_with fail
      go_ret2
      exact ⟨_, er, rfl, (unhide HX).2, Or.inr (Or.inr ⟨k, b, _, (unhide HP).1, (unhide HP).2.1, (unhide HP).2.2, (unhide HX).1, Or.inl ⟨hz, rfl⟩⟩)⟩
end Go.Proofs.YtgmlkofogeoocaaGreatDoor
