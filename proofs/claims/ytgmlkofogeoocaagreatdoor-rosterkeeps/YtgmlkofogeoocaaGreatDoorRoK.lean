/- Devices of package roster; Settle, whatever comes of it. -/
import Derived.Test.YtgmlkofogeoocaaGreatDoorRoH
import Derived.Test.YtgmlkofogeoocaaGreatDoorZ23
namespace Go.Proofs.YtgmlkofogeoocaaGreatDoor
open Go.RowKit Go.Maps
def dvL (l : List Bx) (u : Int) : List Int := (l.filter fun b => decide (b.dev.tdiv 8 = u) && !b.out).map (·.dev)
theorem dvL_snoc (l : List Bx) (u : Int) (i : Nat) {b : Bx} (h : l[i]? = some b) : dvL (l.take (i + 1)) u = dvL (l.take i) u ++ (if b.dev.tdiv 8 = u ∧ b.out = false then [b.dev] else []) := by
  unfold dvL
  rw [List.take_add_one, h, List.filter_append, List.map_append]
  congr 1
  simp only [Option.toList_some]
  by_cases c1 : b.dev.tdiv 8 = u <;> cases c2 : b.out <;> simp [c1, c2]
set_option maxRecDepth 100000 in
set_option maxHeartbeats 4000000 in
theorem devices_any {w : World} {v : Value} {l : List Bx} {xs : List (Value × List Mx)} (h : RdL kBx w v l xs) (hs : SmX l) (u : Int) :
    Calls Tryz.prog 22 #[v, .int .i64 u] w fun e w' => ∃ v' er, e = .returned (.tuple #[v', .int .i64 er]) ∧ Below w.heap.size w w' ∧ ((er = 1 ∧ (mayX l = false ∨ usrOk u = false) ∧ v' = .slice none 0 0) ∨ (er = 0 ∧ mayP l ∧ usrOk u = true ∧ Ints w.heap.size w' v' (dvL l u))) := by
  obtain ⟨i0, hi0, hz0, hz1, hz2⟩ := info_parts Tryz.infoInt
  have K1 := poCheck_any h hs.n
  obtain ⟨a, cap, hv⟩ := rdl_slice h
  obtain ⟨N, hN⟩ : ∃ N, N = l.length := ⟨_, rfl⟩
  rw [← hN] at hv
  subst hv
  have hNI : (N : Int) ≤ 1073741824 := by have := hs.n; omega
  obtain ⟨r, hr⟩ : ∃ r, r = mayX l := ⟨_, rfl⟩
  rw [← hr] at K1
  have HH := hide (And.intro h (And.intro hN hr))
  have HKU : Hid (∀ W, Calls Tryz.prog 19 #[.int .i64 u] W fun e w' => e = .returned (.bool (usrOk u)) ∧ w' = W) := fun W => roIsUser_any u W
  clear h hs hN hr
  cases r with
  | false =>
    have K1' : Hid (Calls Tryz.prog 16 #[.slice a N cap] w fun e w' => e = .returned (.int .i64 1) ∧ Below w.heap.size w w') := K1
    clear K1 HKU
    go_enter Tryz.func22, Tryz.ntmps22
    go_wp2_with fail
    refine (unhide K1').mono ?_
    rintro e w1 ⟨rfl, b1⟩
    have HB := hide b1
    clear b1 K1'
    go_wp2_with fail
    go_ret2
    exact ⟨_, 1, rfl, unhide HB, Or.inl ⟨rfl, Or.inl (unhide HH).2.2.symm, rfl⟩⟩
  | true =>
    have K1' : Hid (Calls Tryz.prog 16 #[.slice a N cap] w fun e w' => e = .returned (.int .i64 0) ∧ Below w.heap.size w w') := K1
    clear K1
    have hmy := mayX_iff.1 (unhide HH).2.2.symm
    have HM := hide hmy
    obtain ⟨q, hq⟩ : ∃ q, q = usrOk u := ⟨_, rfl⟩
    rw [← hq] at HKU
    have HQ := hide hq
    clear hq
    cases q with
    | false =>
      go_enter Tryz.func22, Tryz.ntmps22
      go_wp2_with fail
      refine (unhide K1').mono ?_
      rintro e w1 ⟨rfl, b1⟩
      have HB := hide b1
      clear b1 K1' hmy
      go_wp2_with fail
      refine (unhide HKU w1).mono ?_
      rintro e w2 ⟨rfl, rfl⟩
      go_wp2_with fail
      go_ret2
      exact ⟨_, 1, rfl, unhide HB, Or.inl ⟨rfl, Or.inr (unhide HQ).symm, rfl⟩⟩
    | true =>
      go_enter Tryz.func22, Tryz.ntmps22
      go_wp2_with fail
      refine (unhide K1').mono ?_
      rintro e w1 ⟨rfl, b1⟩
      have HB := hide b1
      clear b1 K1' hmy
      go_wp2_with fail
      refine (unhide HKU w1).mono ?_
      rintro e w2 ⟨rfl, hw2⟩
      subst hw2
      clear HKU
      go_wp2_with fail
      go_loopw [6, 21] (fun ov iv wr => ∃ (i : Nat) (oa : Option Addr) (on oc : Nat), ov = .slice oa on oc ∧ iv = .int .i64 (i : Int) ∧ i ≤ N ∧ Hid (Below w.heap.size w wr ∧ Ints w.heap.size wr (.slice oa on oc) (dvL (l.take i) u))) (fun _ iv _ => (N - intOf iv).toNat)
      case atStart => exact ⟨0, none, 0, 0, rfl, rfl, Nat.zero_le _, unhide HB, by simpa [dvL] using ints_nil _ _⟩
      case round =>
        clear HB
        obtain ⟨i, oa, on, oc, rfl, rfl, hi, HR⟩ := hrel
        by_cases hlt : i < N
        · have hiI : (i : Int) < (N : Int) := by omega
          have h0 : (0 : Int) ≤ (i : Int) := by omega
          obtain ⟨h, hN, -⟩ := unhide HH
          obtain ⟨p, hp⟩ : ∃ p, l[i]? = some p := ⟨_, List.getElem?_eq_getElem (by omega)⟩
          obtain ⟨gb, o, x, rfl, hx, hR, hc⟩ := h.get hp
          obtain ⟨a2, c2, hcv2⟩ := rdl_slice hR.1
          have hok := (unhide HM i p hp).1
          obtain ⟨pd, hpd⟩ : ∃ z, z = p.dev := ⟨_, rfl⟩
          obtain ⟨ou, hou⟩ : ∃ z, z = p.out := ⟨_, rfl⟩
          obtain ⟨dn, hdn⟩ : ∃ z, z = p.dn := ⟨_, rfl⟩
          obtain ⟨M, hM⟩ : ∃ z, z = p.ml.length := ⟨_, rfl⟩
          have d0 : w.cell? ⟨gb, o + i * 4, none⟩ = some (.int .i64 pd) := by rw [hpd]; exact hc 0 _ rfl
          have d1 : w.cell? ⟨gb, o + i * 4 + 1, none⟩ = some (.bool ou) := by rw [hou]; exact hc 1 _ rfl
          have d2 : w.cell? ⟨gb, o + i * 4 + 2, none⟩ = some (.slice a2 M c2) := by rw [hM, ← hcv2]; exact hc 2 _ rfl
          have d3 : w.cell? ⟨gb, o + i * 4 + 3, none⟩ = some (.int .i64 dn) := by rw [hdn]; exact hc 3 _ rfl
          have f0 : wr.cell? ⟨gb, o + i * 4, none⟩ = some (.int .i64 pd) := by rw [(unhide HR).1.cell (lt_of_cell d0)]; exact d0
          have fo : wr.cell? ⟨gb, o + i * 4 + 1, none⟩ = some (.bool ou) := by rw [(unhide HR).1.cell (lt_of_cell d1)]; exact d1
          have f1 : wr.cell? ⟨gb, o + i * 4 + 2, none⟩ = some (.slice a2 M c2) := by rw [(unhide HR).1.cell (lt_of_cell d2)]; exact d2
          have f3 : wr.cell? ⟨gb, o + i * 4 + 3, none⟩ = some (.int .i64 dn) := by rw [(unhide HR).1.cell (lt_of_cell d3)]; exact d3
          obtain ⟨W1, hW1⟩ : ∃ W1, W1 = wr.alloc (.cells #[.int .i64 pd, .bool ou, .slice a2 M c2, .int .i64 dn] 69) := ⟨_, rfl⟩
          have bl : Below wr.heap.size wr W1 := by rw [hW1]; exact bwA _ _
          have kk : W1.heap[wr.heap.size]? = some (.cells #[.int .i64 pd, .bool ou, .slice a2 M c2, .int .i64 dn] 69 (0, 0)) := by rw [hW1]; exact heap_alloc_new _ _
          have g0 : W1.cell? ⟨wr.heap.size, 0, none⟩ = some (.int .i64 pd) := blk_c kk rfl
          have g1 : W1.cell? ⟨wr.heap.size, 1, none⟩ = some (.bool ou) := blk_c kk rfl
          have KU := roUser_any pd W1
          obtain ⟨uq, huq⟩ : ∃ z, z = pd.tdiv 8 := ⟨_, rfl⟩
          have hdv : devOk pd = true := by unfold devOk; rw [hpd]; exact decide_eq_true ⟨hok.1, hok.2.1⟩
          have eV : usrV pd = uq := by unfold usrV; rw [if_pos hdv]; exact huq.symm
          have eE : usrE pd = 0 := by unfold usrE; rw [if_pos hdv]
          rw [eV, eE] at KU
          have KUh := hide KU
          have hsn := dvL_snoc l u i hp
          rw [← hpd, ← hou, ← huq] at hsn
          have hI1 : Ints w.heap.size W1 (.slice oa on oc) (dvL (l.take i) u) := own_keep (unhide HR).2 (fun k hk => bl.block k (World.ownsRow.lt (unhide HR).2 k hk).2)
          have hB1 := bw_tr (unhide HR).1 bl
          have hlen : (dvL (l.take i) u).length ≤ 1073741824 := by
            have e1 : (dvL (l.take i) u).length ≤ (l.take i).length := by unfold dvL; rw [List.length_map]; exact List.length_filter_le _ _
            rw [List.length_take] at e1
            omega
          have HX := hide (And.intro hsn (And.intro hI1 (And.intro hB1 hlen)))
          have HW := hide hW1
          clear HR h hN hp hx hR hc hcv2 hok hpd hou hdn hM d0 d1 d2 d3 hW1 bl kk KU hdv eV eE hsn hI1 hB1 hlen huq
          go_upto_region 7 with fail
          rw [← unhide HW]
          clear HW f0 fo f1 f3
          go_wp2_with fail
          refine (unhide KUh).mono ?_
          rintro e W2 ⟨rfl, hW2⟩
          subst hW2
          clear KUh
          by_cases hu : uq = u
          · cases ou with
            | false =>
              have HE : Hid (dvL (l.take (i + 1)) u = dvL (l.take i) u ++ [pd]) := by rw [(unhide HX).1, if_pos ⟨hu, rfl⟩]; rfl
              have hu2 : (uq == u) = true := by simp [hu]
              have hu3 : decide (uq = u) = true := decide_eq_true hu
              obtain ⟨on', hon⟩ : ∃ n, n = (dvL (l.take i) u).length := ⟨_, rfl⟩
              go_wp2_with (at_builtin; refine wpList_append_own _ rfl (.tmp 39) (.tmp 42) 38 rfl w.heap.size 3 i0 (.int .i64 0) 1 8 Tryz.underlying38 hi0 hz0 hz1 hz2 rfl (by decide) (.slice oa on oc) (dvL (l.take i) u).length _ rfl (World.ownsRow.alloc (unhide HX).2.1 _) ⟨W2.heap.size, 0, none⟩ 1 1 [_] rfl rfl (cell_one_new _ _ _) ?c2 ?c3 ?c4 ?c5 ?nx)
              case c2 => intro y hy; simp at hy; subst hy; rfl
              case c3 => have := (unhide HX).2.2.2; unfold maxLen; omega
              case c4 => have := (unhide HX).2.2.2; omega
              case c5 => have := (unhide HX).2.2.1.size; simp; omega
              case nx =>
                intro v' w3 hown hgr _
                obtain ⟨oa', oc', hoe⟩ := own_slice hown
                have HR3 : Hid (Below w.heap.size w w3 ∧ Ints w.heap.size w3 v' (dvL (l.take (i + 1)) u)) := by
                  refine ⟨Fr.toBase (bw_tr (unhide HX).2.2.1 (bwA _ _)) (Fr.ofGrown hgr) (fun z hz => (World.ownsRow.lt (unhide HX).2.1 z (by simpa using hz)).1), ?_⟩
                  rw [unhide HE]
                  unfold Ints
                  rw [List.length_append, List.map_append]
                  exact hown
                subst hoe
                clear hown hgr HX HE hon g0 g1
                go_wp2_with fail
                go_roundw
                case rel => exact ⟨i + 1, _, _, _, rfl, by go_num, by omega, HR3⟩
                case measure => simp only [intOf]; omega
            | true =>
              have HR3 : Hid (Below w.heap.size w W2 ∧ Ints w.heap.size W2 (.slice oa on oc) (dvL (l.take (i + 1)) u)) := by
                rw [show dvL (l.take (i + 1)) u = dvL (l.take i) u by rw [(unhide HX).1, if_neg (by simp)]; simp]
                exact ⟨(unhide HX).2.2.1, (unhide HX).2.1⟩
              have hu2 : (uq == u) = true := by simp [hu]
              have hu3 : decide (uq = u) = true := decide_eq_true hu
              clear HX
              go_wp2_with fail
              go_roundw
              case rel => exact ⟨i + 1, _, _, _, rfl, by go_num, by omega, HR3⟩
              case measure => simp only [intOf]; omega
          · have HR3 : Hid (Below w.heap.size w W2 ∧ Ints w.heap.size W2 (.slice oa on oc) (dvL (l.take (i + 1)) u)) := by
              rw [show dvL (l.take (i + 1)) u = dvL (l.take i) u by rw [(unhide HX).1, if_neg (fun q => hu q.1)]; simp]
              exact ⟨(unhide HX).2.2.1, (unhide HX).2.1⟩
            have hu2 : (uq == u) = false := by simp [hu]
            have hu3 : decide (uq = u) = false := decide_eq_false hu
            clear HX
            go_wp2_with fail
            go_roundw
            case rel => exact ⟨i + 1, _, _, _, rfl, by go_num, by omega, HR3⟩
            case measure => simp only [intOf]; omega
        · obtain rfl : i = N := by omega
          have HR1 : Hid (Below w.heap.size w wr ∧ Ints w.heap.size wr (.slice oa on oc) (dvL l u)) := by
            have := unhide HR
            rw [List.take_of_length_le (by rw [(unhide HH).2.1]; exact Nat.le_refl _)] at this
            exact this
          clear HR
          go_wp2_with fail
          go_ret2
          exact ⟨_, 0, rfl, (unhide HR1).1, Or.inr ⟨rfl, unhide HM, (unhide HQ).symm, (unhide HR1).2⟩⟩
end Go.Proofs.YtgmlkofogeoocaaGreatDoor
