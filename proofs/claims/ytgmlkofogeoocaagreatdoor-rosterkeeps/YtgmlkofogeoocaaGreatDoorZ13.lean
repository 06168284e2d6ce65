/- Texts joined: LgI LgJ LgKNode. -/
import Derived.Test.YtgmlkofogeoocaaGreatDoorZ12
import Derived.Lib.SliceRun
import Derived.Maps.AppendAt
/- The library's slices.Clone, at every kind of list that package fresh copies. -/
namespace Go.Proofs.YtgmlkofogeoocaaGreatDoor
open Go.RowKit Go.Maps
theorem infoKint : (Tryz.prog.info? 3).map (fun i => (i.zero, i.size, i.bytes)) = some (some (.int .i64 0), 1, 8) := by kernel_rfl
set_option maxRecDepth 100000 in
set_option maxHeartbeats 4000000 in
theorem cloneint_any {w : World} {a : Option Addr} {n cap : Nat} {cs : List Value} (hl : cs.length = n * 1) (h1 : ∀ u ∈ cs, u.oneCell' = true) (hn : n ≤ 1073741824) (hc : n = 0 ∨ ∃ g o, a = some ⟨g, o, none⟩ ∧ ∀ j u, cs[j]? = some u → w.cell? ⟨g, o + j, none⟩ = some u) :
    Calls Tryz.prog 88 #[.slice a n cap] w fun e w' => ∃ v', e = .returned v' ∧ w'.ownsRow w.heap.size 3 1 v' n cs ∧ Below w.heap.size w w' := by
  obtain ⟨j0, hj, hy0, hy1, hyb⟩ := info_parts infoKint
  have hnil := fun (W : World) => Lib.run_eql_slice_nil (P := Tryz.prog) W 38 3 a n cap 0 0 Tryz.underlying38
  cases a with
  | none =>
    have hn0 : n = 0 := by
      rcases hc with c | ⟨g, o, c, _⟩
      · exact c
      · cases c
    subst hn0
    have hcs : cs = [] := List.eq_nil_of_length_eq_zero (by omega)
    subst hcs
    clear hc
    simp only [Option.isNone_none] at hnil ⊢
    go_enter Tryz.func88, Tryz.ntmps88
    go_wp2_with fail
    go_ret
    exact ⟨_, rfl, World.ownsRow_nil _ _ _ _, Below.refl _ _⟩
  | some ad =>
    have hcell : ∀ (W : World), Below w.heap.size w W → ∀ j u, cs[j]? = some u → W.cell? (ad.add j) = some u := by
      intro W hW j u hj
      rcases hc with c | ⟨g, o, c, hc⟩
      · have : cs = [] := List.eq_nil_of_length_eq_zero (by omega)
        subst this; simp at hj
      · simp at c; subst c
        have := hc j u hj
        have e : (⟨g, o, none⟩ : Addr).add j = ⟨g, o + j, none⟩ := by unfold Addr.add; by_cases hz : j = 0 <;> simp [hz]
        rw [e, World.cell?_of_block (w := w) (hW.block _ (lt_of_cell this))]
        exact this
    have hrow := World.ownsRow_made (base := w.heap.size) (e := 3) (size := 1) w #[] 0 (Nat.le_refl _) (by unfold maxLen; omega) rfl
    have HH := hide (And.intro hcell (And.intro h1 (And.intro hn hl)))
    clear hc hcell h1 hl hn
    go_enter Tryz.func88, Tryz.ntmps88
    go_wp2_with (at_builtin; refine wpList_append_own_at _ rfl (.tmp 5) (.tmp 6) 38 rfl w.heap.size 3 j0 (.int .i64 0) 1 8 Tryz.underlying38 hj hy0 hy1 hyb rfl (by decide) _ 0 [] rfl hrow ad n cap cs rfl (unhide HH).2.2.2 ((unhide HH).1 _ (bwA _ _)) (unhide HH).2.1 ?c3 ?c4 ?c5 ?nx)
    case c3 => have := (unhide HH).2.2.1; unfold maxLen; omega
    case c4 => have := (unhide HH).2.2.1; omega
    case c5 => simp
    case nx =>
      intro v' w3 hown' hgrow _ hat
      have hb3 : Below w.heap.size w w3 := (bwA w _).grown hgrow (by simp) (fun k hk => by simp [Value.ownBlock] at hk; omega)
      have hown2 : w3.ownsRow w.heap.size 3 1 v' n cs := by simpa using hown'
      have HO := hide (And.intro hown2 hb3)
      clear hown' hgrow hat hown2 hb3
      go_wp2_with fail
      go_ret
      exact ⟨_, rfl, (unhide HO).1, (unhide HO).2⟩
theorem infoKNode : (Tryz.prog.info? 57).map (fun i => (i.zero, i.size, i.bytes)) = some (some (.agg #[.int .i64 0, .int .i64 0, .int .i64 0, .slice none 0 0]), 4, 48) := by kernel_rfl
set_option maxRecDepth 100000 in
set_option maxHeartbeats 4000000 in
theorem cloneNode_any {w : World} {a : Option Addr} {n cap : Nat} {cs : List Value} (hl : cs.length = n * 4) (h1 : ∀ u ∈ cs, u.oneCell' = true) (hn : n ≤ 1073741824) (hc : n = 0 ∨ ∃ g o, a = some ⟨g, o, none⟩ ∧ ∀ j u, cs[j]? = some u → w.cell? ⟨g, o + j, none⟩ = some u) :
    Calls Tryz.prog 122 #[.slice a n cap] w fun e w' => ∃ v', e = .returned v' ∧ w'.ownsRow w.heap.size 57 4 v' n cs ∧ Below w.heap.size w w' := by
  obtain ⟨j0, hj, hy0, hy1, hyb⟩ := info_parts infoKNode
  have hnil := fun (W : World) => Lib.run_eql_slice_nil (P := Tryz.prog) W 28 57 a n cap 0 0 Tryz.underlying28
  cases a with
  | none =>
    have hn0 : n = 0 := by
      rcases hc with c | ⟨g, o, c, _⟩
      · exact c
      · cases c
    subst hn0
    have hcs : cs = [] := List.eq_nil_of_length_eq_zero (by omega)
    subst hcs
    clear hc
    simp only [Option.isNone_none] at hnil ⊢
    go_enter Tryz.func122, Tryz.ntmps122
    go_wp2_with fail
    go_ret
    exact ⟨_, rfl, World.ownsRow_nil _ _ _ _, Below.refl _ _⟩
  | some ad =>
    have hcell : ∀ (W : World), Below w.heap.size w W → ∀ j u, cs[j]? = some u → W.cell? (ad.add j) = some u := by
      intro W hW j u hj
      rcases hc with c | ⟨g, o, c, hc⟩
      · have : cs = [] := List.eq_nil_of_length_eq_zero (by omega)
        subst this; simp at hj
      · simp at c; subst c
        have := hc j u hj
        have e : (⟨g, o, none⟩ : Addr).add j = ⟨g, o + j, none⟩ := by unfold Addr.add; by_cases hz : j = 0 <;> simp [hz]
        rw [e, World.cell?_of_block (w := w) (hW.block _ (lt_of_cell this))]
        exact this
    have hrow := World.ownsRow_made (base := w.heap.size) (e := 57) (size := 4) w #[] 0 (Nat.le_refl _) (by unfold maxLen; omega) rfl
    have HH := hide (And.intro hcell (And.intro h1 (And.intro hn hl)))
    clear hc hcell h1 hl hn
    go_enter Tryz.func122, Tryz.ntmps122
    go_wp2_with (at_builtin; refine wpList_append_own_at _ rfl (.tmp 5) (.tmp 6) 28 rfl w.heap.size 57 j0 (.agg #[.int .i64 0, .int .i64 0, .int .i64 0, .slice none 0 0]) 4 48 Tryz.underlying28 hj hy0 hy1 hyb rfl (by decide) _ 0 [] rfl hrow ad n cap cs rfl (unhide HH).2.2.2 ((unhide HH).1 _ (bwA _ _)) (unhide HH).2.1 ?c3 ?c4 ?c5 ?nx)
    case c3 => have := (unhide HH).2.2.1; unfold maxLen; omega
    case c4 => have := (unhide HH).2.2.1; omega
    case c5 => simp
    case nx =>
      intro v' w3 hown' hgrow _ hat
      have hb3 : Below w.heap.size w w3 := (bwA w _).grown hgrow (by simp) (fun k hk => by simp [Value.ownBlock] at hk; omega)
      have hown2 : w3.ownsRow w.heap.size 57 4 v' n cs := by simpa using hown'
      have HO := hide (And.intro hown2 hb3)
      clear hown' hgrow hat hown2 hb3
      go_wp2_with fail
      go_ret
      exact ⟨_, rfl, (unhide HO).1, (unhide HO).2⟩
theorem infoKAdd : (Tryz.prog.info? 121).map (fun i => (i.zero, i.size, i.bytes)) = some (some (.agg #[.int .i64 0, .int .i64 0, .int .i64 0]), 3, 24) := by kernel_rfl
set_option maxRecDepth 100000 in
set_option maxHeartbeats 4000000 in
theorem cloneAdd_any {w : World} {a : Option Addr} {n cap : Nat} {cs : List Value} (hl : cs.length = n * 3) (h1 : ∀ u ∈ cs, u.oneCell' = true) (hn : n ≤ 1073741824) (hc : n = 0 ∨ ∃ g o, a = some ⟨g, o, none⟩ ∧ ∀ j u, cs[j]? = some u → w.cell? ⟨g, o + j, none⟩ = some u) :
    Calls Tryz.prog 87 #[.slice a n cap] w fun e w' => ∃ v', e = .returned v' ∧ w'.ownsRow w.heap.size 121 3 v' n cs ∧ Below w.heap.size w w' := by
  obtain ⟨j0, hj, hy0, hy1, hyb⟩ := info_parts infoKAdd
  have hnil := fun (W : World) => Lib.run_eql_slice_nil (P := Tryz.prog) W 37 121 a n cap 0 0 Tryz.underlying37
  cases a with
  | none =>
    have hn0 : n = 0 := by
      rcases hc with c | ⟨g, o, c, _⟩
      · exact c
      · cases c
    subst hn0
    have hcs : cs = [] := List.eq_nil_of_length_eq_zero (by omega)
    subst hcs
    clear hc
    simp only [Option.isNone_none] at hnil ⊢
    go_enter Tryz.func87, Tryz.ntmps87
    go_wp2_with fail
    go_ret
    exact ⟨_, rfl, World.ownsRow_nil _ _ _ _, Below.refl _ _⟩
  | some ad =>
    have hcell : ∀ (W : World), Below w.heap.size w W → ∀ j u, cs[j]? = some u → W.cell? (ad.add j) = some u := by
      intro W hW j u hj
      rcases hc with c | ⟨g, o, c, hc⟩
      · have : cs = [] := List.eq_nil_of_length_eq_zero (by omega)
        subst this; simp at hj
      · simp at c; subst c
        have := hc j u hj
        have e : (⟨g, o, none⟩ : Addr).add j = ⟨g, o + j, none⟩ := by unfold Addr.add; by_cases hz : j = 0 <;> simp [hz]
        rw [e, World.cell?_of_block (w := w) (hW.block _ (lt_of_cell this))]
        exact this
    have hrow := World.ownsRow_made (base := w.heap.size) (e := 121) (size := 3) w #[] 0 (Nat.le_refl _) (by unfold maxLen; omega) rfl
    have HH := hide (And.intro hcell (And.intro h1 (And.intro hn hl)))
    clear hc hcell h1 hl hn
    go_enter Tryz.func87, Tryz.ntmps87
    go_wp2_with (at_builtin; refine wpList_append_own_at _ rfl (.tmp 5) (.tmp 6) 37 rfl w.heap.size 121 j0 (.agg #[.int .i64 0, .int .i64 0, .int .i64 0]) 3 24 Tryz.underlying37 hj hy0 hy1 hyb rfl (by decide) _ 0 [] rfl hrow ad n cap cs rfl (unhide HH).2.2.2 ((unhide HH).1 _ (bwA _ _)) (unhide HH).2.1 ?c3 ?c4 ?c5 ?nx)
    case c3 => have := (unhide HH).2.2.1; unfold maxLen; omega
    case c4 => have := (unhide HH).2.2.1; omega
    case c5 => simp
    case nx =>
      intro v' w3 hown' hgrow _ hat
      have hb3 : Below w.heap.size w w3 := (bwA w _).grown hgrow (by simp) (fun k hk => by simp [Value.ownBlock] at hk; omega)
      have hown2 : w3.ownsRow w.heap.size 121 3 v' n cs := by simpa using hown'
      have HO := hide (And.intro hown2 hb3)
      clear hown' hgrow hat hown2 hb3
      go_wp2_with fail
      go_ret
      exact ⟨_, rfl, (unhide HO).1, (unhide HO).2⟩
theorem infoKSeal : (Tryz.prog.info? 124).map (fun i => (i.zero, i.size, i.bytes)) = some (some (.agg #[.int .i64 0, .int .i64 0, .int .i64 0]), 3, 24) := by kernel_rfl
set_option maxRecDepth 100000 in
set_option maxHeartbeats 4000000 in
theorem cloneSeal_any {w : World} {a : Option Addr} {n cap : Nat} {cs : List Value} (hl : cs.length = n * 3) (h1 : ∀ u ∈ cs, u.oneCell' = true) (hn : n ≤ 1073741824) (hc : n = 0 ∨ ∃ g o, a = some ⟨g, o, none⟩ ∧ ∀ j u, cs[j]? = some u → w.cell? ⟨g, o + j, none⟩ = some u) :
    Calls Tryz.prog 89 #[.slice a n cap] w fun e w' => ∃ v', e = .returned v' ∧ w'.ownsRow w.heap.size 124 3 v' n cs ∧ Below w.heap.size w w' := by
  obtain ⟨j0, hj, hy0, hy1, hyb⟩ := info_parts infoKSeal
  have hnil := fun (W : World) => Lib.run_eql_slice_nil (P := Tryz.prog) W 39 124 a n cap 0 0 Tryz.underlying39
  cases a with
  | none =>
    have hn0 : n = 0 := by
      rcases hc with c | ⟨g, o, c, _⟩
      · exact c
      · cases c
    subst hn0
    have hcs : cs = [] := List.eq_nil_of_length_eq_zero (by omega)
    subst hcs
    clear hc
    simp only [Option.isNone_none] at hnil ⊢
    go_enter Tryz.func89, Tryz.ntmps89
    go_wp2_with fail
    go_ret
    exact ⟨_, rfl, World.ownsRow_nil _ _ _ _, Below.refl _ _⟩
  | some ad =>
    have hcell : ∀ (W : World), Below w.heap.size w W → ∀ j u, cs[j]? = some u → W.cell? (ad.add j) = some u := by
      intro W hW j u hj
      rcases hc with c | ⟨g, o, c, hc⟩
      · have : cs = [] := List.eq_nil_of_length_eq_zero (by omega)
        subst this; simp at hj
      · simp at c; subst c
        have := hc j u hj
        have e : (⟨g, o, none⟩ : Addr).add j = ⟨g, o + j, none⟩ := by unfold Addr.add; by_cases hz : j = 0 <;> simp [hz]
        rw [e, World.cell?_of_block (w := w) (hW.block _ (lt_of_cell this))]
        exact this
    have hrow := World.ownsRow_made (base := w.heap.size) (e := 124) (size := 3) w #[] 0 (Nat.le_refl _) (by unfold maxLen; omega) rfl
    have HH := hide (And.intro hcell (And.intro h1 (And.intro hn hl)))
    clear hc hcell h1 hl hn
    go_enter Tryz.func89, Tryz.ntmps89
    go_wp2_with (at_builtin; refine wpList_append_own_at _ rfl (.tmp 5) (.tmp 6) 39 rfl w.heap.size 124 j0 (.agg #[.int .i64 0, .int .i64 0, .int .i64 0]) 3 24 Tryz.underlying39 hj hy0 hy1 hyb rfl (by decide) _ 0 [] rfl hrow ad n cap cs rfl (unhide HH).2.2.2 ((unhide HH).1 _ (bwA _ _)) (unhide HH).2.1 ?c3 ?c4 ?c5 ?nx)
    case c3 => have := (unhide HH).2.2.1; unfold maxLen; omega
    case c4 => have := (unhide HH).2.2.1; omega
    case c5 => simp
    case nx =>
      intro v' w3 hown' hgrow _ hat
      have hb3 : Below w.heap.size w w3 := (bwA w _).grown hgrow (by simp) (fun k hk => by simp [Value.ownBlock] at hk; omega)
      have hown2 : w3.ownsRow w.heap.size 124 3 v' n cs := by simpa using hown'
      have HO := hide (And.intro hown2 hb3)
      clear hown' hgrow hat hown2 hb3
      go_wp2_with fail
      go_ret
      exact ⟨_, rfl, (unhide HO).1, (unhide HO).2⟩
theorem infoKJoin : (Tryz.prog.info? 127).map (fun i => (i.zero, i.size, i.bytes)) = some (some (.agg #[.int .i64 0, .int .i64 0]), 2, 16) := by kernel_rfl
set_option maxRecDepth 100000 in
set_option maxHeartbeats 4000000 in
theorem cloneJoin_any {w : World} {a : Option Addr} {n cap : Nat} {cs : List Value} (hl : cs.length = n * 2) (h1 : ∀ u ∈ cs, u.oneCell' = true) (hn : n ≤ 1073741824) (hc : n = 0 ∨ ∃ g o, a = some ⟨g, o, none⟩ ∧ ∀ j u, cs[j]? = some u → w.cell? ⟨g, o + j, none⟩ = some u) :
    Calls Tryz.prog 90 #[.slice a n cap] w fun e w' => ∃ v', e = .returned v' ∧ w'.ownsRow w.heap.size 127 2 v' n cs ∧ Below w.heap.size w w' := by
  obtain ⟨j0, hj, hy0, hy1, hyb⟩ := info_parts infoKJoin
  have hnil := fun (W : World) => Lib.run_eql_slice_nil (P := Tryz.prog) W 40 127 a n cap 0 0 Tryz.underlying40
  cases a with
  | none =>
    have hn0 : n = 0 := by
      rcases hc with c | ⟨g, o, c, _⟩
      · exact c
      · cases c
    subst hn0
    have hcs : cs = [] := List.eq_nil_of_length_eq_zero (by omega)
    subst hcs
    clear hc
    simp only [Option.isNone_none] at hnil ⊢
    go_enter Tryz.func90, Tryz.ntmps90
    go_wp2_with fail
    go_ret
    exact ⟨_, rfl, World.ownsRow_nil _ _ _ _, Below.refl _ _⟩
  | some ad =>
    have hcell : ∀ (W : World), Below w.heap.size w W → ∀ j u, cs[j]? = some u → W.cell? (ad.add j) = some u := by
      intro W hW j u hj
      rcases hc with c | ⟨g, o, c, hc⟩
      · have : cs = [] := List.eq_nil_of_length_eq_zero (by omega)
        subst this; simp at hj
      · simp at c; subst c
        have := hc j u hj
        have e : (⟨g, o, none⟩ : Addr).add j = ⟨g, o + j, none⟩ := by unfold Addr.add; by_cases hz : j = 0 <;> simp [hz]
        rw [e, World.cell?_of_block (w := w) (hW.block _ (lt_of_cell this))]
        exact this
    have hrow := World.ownsRow_made (base := w.heap.size) (e := 127) (size := 2) w #[] 0 (Nat.le_refl _) (by unfold maxLen; omega) rfl
    have HH := hide (And.intro hcell (And.intro h1 (And.intro hn hl)))
    clear hc hcell h1 hl hn
    go_enter Tryz.func90, Tryz.ntmps90
    go_wp2_with (at_builtin; refine wpList_append_own_at _ rfl (.tmp 5) (.tmp 6) 40 rfl w.heap.size 127 j0 (.agg #[.int .i64 0, .int .i64 0]) 2 16 Tryz.underlying40 hj hy0 hy1 hyb rfl (by decide) _ 0 [] rfl hrow ad n cap cs rfl (unhide HH).2.2.2 ((unhide HH).1 _ (bwA _ _)) (unhide HH).2.1 ?c3 ?c4 ?c5 ?nx)
    case c3 => have := (unhide HH).2.2.1; unfold maxLen; omega
    case c4 => have := (unhide HH).2.2.1; omega
    case c5 => simp
    case nx =>
      intro v' w3 hown' hgrow _ hat
      have hb3 : Below w.heap.size w w3 := (bwA w _).grown hgrow (by simp) (fun k hk => by simp [Value.ownBlock] at hk; omega)
      have hown2 : w3.ownsRow w.heap.size 127 2 v' n cs := by simpa using hown'
      have HO := hide (And.intro hown2 hb3)
      clear hown' hgrow hat hown2 hb3
      go_wp2_with fail
      go_ret
      exact ⟨_, rfl, (unhide HO).1, (unhide HO).2⟩
end Go.Proofs.YtgmlkofogeoocaaGreatDoor

/- Nodes and trees: their copies in memory of their own (fresh.Node). -/
namespace Go.Proofs.YtgmlkofogeoocaaGreatDoor
open Go.RowKit Go.Maps
def kNd : EK Nd Value where
  t := 57
  c := 4
  C := ndC
  Z := fun u => u.ownBlock.toList
  R := fun w n u => Nums w u n.un ∧ n.un.length ≤ 1073741824
  O := fun B w n u => Ints B w u n.un
  pos := by decide
  Cl := fun _ _ => rfl
  one := fun w n u h v hv => by
    obtain ⟨a, c, rfl⟩ := nums_slice h.1
    simp only [ndC, List.mem_cons, List.not_mem_nil, or_false] at hv
    rcases hv with rfl | rfl | rfl | rfl <;> rfl
  bw := fun w w' n u h hb => ⟨h.1.bw hb, h.2⟩
  keep := fun B w w' n u h hk => own_keep h (fun k c => hk k (by simp [c]))
  lt := fun B w n u h k hk => World.ownsRow.lt h k (by simpa using hk)
  mono := fun B B' w n u h hB => h.mono hB
theorem Trd.rdl {w : World} {v : Value} {T : List Nd} (h : Trd w v T) (hu : ∀ n ∈ T, n.un.length ≤ 1073741824) : ∃ us, RdL kNd w v T us := by
  obtain ⟨a, c, rfl⟩ := h.slice
  obtain ⟨us, h1, h2, h3⟩ := h.cells
  exact ⟨us, h1, fun i n u hn hx => ⟨h2 i n u hn hx, hu n (List.mem_of_getElem? hn)⟩, a, c, rfl, h3⟩
theorem OwL.otr {B : Nat} {w : World} {v : Value} {T : List Nd} {us : List Value} (h : OwL kNd B w v T us) : OTr B w v T us :=
  ⟨h.xl, h.row, fun i n u hn hx => h.el i n u hn hx, fun i j u u' k h1 h2 hk hk' => h.ap i j u u' k h1 h2 (by show k ∈ u.ownBlock.toList; simp [hk]) (by show k ∈ u'.ownBlock.toList; simp [hk'])⟩
theorem OTr.owl {B : Nat} {w : World} {v : Value} {T : List Nd} {us : List Value} (h : OTr B w v T us) : OwL kNd B w v T us := by
  refine ⟨h.ul, h.row, fun i n u hn hx => h.un i n u hn hx, fun i j x y k h1 h2 hk hk' => h.apart i j x y k h1 h2 (by simpa [kNd] using hk) (by simpa [kNd] using hk'), fun k i x hv hx hk => ?_⟩
  have hi : i < T.length := by rw [← h.ul]; exact (List.getElem?_eq_some_iff.1 hx).1
  have hk' : x.ownBlock = some k := by simpa [kNd] using hk
  exact own_apart h.row (h.un i _ x (List.getElem?_eq_getElem hi) hx) (by decide) hv hk'
theorem nums_src {w : World} {v : Value} {l : List Int} (h : Nums w v l) : ∃ a cap, v = .slice a l.length cap ∧ (l.length = 0 ∨ ∃ g o, a = some ⟨g, o, none⟩ ∧ ∀ j u, (l.map I64)[j]? = some u → w.cell? ⟨g, o + j, none⟩ = some u) := by
  rcases h with ⟨rfl, a, c, rfl, _⟩ | ⟨g, o, cap, rfl, _, _, hc⟩
  · exact ⟨a, c, rfl, Or.inl rfl⟩
  · refine ⟨_, cap, rfl, Or.inr ⟨g, o, rfl, fun j u hj => ?_⟩⟩
    simp only [List.getElem?_map, Option.map_eq_some_iff] at hj
    obtain ⟨z, hz, rfl⟩ := hj
    exact hc j z hz
theorem i64_one (l : List Int) : ∀ u ∈ l.map I64, u.oneCell' = true := by
  intro u hu; obtain ⟨m, _, rfl⟩ := List.mem_map.1 hu; rfl
theorem cloneNums_any {w : World} {v : Value} {l : List Int} (h : Nums w v l) (hl : l.length ≤ 1073741824) :
    Calls Tryz.prog 88 #[v] w fun e w' => ∃ v', e = .returned v' ∧ Ints w.heap.size w' v' l ∧ Below w.heap.size w w' := by
  obtain ⟨a, cap, rfl, hc⟩ := nums_src h
  exact cloneint_any (by simp) (i64_one l) hl hc
def riC (l : List (List Int)) : List Value := (l.map (·.map I64)).flatten
theorem ri_src {c : Nat} (hc0 : 0 < c) {w : World} {v : Value} {l : List (List Int)} (h : RI c w v l) : (riC l).length = l.length * c ∧ (∀ u ∈ riC l, u.oneCell' = true) ∧ ∃ a cap, v = .slice a l.length cap ∧ (l.length = 0 ∨ ∃ g o, a = some ⟨g, o, none⟩ ∧ ∀ j u, (riC l)[j]? = some u → w.cell? ⟨g, o + j, none⟩ = some u) := by
  have hR : ∀ r ∈ l.map (·.map I64), r.length = c := fun r hr => by
    obtain ⟨x, hx, rfl⟩ := List.mem_map.1 hr
    rw [List.length_map]; exact (h.fit x hx).1
  have hlen : (riC l).length = l.length * c := by unfold riC; rw [fl_len hR, List.length_map]
  refine ⟨hlen, ?_, ?_⟩
  · intro u hu
    obtain ⟨r, hr, hu⟩ := List.mem_flatten.1 hu
    obtain ⟨x, hx, rfl⟩ := List.mem_map.1 hr
    obtain ⟨z, _, rfl⟩ := List.mem_map.1 hu
    rfl
  · obtain ⟨a, cap, hv, hc⟩ := h.form
    refine ⟨a, cap, hv, ?_⟩
    rcases hc with c | ⟨g, o, e, hc⟩
    · left; rw [c]; rfl
    · refine Or.inr ⟨g, o, e, fun k u hk => ?_⟩
      have hkl := (List.getElem?_eq_some_iff.1 hk).1
      rw [hlen] at hkl
      obtain ⟨i, j, hj, rfl⟩ : ∃ i j, j < c ∧ k = i * c + j := ⟨k / c, k % c, Nat.mod_lt _ hc0, by rw [Nat.mul_comm]; exact (Nat.div_add_mod k c).symm⟩
      unfold riC at hk
      rw [fl_get hR hj, List.getElem?_map] at hk
      cases hx : l[i]? with
      | none => rw [hx] at hk; simp at hk
      | some x =>
        rw [hx] at hk
        simp only [Option.map_some, Option.bind_some, List.getElem?_map, Option.map_eq_some_iff] at hk
        obtain ⟨z, hz, rfl⟩ := hk
        have := hc i x hx j z hz
        rw [Nat.add_assoc] at this
        exact this
theorem froz_b' {W : World} {k i : Nat} {cs : Array Value} {t : TypeId} (hk : W.heap[k]? = some (.cells cs t (0, 0))) : W.frozen? ⟨k, i, none⟩ = false := by simp [World.frozen?, hk]
structure TwoB (w W : World) (t : TypeId) (cs zs : Array Value) : Prop where
  k1 : W.heap[w.heap.size]? = some (.cells cs t (0, 0))
  k2 : W.heap[w.heap.size + 1]? = some (.cells zs t (0, 0))
  bel : Below w.heap.size w W
theorem TwoB.start (w : World) (t : TypeId) (cs zs : Array Value) : TwoB w ((w.alloc (.cells cs t)).alloc (.cells zs t)) t cs zs := by
  refine ⟨?_, ?_, bw_tr (bwA _ _) (bwA _ _)⟩
  · have h1 := heap_alloc_new w (.cells cs t)
    rw [Below.heap_alloc _ _ _ (by simp)]; exact h1
  · have h2 := heap_alloc_new (w.alloc (.cells cs t)) (.cells zs t)
    have e : (w.alloc (.cells cs t)).heap.size = w.heap.size + 1 := by simp
    rw [e] at h2
    exact h2
theorem TwoB.two {w W : World} {t : TypeId} {cs zs : Array Value} (h : TwoB w W t cs zs) : w.heap.size + 2 ≤ W.heap.size := lt_of_blk h.k2
theorem TwoB.bw {w W W' : World} {t : TypeId} {cs zs : Array Value} (h : TwoB w W t cs zs) (hb : Below W.heap.size W W') : TwoB w W' t cs zs := ⟨kept_b h.k1 (lt_of_blk h.k1) hb, kept_b h.k2 (lt_of_blk h.k2) hb, bw_tr h.bel hb⟩
theorem TwoB.poke {w W : World} {t : TypeId} {cs zs : Array Value} (h : TwoB w W t cs zs) (i : Nat) (v : Value) : TwoB w (W.setCell ⟨w.heap.size, i, none⟩ v) t (cs.setIfInBounds i v) zs ∧ ∀ k, w.heap.size + 2 ≤ k → (W.setCell ⟨w.heap.size, i, none⟩ v).heap[k]? = W.heap[k]? :=
  ⟨⟨poke_b h.k1 v, by rw [other_c (by omega)]; exact h.k2, h.bel.setCell (by simp) v⟩, fun k hk => other_c (by omega)⟩
theorem TwoB.answer {w W : World} {t : TypeId} {cs zs : Array Value} (h : TwoB w W t cs zs) (vs : List Value) (hl : vs.length = zs.size) : (pokes W (w.heap.size + 1) 0 vs).heap[w.heap.size + 1]? = some (.cells vs.toArray t (0, 0)) ∧ Below w.heap.size w (pokes W (w.heap.size + 1) 0 vs) ∧ ∀ k, w.heap.size + 2 ≤ k → (pokes W (w.heap.size + 1) 0 vs).heap[k]? = W.heap[k]? :=
  ⟨by rw [pokes_at _ _ _ _ h.k2, pk_all hl], pokes_below (by omega) _ _ _ h.bel, fun k hk => pokes_other (by omega) _ _ _⟩
set_option maxRecDepth 100000 in
set_option maxHeartbeats 4000000 in
theorem frNode_any {w : World} {n : Nd} {u : Value} (h : Nums w u n.un) (hl : n.un.length ≤ 1073741824) :
    Calls Tryz.prog 111 #[.agg (ndC n u).toArray] w fun e w' => ∃ u', e = .returned (.agg (ndC n u').toArray) ∧ Ints w.heap.size w' u' n.un ∧ Below w.heap.size w w' := by
  obtain ⟨a, c, rfl⟩ := nums_slice h
  obtain ⟨w0, hw0⟩ : ∃ w0, w0 = (w.alloc (.cells (ndC n (.slice a n.un.length c)).toArray 57)).alloc (.cells #[.int .i64 0, .int .i64 0, .int .i64 0, .slice none 0 0] 57) := ⟨_, rfl⟩
  have s0 : TwoB w w0 57 (ndC n (.slice a n.un.length c)).toArray #[.int .i64 0, .int .i64 0, .int .i64 0, .slice none 0 0] := by rw [hw0]; exact TwoB.start _ _ _ _
  have KC := hide (cloneNums_any (h.bw s0.bel) hl)
  clear h hl
  obtain ⟨p, m, e, un⟩ := n
  simp only at KC hw0 s0 ⊢
  have S0 : Hid (TwoB w w0 57 #[.int .i64 p, .int .i64 m, .int .i64 e, .slice a un.length c] #[.int .i64 0, .int .i64 0, .int .i64 0, .slice none 0 0]) := s0
  have HW : Hid (w0 = (w.alloc (.cells #[.int .i64 p, .int .i64 m, .int .i64 e, .slice a un.length c] 57)).alloc (.cells #[.int .i64 0, .int .i64 0, .int .i64 0, .slice none 0 0] 57)) := hw0
  clear hw0 s0
  unfold ndC
  simp only
  generalize hN : un.length = N at *
  have HN := hide hN
  clear hN
  go_enter Tryz.func111, Tryz.ntmps111
  go_upto_region 1 with fail
  rw [← unhide HW]
  clear HW
  have c3 : w0.cell? ⟨w.heap.size, 3, none⟩ = some (.slice a N c) := blk_c (unhide S0).k1 rfl
  go_wp2_with fail
  refine (unhide KC).mono ?_
  rintro x w1 ⟨u', rfl, ho, b1⟩
  obtain ⟨a', c', rfl⟩ := own_slice ho
  have s1 := (unhide S0).bw b1
  have p1 := s1.poke 3 (.slice a' un.length c')
  obtain ⟨V1, hV1⟩ : ∃ V, V = w1.setCell ⟨w.heap.size, 3, none⟩ (.slice a' un.length c') := ⟨_, rfl⟩
  rw [← hV1] at p1
  have s2 : TwoB w V1 57 #[.int .i64 p, .int .i64 m, .int .i64 e, .slice a' un.length c'] #[.int .i64 0, .int .i64 0, .int .i64 0, .slice none 0 0] := p1.1
  have an := s2.answer [.int .i64 p, .int .i64 m, .int .i64 e, .slice a' un.length c'] rfl
  obtain ⟨WZ, hWZ⟩ : ∃ W, W = pokes V1 (w.heap.size + 1) 0 [.int .i64 p, .int .i64 m, .int .i64 e, .slice a' un.length c'] := ⟨_, rfl⟩
  rw [← hWZ] at an
  have HO : Hid (Ints w.heap.size WZ (.slice a' un.length c') un ∧ Below w.heap.size w WZ) := by
    refine ⟨own_keep (ho.mono (by have := (unhide S0).two; omega)) (fun k hk => ?_), an.2.1⟩
    have h1 := (World.ownsRow.lt ho k hk).1
    have h2 := (unhide S0).two
    rw [an.2.2 k (by omega), p1.2 k (by omega)]
  have c3 : w1.cell? ⟨w.heap.size, 3, none⟩ = some (.slice a N c) := blk_c s1.k1 rfl
  have f3 := fun j => froz_b' (i := j) s1.k1
  have d0 : V1.cell? ⟨w.heap.size, 0, none⟩ = some (.int .i64 p) := blk_c s2.k1 rfl
  have d1 : V1.cell? ⟨w.heap.size, 1, none⟩ = some (.int .i64 m) := blk_c s2.k1 rfl
  have d2 : V1.cell? ⟨w.heap.size, 2, none⟩ = some (.int .i64 e) := blk_c s2.k1 rfl
  have d3 : V1.cell? ⟨w.heap.size, 3, none⟩ = some (.slice a' un.length c') := blk_c s2.k1 rfl
  have e0 : V1.cell? ⟨w.heap.size + 1, 0, none⟩ = some (.int .i64 0) := blk_c s2.k2 rfl
  have e1 : V1.cell? ⟨w.heap.size + 1, 1, none⟩ = some (.int .i64 0) := blk_c s2.k2 rfl
  have e2 : V1.cell? ⟨w.heap.size + 1, 2, none⟩ = some (.int .i64 0) := blk_c s2.k2 rfl
  have e3 : V1.cell? ⟨w.heap.size + 1, 3, none⟩ = some (.slice none 0 0) := blk_c s2.k2 rfl
  have fe := fun j => froz_b' (i := j) s2.k2
  have z0 : WZ.cell? ⟨w.heap.size + 1, 0, none⟩ = some (.int .i64 p) := blk_c an.1 rfl
  have z1 : WZ.cell? ⟨w.heap.size + 1, 1, none⟩ = some (.int .i64 m) := blk_c an.1 rfl
  have z2 : WZ.cell? ⟨w.heap.size + 1, 2, none⟩ = some (.int .i64 e) := blk_c an.1 rfl
  have z3 : WZ.cell? ⟨w.heap.size + 1, 3, none⟩ = some (.slice a' un.length c') := blk_c an.1 rfl
  have HV := hide hV1
  have HZ : Hid (WZ = (((V1.setCell ⟨w.heap.size + 1, 0, none⟩ (.int .i64 p)).setCell ⟨w.heap.size + 1, 1, none⟩ (.int .i64 m)).setCell ⟨w.heap.size + 1, 2, none⟩ (.int .i64 e)).setCell ⟨w.heap.size + 1, 3, none⟩ (.slice a' un.length c')) := hWZ
  clear S0 KC ho b1 s1 p1 hV1 s2 an hWZ
  go_upto_region 2 with fail
  rw [← unhide HV]
  clear HV c3 f3
  go_wp2_with fail
  rw [← unhide HZ]
  exact bodyPost_ret (v := .agg #[.int .i64 p, .int .i64 m, .int .i64 e, .slice a' un.length c']) (by simp [results, Tryz.results111, go_sem, z0, z1, z2, z3]) rfl ⟨.slice a' un.length c', rfl, (unhide HO).1, (unhide HO).2⟩
end Go.Proofs.YtgmlkofogeoocaaGreatDoor

/- fresh.List of Nodes: a list of copies, in memory of its own. -/
namespace Go.Proofs.YtgmlkofogeoocaaGreatDoor
open Go.RowKit Go.Maps
set_option maxRecDepth 100000 in
set_option maxHeartbeats 8000000 in
theorem listNode_any {w : World} {v : Value} {l : List Nd} {xs : List Value} (h : RdL kNd w v l xs) (hl : l.length ≤ 1073741824) :
    Calls Tryz.prog 110 #[v, .func (.func 111) #[] #[]] w fun e w' => ∃ v' xs', e = .returned v' ∧ OwL kNd w.heap.size w' v' l xs' ∧ Below w.heap.size w w' := by
  obtain ⟨ad, cap, rfl, hsrc⟩ := h.form
  have KC := hide (cloneNode_any (w := w) (a := ad) (cap := cap) (cs := cellK kNd l xs) (cellK_len h.xl) (cellK_one h.xl h.el) hl (hsrc.imp (fun c => by rw [c]; rfl) (fun c => c)))
  have HC : Hid (∀ (w1 wr : World) (v : Value) (g : Nat) (xs : List Value) (i : Nat), CpL kNd w.heap.size w w1 wr v g l xs i → i < l.length → ∃ (a : Nd) (p : Int) (m : Int) (e : Int) (a1 : Option Addr) (N1 : Nat) (k1 : Nat), l[i]? = some a ∧ (∀ W, Below wr.heap.size wr W → (W.cell? ⟨g, i * 4, none⟩ = some (.int .i64 p) ∧ W.cell? ⟨g, i * 4 + 1, none⟩ = some (.int .i64 m) ∧ W.cell? ⟨g, i * 4 + 2, none⟩ = some (.int .i64 e) ∧ W.cell? ⟨g, i * 4 + 3, none⟩ = some (.slice a1 N1 k1))) ∧
      ∀ W, Below w.heap.size w W → Calls Tryz.prog 111 #[.agg #[.int .i64 p, .int .i64 m, .int .i64 e, .slice a1 N1 k1]] W fun x w' => ∃ a1' k1' x', x = .returned (.agg #[.int .i64 p, .int .i64 m, .int .i64 e, .slice a1' N1 k1']) ∧ Hid (kNd.O W.heap.size w' a x' ∧ kNd.C a x' = [.int .i64 p, .int .i64 m, .int .i64 e, .slice a1' N1 k1']) ∧ Below W.heap.size W w') := by
    intro w1 wr v g xs i hcp hi
    obtain ⟨a, x, ha, hx, hR, hc⟩ := hcp.at hi
    obtain ⟨q, hq⟩ := nums_slice hR.1
    obtain ⟨k1, rfl⟩ := hq
    have KF := fun W hW => frNode_any (w := W) (hR.1.bw hW) hR.2
    obtain ⟨p, m, e, un⟩ := a
    refine ⟨⟨p, m, e, un⟩, p, m, e, q, un.length, k1, ha, fun W hW => ?_, fun W hW => ?_⟩
    · have e := fun j u hu => by have := hc j u hu; rw [← (hW.cell (lt_of_cell this))] at this; exact this
      exact ⟨e 0 _ rfl, e 1 _ rfl, e 2 _ rfl, e 3 _ rfl⟩
    · have hR' := hR
      refine (KF W hW).mono ?_
      rintro y w' ⟨u', rfl, ho, hb⟩
      obtain ⟨a1', k1', rfl⟩ := own_slice ho
      exact ⟨a1', k1', _, rfl, ⟨ho, rfl⟩, hb⟩
  have HR := hide h
  obtain ⟨N, hN⟩ : ∃ N, N = l.length := ⟨_, rfl⟩
  rw [← hN] at KC HC hl ⊢
  have hNI : (N : Int) ≤ 1073741824 := by omega
  have HN := hide hN
  clear h hsrc hl hN
  rcases Nat.eq_zero_or_pos N with h0 | h0
  · subst h0
    go_enter Tryz.func110, Tryz.ntmps110
    go_wp2_with fail
    refine (unhide KC).mono ?_
    rintro e w1 ⟨v1, rfl, ho, b1⟩
    obtain ⟨a1, c1, rfl⟩ := own_slice ho
    have HO := hide (And.intro ho b1)
    clear ho b1 KC HC
    go_wp2_with fail
    go_loopw [12] (fun iv wr => iv = .int .i64 0 ∧ wr = w1) (fun _ _ => 0)
    case atStart => exact ⟨rfl, rfl⟩
    case round =>
      obtain ⟨rfl, rfl⟩ := hrel
      go_wp2_with fail
      go_ret
      have hl0 : l = [] := List.eq_nil_of_length_eq_zero (unhide HN).symm
      have hx0 : xs = [] := List.eq_nil_of_length_eq_zero (by rw [(unhide HR).xl, hl0]; rfl)
      subst hl0 hx0
      exact ⟨_, [], rfl, ⟨rfl, (unhide HO).1, by simp, by simp, by simp⟩, (unhide HO).2⟩
  · go_enter Tryz.func110, Tryz.ntmps110
    go_wp2_with fail
    refine (unhide KC).mono ?_
    rintro e w1 ⟨v1, rfl, ho, b1⟩
    obtain ⟨g, c1, rfl, hg, _, _⟩ := own_open ho h0
    have S0 : Hid (CpL kNd w.heap.size w w1 w1 (.slice (some ⟨g, 0, none⟩) N c1) g l xs 0) := CpL.start (unhide HR) (by rw [← unhide HN]; exact ho) rfl
    have HB := hide (And.intro b1 hg)
    clear ho b1 KC hg
    go_wp2_with fail
    go_loopw [12] (fun iv wr => ∃ (i : Nat) (xs' : List Value), iv = .int .i64 (i : Int) ∧ i ≤ N ∧ Hid (CpL kNd w.heap.size w w1 wr (.slice (some ⟨g, 0, none⟩) N c1) g l xs' i)) (fun iv _ => (N - intOf iv).toNat)
    case atStart => exact ⟨0, xs, rfl, Nat.zero_le _, S0⟩
    case round =>
      clear S0
      obtain ⟨i, xs', rfl, hi, HS⟩ := hrel
      by_cases hlt : i < N
      · obtain ⟨a, p, m, e, a1, N1, k1, ha, hcl, KF⟩ := unhide HC w1 wr _ g xs' i (unhide HS) hlt
        obtain ⟨c0_, c1_, c2_, c3_⟩ := hcl wr (Below.refl _ _)
        obtain ⟨W1, hW1⟩ : ∃ W, W = wr.alloc (.cells #[.int .i64 p, .int .i64 m, .int .i64 e, .slice a1 N1 k1] 57) := ⟨_, rfl⟩
        have hz : W1.heap[wr.heap.size]? = some (.cells #[.int .i64 p, .int .i64 m, .int .i64 e, .slice a1 N1 k1] 57 (0, 0)) := by
          rw [hW1]; exact heap_alloc_new _ _
        have bz : Below wr.heap.size wr W1 := by rw [hW1]; exact bwA _ _
        have bw1 : Below w.heap.size w W1 := bw_tr (Fr.toBase (unhide HB).1 (unhide HS).fr (by intro x hx; rw [List.mem_singleton] at hx; subst hx; exact (World.ownsRow.lt (unhide HS).row x (unhide HS).own).1)) bz
        have q1 : (i : Int) < (N : Int) := by omega
        have q0 : (0 : Int) ≤ (i : Int) := by omega
        have z0_ : W1.cell? ⟨wr.heap.size, 0, none⟩ = some (.int .i64 p) := blk_c hz rfl
        have z1_ : W1.cell? ⟨wr.heap.size, 1, none⟩ = some (.int .i64 m) := blk_c hz rfl
        have z2_ : W1.cell? ⟨wr.heap.size, 2, none⟩ = some (.int .i64 e) := blk_c hz rfl
        have z3_ : W1.cell? ⟨wr.heap.size, 3, none⟩ = some (.slice a1 N1 k1) := blk_c hz rfl
        have HW : Hid (W1 = wr.alloc (.cells #[.int .i64 p, .int .i64 m, .int .i64 e, .slice a1 N1 k1] 57)) := hW1
        have KF1 := hide (KF W1 bw1)
        have HX0 := hide (And.intro ha (And.intro bz (fun W hW => hcl W hW)))
        clear hW1 hz bz bw1 KF ha hcl
        go_upto_region 5 with fail
        rw [← unhide HW]
        clear HW c0_ c1_ c2_ c3_
        go_wp2_with fail
        refine (unhide KF1).mono ?_
        rintro x w2 ⟨a1', k1', x', rfl, hO, b2⟩
        obtain ⟨d0_, d1_, d2_, d3_⟩ := (unhide HX0).2.2 w2 (bw_tr (unhide HX0).2.1 b2)
        have hS2 := (unhide HS).bw (bw_tr (unhide HX0).2.1 b2)
        have fz := fun j => own_frozen hS2.row (g := g) rfl j
        have HX : Hid (CpL kNd w.heap.size w w1 (((((w2).setCell ⟨g, i * 4, none⟩ (.int .i64 p)).setCell ⟨g, i * 4 + 1, none⟩ (.int .i64 m)).setCell ⟨g, i * 4 + 2, none⟩ (.int .i64 e)).setCell ⟨g, i * 4 + 3, none⟩ (.slice a1' N1 k1')) (.slice (some ⟨g, 0, none⟩) N c1) g l (xs'.set i x') (i + 1)) := by
          have := ((unhide HS).bw (unhide HX0).2.1).step (unhide HX0).1 b2 (unhide hO).1 (unhide HB).2
          rw [(unhide hO).2] at this
          exact this
        clear hS2 HX0 hO b2 KF1 z0_ z1_ z2_ z3_
        go_wp2_with fail
        go_roundw
        case rel => exact ⟨i + 1, _, by go_num, by omega, HX⟩
        case measure => simp [intOf]; omega
      · obtain rfl : i = N := by omega
        have HO : Hid (OwL kNd w.heap.size wr (.slice (some ⟨g, 0, none⟩) i c1) l xs' ∧ Below w.heap.size w wr) := by
          have hS := unhide HS
          refine ⟨?_, Fr.toBase (unhide HB).1 hS.fr (by intro x hx; rw [List.mem_singleton] at hx; subst hx; exact (World.ownsRow.lt hS.row x hS.own).1)⟩
          have e := unhide HN
          have hS' : CpL kNd w.heap.size w w1 wr (.slice (some ⟨g, 0, none⟩) i c1) g l xs' l.length := by rw [← e]; exact hS
          exact hS'.done (unhide HB).1.size (unhide HB).2
        clear HS HC
        go_wp2_with fail
        go_ret
        exact ⟨_, xs', rfl, (unhide HO).1, (unhide HO).2⟩
end Go.Proofs.YtgmlkofogeoocaaGreatDoor
