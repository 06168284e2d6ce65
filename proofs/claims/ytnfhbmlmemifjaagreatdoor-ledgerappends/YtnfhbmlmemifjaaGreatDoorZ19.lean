/- Texts joined: LgI LgJ LgKNode LgL. -/
import Derived.Test.YtnfhbmlmemifjaaGreatDoorZ12
import Derived.Lib.SliceRun
import Derived.Maps.AppendAt
import Derived.Deep.RegionLaw
/- The library's slices.Clone, at every kind of list that package fresh copies. -/
namespace Go.Proofs.YtnfhbmlmemifjaaGreatDoor
open Go.RowKit Go.Maps
theorem infoKint : (Tryz.prog.info? 3).map (fun i => (i.zero, i.size, i.bytes)) = some (some (.int .i64 0), 1, 8) := by kernel_rfl
set_option maxRecDepth 100000 in
set_option maxHeartbeats 4000000 in
theorem cloneint_any {w : World} {a : Option Addr} {n cap : Nat} {cs : List Value} (hl : cs.length = n * 1) (h1 : ∀ u ∈ cs, u.oneCell' = true) (hn : n ≤ 1073741824) (hc : n = 0 ∨ ∃ g o, a = some ⟨g, o, none⟩ ∧ ∀ j u, cs[j]? = some u → w.cell? ⟨g, o + j, none⟩ = some u) :
    Calls Tryz.prog 178 #[.slice a n cap] w fun e w' => ∃ v', e = .returned v' ∧ w'.ownsRow w.heap.size 3 1 v' n cs ∧ Below w.heap.size w w' := by
  obtain ⟨j0, hj, hy0, hy1, hyb⟩ := info_parts infoKint
  have hnil := fun (W : World) => Lib.run_eql_slice_nil (P := Tryz.prog) W 27 3 a n cap 0 0 Tryz.underlying27
  cases a with
  | none =>
    have hn0 : n = 0 := by
      rcases hc with c | ⟨g, o, c, _⟩
      · exact c
      · cases c
    subst hn0
    have hcs : cs = [] := List.eq_nil_of_length_eq_zero (by omega)
    subst hcs
    clear hc
    simp only [Option.isNone_none] at hnil ⊢
    go_enter Tryz.func178, Tryz.ntmps178
    go_wp2_with fail
    go_ret
    exact ⟨_, rfl, World.ownsRow_nil _ _ _ _, Below.refl _ _⟩
  | some ad =>
    have hcell : ∀ (W : World), Below w.heap.size w W → ∀ j u, cs[j]? = some u → W.cell? (ad.add j) = some u := by
      intro W hW j u hj
      rcases hc with c | ⟨g, o, c, hc⟩
      · have : cs = [] := List.eq_nil_of_length_eq_zero (by omega)
        subst this; simp at hj
      · simp at c; subst c
        have := hc j u hj
        have e : (⟨g, o, none⟩ : Addr).add j = ⟨g, o + j, none⟩ := by unfold Addr.add; by_cases hz : j = 0 <;> simp [hz]
        rw [e, World.cell?_of_block (w := w) (hW.block _ (lt_of_cell this))]
        exact this
    have hrow := World.ownsRow_made (base := w.heap.size) (e := 3) (size := 1) w #[] 0 (Nat.le_refl _) (by unfold maxLen; omega) rfl
    have HH := hide (And.intro hcell (And.intro h1 (And.intro hn hl)))
    clear hc hcell h1 hl hn
    go_enter Tryz.func178, Tryz.ntmps178
    go_wp2_with (at_builtin; refine wpList_append_own_at _ rfl (.tmp 5) (.tmp 6) 27 rfl w.heap.size 3 j0 (.int .i64 0) 1 8 Tryz.underlying27 hj hy0 hy1 hyb rfl (by decide) _ 0 [] rfl hrow ad n cap cs rfl (unhide HH).2.2.2 ((unhide HH).1 _ (bwA _ _)) (unhide HH).2.1 ?c3 ?c4 ?c5 ?nx)
    case c3 => have := (unhide HH).2.2.1; unfold maxLen; omega
    case c4 => have := (unhide HH).2.2.1; omega
    case c5 => simp
    case nx =>
      intro v' w3 hown' hgrow _ hat
      have hb3 : Below w.heap.size w w3 := (bwA w _).grown hgrow (by simp) (fun k hk => by simp [Value.ownBlock] at hk; omega)
      have hown2 : w3.ownsRow w.heap.size 3 1 v' n cs := by simpa using hown'
      have HO := hide (And.intro hown2 hb3)
      clear hown' hgrow hat hown2 hb3
      go_wp2_with fail
      go_ret
      exact ⟨_, rfl, (unhide HO).1, (unhide HO).2⟩
theorem infoKNode : (Tryz.prog.info? 256).map (fun i => (i.zero, i.size, i.bytes)) = some (some (.agg #[.int .i64 0, .int .i64 0, .int .i64 0, .slice none 0 0]), 4, 48) := by kernel_rfl
set_option maxRecDepth 100000 in
set_option maxHeartbeats 4000000 in
theorem cloneNode_any {w : World} {a : Option Addr} {n cap : Nat} {cs : List Value} (hl : cs.length = n * 4) (h1 : ∀ u ∈ cs, u.oneCell' = true) (hn : n ≤ 1073741824) (hc : n = 0 ∨ ∃ g o, a = some ⟨g, o, none⟩ ∧ ∀ j u, cs[j]? = some u → w.cell? ⟨g, o + j, none⟩ = some u) :
    Calls Tryz.prog 303 #[.slice a n cap] w fun e w' => ∃ v', e = .returned v' ∧ w'.ownsRow w.heap.size 256 4 v' n cs ∧ Below w.heap.size w w' := by
  obtain ⟨j0, hj, hy0, hy1, hyb⟩ := info_parts infoKNode
  have hnil := fun (W : World) => Lib.run_eql_slice_nil (P := Tryz.prog) W 30 256 a n cap 0 0 Tryz.underlying30
  cases a with
  | none =>
    have hn0 : n = 0 := by
      rcases hc with c | ⟨g, o, c, _⟩
      · exact c
      · cases c
    subst hn0
    have hcs : cs = [] := List.eq_nil_of_length_eq_zero (by omega)
    subst hcs
    clear hc
    simp only [Option.isNone_none] at hnil ⊢
    go_enter Tryz.func303, Tryz.ntmps303
    go_wp2_with fail
    go_ret
    exact ⟨_, rfl, World.ownsRow_nil _ _ _ _, Below.refl _ _⟩
  | some ad =>
    have hcell : ∀ (W : World), Below w.heap.size w W → ∀ j u, cs[j]? = some u → W.cell? (ad.add j) = some u := by
      intro W hW j u hj
      rcases hc with c | ⟨g, o, c, hc⟩
      · have : cs = [] := List.eq_nil_of_length_eq_zero (by omega)
        subst this; simp at hj
      · simp at c; subst c
        have := hc j u hj
        have e : (⟨g, o, none⟩ : Addr).add j = ⟨g, o + j, none⟩ := by unfold Addr.add; by_cases hz : j = 0 <;> simp [hz]
        rw [e, World.cell?_of_block (w := w) (hW.block _ (lt_of_cell this))]
        exact this
    have hrow := World.ownsRow_made (base := w.heap.size) (e := 256) (size := 4) w #[] 0 (Nat.le_refl _) (by unfold maxLen; omega) rfl
    have HH := hide (And.intro hcell (And.intro h1 (And.intro hn hl)))
    clear hc hcell h1 hl hn
    go_enter Tryz.func303, Tryz.ntmps303
    go_wp2_with (at_builtin; refine wpList_append_own_at _ rfl (.tmp 5) (.tmp 6) 30 rfl w.heap.size 256 j0 (.agg #[.int .i64 0, .int .i64 0, .int .i64 0, .slice none 0 0]) 4 48 Tryz.underlying30 hj hy0 hy1 hyb rfl (by decide) _ 0 [] rfl hrow ad n cap cs rfl (unhide HH).2.2.2 ((unhide HH).1 _ (bwA _ _)) (unhide HH).2.1 ?c3 ?c4 ?c5 ?nx)
    case c3 => have := (unhide HH).2.2.1; unfold maxLen; omega
    case c4 => have := (unhide HH).2.2.1; omega
    case c5 => simp
    case nx =>
      intro v' w3 hown' hgrow _ hat
      have hb3 : Below w.heap.size w w3 := (bwA w _).grown hgrow (by simp) (fun k hk => by simp [Value.ownBlock] at hk; omega)
      have hown2 : w3.ownsRow w.heap.size 256 4 v' n cs := by simpa using hown'
      have HO := hide (And.intro hown2 hb3)
      clear hown' hgrow hat hown2 hb3
      go_wp2_with fail
      go_ret
      exact ⟨_, rfl, (unhide HO).1, (unhide HO).2⟩
theorem infoKCommit : (Tryz.prog.info? 34).map (fun i => (i.zero, i.size, i.bytes)) = some (some (.agg cm0), 15, 200) := by kernel_rfl
set_option maxRecDepth 100000 in
set_option maxHeartbeats 4000000 in
theorem cloneCommit_any {w : World} {a : Option Addr} {n cap : Nat} {cs : List Value} (hl : cs.length = n * 15) (h1 : ∀ u ∈ cs, u.oneCell' = true) (hn : n ≤ 1073741824) (hc : n = 0 ∨ ∃ g o, a = some ⟨g, o, none⟩ ∧ ∀ j u, cs[j]? = some u → w.cell? ⟨g, o + j, none⟩ = some u) :
    Calls Tryz.prog 300 #[.slice a n cap] w fun e w' => ∃ v', e = .returned v' ∧ w'.ownsRow w.heap.size 34 15 v' n cs ∧ Below w.heap.size w w' := by
  obtain ⟨j0, hj, hy0, hy1, hyb⟩ := info_parts infoKCommit
  have hnil := fun (W : World) => Lib.run_eql_slice_nil (P := Tryz.prog) W 93 34 a n cap 0 0 Tryz.underlying93
  cases a with
  | none =>
    have hn0 : n = 0 := by
      rcases hc with c | ⟨g, o, c, _⟩
      · exact c
      · cases c
    subst hn0
    have hcs : cs = [] := List.eq_nil_of_length_eq_zero (by omega)
    subst hcs
    clear hc
    simp only [Option.isNone_none] at hnil ⊢
    go_enter Tryz.func300, Tryz.ntmps300
    go_wp2_with fail
    go_ret
    exact ⟨_, rfl, World.ownsRow_nil _ _ _ _, Below.refl _ _⟩
  | some ad =>
    have hcell : ∀ (W : World), Below w.heap.size w W → ∀ j u, cs[j]? = some u → W.cell? (ad.add j) = some u := by
      intro W hW j u hj
      rcases hc with c | ⟨g, o, c, hc⟩
      · have : cs = [] := List.eq_nil_of_length_eq_zero (by omega)
        subst this; simp at hj
      · simp at c; subst c
        have := hc j u hj
        have e : (⟨g, o, none⟩ : Addr).add j = ⟨g, o + j, none⟩ := by unfold Addr.add; by_cases hz : j = 0 <;> simp [hz]
        rw [e, World.cell?_of_block (w := w) (hW.block _ (lt_of_cell this))]
        exact this
    have hrow := World.ownsRow_made (base := w.heap.size) (e := 34) (size := 15) w #[] 0 (Nat.le_refl _) (by unfold maxLen; omega) rfl
    have HH := hide (And.intro hcell (And.intro h1 (And.intro hn hl)))
    clear hc hcell h1 hl hn
    go_enter Tryz.func300, Tryz.ntmps300
    go_wp2_with (at_builtin; refine wpList_append_own_at _ rfl (.tmp 5) (.tmp 6) 93 rfl w.heap.size 34 j0 (.agg cm0) 15 200 Tryz.underlying93 hj hy0 hy1 hyb rfl (by decide) _ 0 [] rfl hrow ad n cap cs rfl (unhide HH).2.2.2 ((unhide HH).1 _ (bwA _ _)) (unhide HH).2.1 ?c3 ?c4 ?c5 ?nx)
    case c3 => have := (unhide HH).2.2.1; unfold maxLen; omega
    case c4 => have := (unhide HH).2.2.1; omega
    case c5 => simp
    case nx =>
      intro v' w3 hown' hgrow _ hat
      have hb3 : Below w.heap.size w w3 := (bwA w _).grown hgrow (by simp) (fun k hk => by simp [Value.ownBlock] at hk; omega)
      have hown2 : w3.ownsRow w.heap.size 34 15 v' n cs := by simpa using hown'
      have HO := hide (And.intro hown2 hb3)
      clear hown' hgrow hat hown2 hb3
      go_wp2_with fail
      go_ret
      exact ⟨_, rfl, (unhide HO).1, (unhide HO).2⟩
theorem infoKLog : (Tryz.prog.info? 95).map (fun i => (i.zero, i.size, i.bytes)) = some (some (.agg #[.int .i64 0, .slice none 0 0]), 2, 32) := by kernel_rfl
set_option maxRecDepth 100000 in
set_option maxHeartbeats 4000000 in
theorem cloneLog_any {w : World} {a : Option Addr} {n cap : Nat} {cs : List Value} (hl : cs.length = n * 2) (h1 : ∀ u ∈ cs, u.oneCell' = true) (hn : n ≤ 1073741824) (hc : n = 0 ∨ ∃ g o, a = some ⟨g, o, none⟩ ∧ ∀ j u, cs[j]? = some u → w.cell? ⟨g, o + j, none⟩ = some u) :
    Calls Tryz.prog 264 #[.slice a n cap] w fun e w' => ∃ v', e = .returned v' ∧ w'.ownsRow w.heap.size 95 2 v' n cs ∧ Below w.heap.size w w' := by
  obtain ⟨j0, hj, hy0, hy1, hyb⟩ := info_parts infoKLog
  have hnil := fun (W : World) => Lib.run_eql_slice_nil (P := Tryz.prog) W 22 95 a n cap 0 0 Tryz.underlying22
  cases a with
  | none =>
    have hn0 : n = 0 := by
      rcases hc with c | ⟨g, o, c, _⟩
      · exact c
      · cases c
    subst hn0
    have hcs : cs = [] := List.eq_nil_of_length_eq_zero (by omega)
    subst hcs
    clear hc
    simp only [Option.isNone_none] at hnil ⊢
    go_enter Tryz.func264, Tryz.ntmps264
    go_wp2_with fail
    go_ret
    exact ⟨_, rfl, World.ownsRow_nil _ _ _ _, Below.refl _ _⟩
  | some ad =>
    have hcell : ∀ (W : World), Below w.heap.size w W → ∀ j u, cs[j]? = some u → W.cell? (ad.add j) = some u := by
      intro W hW j u hj
      rcases hc with c | ⟨g, o, c, hc⟩
      · have : cs = [] := List.eq_nil_of_length_eq_zero (by omega)
        subst this; simp at hj
      · simp at c; subst c
        have := hc j u hj
        have e : (⟨g, o, none⟩ : Addr).add j = ⟨g, o + j, none⟩ := by unfold Addr.add; by_cases hz : j = 0 <;> simp [hz]
        rw [e, World.cell?_of_block (w := w) (hW.block _ (lt_of_cell this))]
        exact this
    have hrow := World.ownsRow_made (base := w.heap.size) (e := 95) (size := 2) w #[] 0 (Nat.le_refl _) (by unfold maxLen; omega) rfl
    have HH := hide (And.intro hcell (And.intro h1 (And.intro hn hl)))
    clear hc hcell h1 hl hn
    go_enter Tryz.func264, Tryz.ntmps264
    go_wp2_with (at_builtin; refine wpList_append_own_at _ rfl (.tmp 5) (.tmp 6) 22 rfl w.heap.size 95 j0 (.agg #[.int .i64 0, .slice none 0 0]) 2 32 Tryz.underlying22 hj hy0 hy1 hyb rfl (by decide) _ 0 [] rfl hrow ad n cap cs rfl (unhide HH).2.2.2 ((unhide HH).1 _ (bwA _ _)) (unhide HH).2.1 ?c3 ?c4 ?c5 ?nx)
    case c3 => have := (unhide HH).2.2.1; unfold maxLen; omega
    case c4 => have := (unhide HH).2.2.1; omega
    case c5 => simp
    case nx =>
      intro v' w3 hown' hgrow _ hat
      have hb3 : Below w.heap.size w w3 := (bwA w _).grown hgrow (by simp) (fun k hk => by simp [Value.ownBlock] at hk; omega)
      have hown2 : w3.ownsRow w.heap.size 95 2 v' n cs := by simpa using hown'
      have HO := hide (And.intro hown2 hb3)
      clear hown' hgrow hat hown2 hb3
      go_wp2_with fail
      go_ret
      exact ⟨_, rfl, (unhide HO).1, (unhide HO).2⟩
theorem infoKAdd : (Tryz.prog.info? 131).map (fun i => (i.zero, i.size, i.bytes)) = some (some (.agg #[.int .i64 0, .int .i64 0, .int .i64 0]), 3, 24) := by kernel_rfl
set_option maxRecDepth 100000 in
set_option maxHeartbeats 4000000 in
theorem cloneAdd_any {w : World} {a : Option Addr} {n cap : Nat} {cs : List Value} (hl : cs.length = n * 3) (h1 : ∀ u ∈ cs, u.oneCell' = true) (hn : n ≤ 1073741824) (hc : n = 0 ∨ ∃ g o, a = some ⟨g, o, none⟩ ∧ ∀ j u, cs[j]? = some u → w.cell? ⟨g, o + j, none⟩ = some u) :
    Calls Tryz.prog 177 #[.slice a n cap] w fun e w' => ∃ v', e = .returned v' ∧ w'.ownsRow w.heap.size 131 3 v' n cs ∧ Below w.heap.size w w' := by
  obtain ⟨j0, hj, hy0, hy1, hyb⟩ := info_parts infoKAdd
  have hnil := fun (W : World) => Lib.run_eql_slice_nil (P := Tryz.prog) W 26 131 a n cap 0 0 Tryz.underlying26
  cases a with
  | none =>
    have hn0 : n = 0 := by
      rcases hc with c | ⟨g, o, c, _⟩
      · exact c
      · cases c
    subst hn0
    have hcs : cs = [] := List.eq_nil_of_length_eq_zero (by omega)
    subst hcs
    clear hc
    simp only [Option.isNone_none] at hnil ⊢
    go_enter Tryz.func177, Tryz.ntmps177
    go_wp2_with fail
    go_ret
    exact ⟨_, rfl, World.ownsRow_nil _ _ _ _, Below.refl _ _⟩
  | some ad =>
    have hcell : ∀ (W : World), Below w.heap.size w W → ∀ j u, cs[j]? = some u → W.cell? (ad.add j) = some u := by
      intro W hW j u hj
      rcases hc with c | ⟨g, o, c, hc⟩
      · have : cs = [] := List.eq_nil_of_length_eq_zero (by omega)
        subst this; simp at hj
      · simp at c; subst c
        have := hc j u hj
        have e : (⟨g, o, none⟩ : Addr).add j = ⟨g, o + j, none⟩ := by unfold Addr.add; by_cases hz : j = 0 <;> simp [hz]
        rw [e, World.cell?_of_block (w := w) (hW.block _ (lt_of_cell this))]
        exact this
    have hrow := World.ownsRow_made (base := w.heap.size) (e := 131) (size := 3) w #[] 0 (Nat.le_refl _) (by unfold maxLen; omega) rfl
    have HH := hide (And.intro hcell (And.intro h1 (And.intro hn hl)))
    clear hc hcell h1 hl hn
    go_enter Tryz.func177, Tryz.ntmps177
    go_wp2_with (at_builtin; refine wpList_append_own_at _ rfl (.tmp 5) (.tmp 6) 26 rfl w.heap.size 131 j0 (.agg #[.int .i64 0, .int .i64 0, .int .i64 0]) 3 24 Tryz.underlying26 hj hy0 hy1 hyb rfl (by decide) _ 0 [] rfl hrow ad n cap cs rfl (unhide HH).2.2.2 ((unhide HH).1 _ (bwA _ _)) (unhide HH).2.1 ?c3 ?c4 ?c5 ?nx)
    case c3 => have := (unhide HH).2.2.1; unfold maxLen; omega
    case c4 => have := (unhide HH).2.2.1; omega
    case c5 => simp
    case nx =>
      intro v' w3 hown' hgrow _ hat
      have hb3 : Below w.heap.size w w3 := (bwA w _).grown hgrow (by simp) (fun k hk => by simp [Value.ownBlock] at hk; omega)
      have hown2 : w3.ownsRow w.heap.size 131 3 v' n cs := by simpa using hown'
      have HO := hide (And.intro hown2 hb3)
      clear hown' hgrow hat hown2 hb3
      go_wp2_with fail
      go_ret
      exact ⟨_, rfl, (unhide HO).1, (unhide HO).2⟩
theorem infoKSeal : (Tryz.prog.info? 133).map (fun i => (i.zero, i.size, i.bytes)) = some (some (.agg #[.int .i64 0, .int .i64 0, .int .i64 0]), 3, 24) := by kernel_rfl
set_option maxRecDepth 100000 in
set_option maxHeartbeats 4000000 in
theorem cloneSeal_any {w : World} {a : Option Addr} {n cap : Nat} {cs : List Value} (hl : cs.length = n * 3) (h1 : ∀ u ∈ cs, u.oneCell' = true) (hn : n ≤ 1073741824) (hc : n = 0 ∨ ∃ g o, a = some ⟨g, o, none⟩ ∧ ∀ j u, cs[j]? = some u → w.cell? ⟨g, o + j, none⟩ = some u) :
    Calls Tryz.prog 179 #[.slice a n cap] w fun e w' => ∃ v', e = .returned v' ∧ w'.ownsRow w.heap.size 133 3 v' n cs ∧ Below w.heap.size w w' := by
  obtain ⟨j0, hj, hy0, hy1, hyb⟩ := info_parts infoKSeal
  have hnil := fun (W : World) => Lib.run_eql_slice_nil (P := Tryz.prog) W 28 133 a n cap 0 0 Tryz.underlying28
  cases a with
  | none =>
    have hn0 : n = 0 := by
      rcases hc with c | ⟨g, o, c, _⟩
      · exact c
      · cases c
    subst hn0
    have hcs : cs = [] := List.eq_nil_of_length_eq_zero (by omega)
    subst hcs
    clear hc
    simp only [Option.isNone_none] at hnil ⊢
    go_enter Tryz.func179, Tryz.ntmps179
    go_wp2_with fail
    go_ret
    exact ⟨_, rfl, World.ownsRow_nil _ _ _ _, Below.refl _ _⟩
  | some ad =>
    have hcell : ∀ (W : World), Below w.heap.size w W → ∀ j u, cs[j]? = some u → W.cell? (ad.add j) = some u := by
      intro W hW j u hj
      rcases hc with c | ⟨g, o, c, hc⟩
      · have : cs = [] := List.eq_nil_of_length_eq_zero (by omega)
        subst this; simp at hj
      · simp at c; subst c
        have := hc j u hj
        have e : (⟨g, o, none⟩ : Addr).add j = ⟨g, o + j, none⟩ := by unfold Addr.add; by_cases hz : j = 0 <;> simp [hz]
        rw [e, World.cell?_of_block (w := w) (hW.block _ (lt_of_cell this))]
        exact this
    have hrow := World.ownsRow_made (base := w.heap.size) (e := 133) (size := 3) w #[] 0 (Nat.le_refl _) (by unfold maxLen; omega) rfl
    have HH := hide (And.intro hcell (And.intro h1 (And.intro hn hl)))
    clear hc hcell h1 hl hn
    go_enter Tryz.func179, Tryz.ntmps179
    go_wp2_with (at_builtin; refine wpList_append_own_at _ rfl (.tmp 5) (.tmp 6) 28 rfl w.heap.size 133 j0 (.agg #[.int .i64 0, .int .i64 0, .int .i64 0]) 3 24 Tryz.underlying28 hj hy0 hy1 hyb rfl (by decide) _ 0 [] rfl hrow ad n cap cs rfl (unhide HH).2.2.2 ((unhide HH).1 _ (bwA _ _)) (unhide HH).2.1 ?c3 ?c4 ?c5 ?nx)
    case c3 => have := (unhide HH).2.2.1; unfold maxLen; omega
    case c4 => have := (unhide HH).2.2.1; omega
    case c5 => simp
    case nx =>
      intro v' w3 hown' hgrow _ hat
      have hb3 : Below w.heap.size w w3 := (bwA w _).grown hgrow (by simp) (fun k hk => by simp [Value.ownBlock] at hk; omega)
      have hown2 : w3.ownsRow w.heap.size 133 3 v' n cs := by simpa using hown'
      have HO := hide (And.intro hown2 hb3)
      clear hown' hgrow hat hown2 hb3
      go_wp2_with fail
      go_ret
      exact ⟨_, rfl, (unhide HO).1, (unhide HO).2⟩
theorem infoKJoin : (Tryz.prog.info? 135).map (fun i => (i.zero, i.size, i.bytes)) = some (some (.agg #[.int .i64 0, .int .i64 0]), 2, 16) := by kernel_rfl
set_option maxRecDepth 100000 in
set_option maxHeartbeats 4000000 in
theorem cloneJoin_any {w : World} {a : Option Addr} {n cap : Nat} {cs : List Value} (hl : cs.length = n * 2) (h1 : ∀ u ∈ cs, u.oneCell' = true) (hn : n ≤ 1073741824) (hc : n = 0 ∨ ∃ g o, a = some ⟨g, o, none⟩ ∧ ∀ j u, cs[j]? = some u → w.cell? ⟨g, o + j, none⟩ = some u) :
    Calls Tryz.prog 180 #[.slice a n cap] w fun e w' => ∃ v', e = .returned v' ∧ w'.ownsRow w.heap.size 135 2 v' n cs ∧ Below w.heap.size w w' := by
  obtain ⟨j0, hj, hy0, hy1, hyb⟩ := info_parts infoKJoin
  have hnil := fun (W : World) => Lib.run_eql_slice_nil (P := Tryz.prog) W 29 135 a n cap 0 0 Tryz.underlying29
  cases a with
  | none =>
    have hn0 : n = 0 := by
      rcases hc with c | ⟨g, o, c, _⟩
      · exact c
      · cases c
    subst hn0
    have hcs : cs = [] := List.eq_nil_of_length_eq_zero (by omega)
    subst hcs
    clear hc
    simp only [Option.isNone_none] at hnil ⊢
    go_enter Tryz.func180, Tryz.ntmps180
    go_wp2_with fail
    go_ret
    exact ⟨_, rfl, World.ownsRow_nil _ _ _ _, Below.refl _ _⟩
  | some ad =>
    have hcell : ∀ (W : World), Below w.heap.size w W → ∀ j u, cs[j]? = some u → W.cell? (ad.add j) = some u := by
      intro W hW j u hj
      rcases hc with c | ⟨g, o, c, hc⟩
      · have : cs = [] := List.eq_nil_of_length_eq_zero (by omega)
        subst this; simp at hj
      · simp at c; subst c
        have := hc j u hj
        have e : (⟨g, o, none⟩ : Addr).add j = ⟨g, o + j, none⟩ := by unfold Addr.add; by_cases hz : j = 0 <;> simp [hz]
        rw [e, World.cell?_of_block (w := w) (hW.block _ (lt_of_cell this))]
        exact this
    have hrow := World.ownsRow_made (base := w.heap.size) (e := 135) (size := 2) w #[] 0 (Nat.le_refl _) (by unfold maxLen; omega) rfl
    have HH := hide (And.intro hcell (And.intro h1 (And.intro hn hl)))
    clear hc hcell h1 hl hn
    go_enter Tryz.func180, Tryz.ntmps180
    go_wp2_with (at_builtin; refine wpList_append_own_at _ rfl (.tmp 5) (.tmp 6) 29 rfl w.heap.size 135 j0 (.agg #[.int .i64 0, .int .i64 0]) 2 16 Tryz.underlying29 hj hy0 hy1 hyb rfl (by decide) _ 0 [] rfl hrow ad n cap cs rfl (unhide HH).2.2.2 ((unhide HH).1 _ (bwA _ _)) (unhide HH).2.1 ?c3 ?c4 ?c5 ?nx)
    case c3 => have := (unhide HH).2.2.1; unfold maxLen; omega
    case c4 => have := (unhide HH).2.2.1; omega
    case c5 => simp
    case nx =>
      intro v' w3 hown' hgrow _ hat
      have hb3 : Below w.heap.size w w3 := (bwA w _).grown hgrow (by simp) (fun k hk => by simp [Value.ownBlock] at hk; omega)
      have hown2 : w3.ownsRow w.heap.size 135 2 v' n cs := by simpa using hown'
      have HO := hide (And.intro hown2 hb3)
      clear hown' hgrow hat hown2 hb3
      go_wp2_with fail
      go_ret
      exact ⟨_, rfl, (unhide HO).1, (unhide HO).2⟩
end Go.Proofs.YtnfhbmlmemifjaaGreatDoor

/- Nodes and trees: their copies in memory of their own (fresh.Node). -/
namespace Go.Proofs.YtnfhbmlmemifjaaGreatDoor
open Go.RowKit Go.Maps
def kNd : EK Nd Value where
  t := 256
  c := 4
  C := ndC
  Z := fun u => u.ownBlock.toList
  R := fun w n u => Nums w u n.un ∧ n.un.length ≤ 1073741824
  O := fun B w n u => Ints B w u n.un
  pos := by decide
  Cl := fun _ _ => rfl
  one := fun w n u h v hv => by
    obtain ⟨a, c, rfl⟩ := nums_slice h.1
    simp only [ndC, List.mem_cons, List.not_mem_nil, or_false] at hv
    rcases hv with rfl | rfl | rfl | rfl <;> rfl
  bw := fun w w' n u h hb => ⟨h.1.bw hb, h.2⟩
  keep := fun B w w' n u h hk => own_keep h (fun k c => hk k (by simp [c]))
  lt := fun B w n u h k hk => World.ownsRow.lt h k (by simpa using hk)
  mono := fun B B' w n u h hB => h.mono hB
theorem Trd.rdl {w : World} {v : Value} {T : List Nd} (h : Trd w v T) (hu : ∀ n ∈ T, n.un.length ≤ 1073741824) : ∃ us, RdL kNd w v T us := by
  obtain ⟨a, c, rfl⟩ := h.slice
  obtain ⟨us, h1, h2, h3⟩ := h.cells
  exact ⟨us, h1, fun i n u hn hx => ⟨h2 i n u hn hx, hu n (List.mem_of_getElem? hn)⟩, a, c, rfl, h3⟩
theorem OwL.otr {B : Nat} {w : World} {v : Value} {T : List Nd} {us : List Value} (h : OwL kNd B w v T us) : OTr B w v T us :=
  ⟨h.xl, h.row, fun i n u hn hx => h.el i n u hn hx, fun i j u u' k h1 h2 hk hk' => h.ap i j u u' k h1 h2 (by show k ∈ u.ownBlock.toList; simp [hk]) (by show k ∈ u'.ownBlock.toList; simp [hk'])⟩
theorem OTr.owl {B : Nat} {w : World} {v : Value} {T : List Nd} {us : List Value} (h : OTr B w v T us) : OwL kNd B w v T us := by
  refine ⟨h.ul, h.row, fun i n u hn hx => h.un i n u hn hx, fun i j x y k h1 h2 hk hk' => h.apart i j x y k h1 h2 (by simpa [kNd] using hk) (by simpa [kNd] using hk'), fun k i x hv hx hk => ?_⟩
  have hi : i < T.length := by rw [← h.ul]; exact (List.getElem?_eq_some_iff.1 hx).1
  have hk' : x.ownBlock = some k := by simpa [kNd] using hk
  exact own_apart h.row (h.un i _ x (List.getElem?_eq_getElem hi) hx) (by decide) hv hk'
theorem nums_src {w : World} {v : Value} {l : List Int} (h : Nums w v l) : ∃ a cap, v = .slice a l.length cap ∧ (l.length = 0 ∨ ∃ g o, a = some ⟨g, o, none⟩ ∧ ∀ j u, (l.map I64)[j]? = some u → w.cell? ⟨g, o + j, none⟩ = some u) := by
  rcases h with ⟨rfl, a, c, rfl, _⟩ | ⟨g, o, cap, rfl, _, _, hc⟩
  · exact ⟨a, c, rfl, Or.inl rfl⟩
  · refine ⟨_, cap, rfl, Or.inr ⟨g, o, rfl, fun j u hj => ?_⟩⟩
    simp only [List.getElem?_map, Option.map_eq_some_iff] at hj
    obtain ⟨z, hz, rfl⟩ := hj
    exact hc j z hz
theorem i64_one (l : List Int) : ∀ u ∈ l.map I64, u.oneCell' = true := by
  intro u hu; obtain ⟨m, _, rfl⟩ := List.mem_map.1 hu; rfl
theorem cloneNums_any {w : World} {v : Value} {l : List Int} (h : Nums w v l) (hl : l.length ≤ 1073741824) :
    Calls Tryz.prog 178 #[v] w fun e w' => ∃ v', e = .returned v' ∧ Ints w.heap.size w' v' l ∧ Below w.heap.size w w' := by
  obtain ⟨a, cap, rfl, hc⟩ := nums_src h
  exact cloneint_any (by simp) (i64_one l) hl hc
def riC (l : List (List Int)) : List Value := (l.map (·.map I64)).flatten
theorem ri_src {c : Nat} (hc0 : 0 < c) {w : World} {v : Value} {l : List (List Int)} (h : RI c w v l) : (riC l).length = l.length * c ∧ (∀ u ∈ riC l, u.oneCell' = true) ∧ ∃ a cap, v = .slice a l.length cap ∧ (l.length = 0 ∨ ∃ g o, a = some ⟨g, o, none⟩ ∧ ∀ j u, (riC l)[j]? = some u → w.cell? ⟨g, o + j, none⟩ = some u) := by
  have hR : ∀ r ∈ l.map (·.map I64), r.length = c := fun r hr => by
    obtain ⟨x, hx, rfl⟩ := List.mem_map.1 hr
    rw [List.length_map]; exact (h.fit x hx).1
  have hlen : (riC l).length = l.length * c := by unfold riC; rw [fl_len hR, List.length_map]
  refine ⟨hlen, ?_, ?_⟩
  · intro u hu
    obtain ⟨r, hr, hu⟩ := List.mem_flatten.1 hu
    obtain ⟨x, hx, rfl⟩ := List.mem_map.1 hr
    obtain ⟨z, _, rfl⟩ := List.mem_map.1 hu
    rfl
  · obtain ⟨a, cap, hv, hc⟩ := h.form
    refine ⟨a, cap, hv, ?_⟩
    rcases hc with c | ⟨g, o, e, hc⟩
    · left; rw [c]; rfl
    · refine Or.inr ⟨g, o, e, fun k u hk => ?_⟩
      have hkl := (List.getElem?_eq_some_iff.1 hk).1
      rw [hlen] at hkl
      obtain ⟨i, j, hj, rfl⟩ : ∃ i j, j < c ∧ k = i * c + j := ⟨k / c, k % c, Nat.mod_lt _ hc0, by rw [Nat.mul_comm]; exact (Nat.div_add_mod k c).symm⟩
      unfold riC at hk
      rw [fl_get hR hj, List.getElem?_map] at hk
      cases hx : l[i]? with
      | none => rw [hx] at hk; simp at hk
      | some x =>
        rw [hx] at hk
        simp only [Option.map_some, Option.bind_some, List.getElem?_map, Option.map_eq_some_iff] at hk
        obtain ⟨z, hz, rfl⟩ := hk
        have := hc i x hx j z hz
        rw [Nat.add_assoc] at this
        exact this
theorem froz_b' {W : World} {k i : Nat} {cs : Array Value} {t : TypeId} (hk : W.heap[k]? = some (.cells cs t (0, 0))) : W.frozen? ⟨k, i, none⟩ = false := by simp [World.frozen?, hk]
structure TwoB (w W : World) (t : TypeId) (cs zs : Array Value) : Prop where
  k1 : W.heap[w.heap.size]? = some (.cells cs t (0, 0))
  k2 : W.heap[w.heap.size + 1]? = some (.cells zs t (0, 0))
  bel : Below w.heap.size w W
theorem TwoB.start (w : World) (t : TypeId) (cs zs : Array Value) : TwoB w ((w.alloc (.cells cs t)).alloc (.cells zs t)) t cs zs := by
  refine ⟨?_, ?_, bw_tr (bwA _ _) (bwA _ _)⟩
  · have h1 := heap_alloc_new w (.cells cs t)
    rw [Below.heap_alloc _ _ _ (by simp)]; exact h1
  · have h2 := heap_alloc_new (w.alloc (.cells cs t)) (.cells zs t)
    have e : (w.alloc (.cells cs t)).heap.size = w.heap.size + 1 := by simp
    rw [e] at h2
    exact h2
theorem TwoB.two {w W : World} {t : TypeId} {cs zs : Array Value} (h : TwoB w W t cs zs) : w.heap.size + 2 ≤ W.heap.size := lt_of_blk h.k2
theorem TwoB.bw {w W W' : World} {t : TypeId} {cs zs : Array Value} (h : TwoB w W t cs zs) (hb : Below W.heap.size W W') : TwoB w W' t cs zs := ⟨kept_b h.k1 (lt_of_blk h.k1) hb, kept_b h.k2 (lt_of_blk h.k2) hb, bw_tr h.bel hb⟩
theorem TwoB.poke {w W : World} {t : TypeId} {cs zs : Array Value} (h : TwoB w W t cs zs) (i : Nat) (v : Value) : TwoB w (W.setCell ⟨w.heap.size, i, none⟩ v) t (cs.setIfInBounds i v) zs ∧ ∀ k, w.heap.size + 2 ≤ k → (W.setCell ⟨w.heap.size, i, none⟩ v).heap[k]? = W.heap[k]? :=
  ⟨⟨poke_b h.k1 v, by rw [other_c (by omega)]; exact h.k2, h.bel.setCell (by simp) v⟩, fun k hk => other_c (by omega)⟩
theorem TwoB.answer {w W : World} {t : TypeId} {cs zs : Array Value} (h : TwoB w W t cs zs) (vs : List Value) (hl : vs.length = zs.size) : (pokes W (w.heap.size + 1) 0 vs).heap[w.heap.size + 1]? = some (.cells vs.toArray t (0, 0)) ∧ Below w.heap.size w (pokes W (w.heap.size + 1) 0 vs) ∧ ∀ k, w.heap.size + 2 ≤ k → (pokes W (w.heap.size + 1) 0 vs).heap[k]? = W.heap[k]? :=
  ⟨by rw [pokes_at _ _ _ _ h.k2, pk_all hl], pokes_below (by omega) _ _ _ h.bel, fun k hk => pokes_other (by omega) _ _ _⟩
set_option maxRecDepth 100000 in
set_option maxHeartbeats 4000000 in
theorem frNode_any {w : World} {n : Nd} {u : Value} (h : Nums w u n.un) (hl : n.un.length ≤ 1073741824) :
    Calls Tryz.prog 271 #[.agg (ndC n u).toArray] w fun e w' => ∃ u', e = .returned (.agg (ndC n u').toArray) ∧ Ints w.heap.size w' u' n.un ∧ Below w.heap.size w w' := by
  obtain ⟨a, c, rfl⟩ := nums_slice h
  obtain ⟨w0, hw0⟩ : ∃ w0, w0 = (w.alloc (.cells (ndC n (.slice a n.un.length c)).toArray 256)).alloc (.cells #[.int .i64 0, .int .i64 0, .int .i64 0, .slice none 0 0] 256) := ⟨_, rfl⟩
  have s0 : TwoB w w0 256 (ndC n (.slice a n.un.length c)).toArray #[.int .i64 0, .int .i64 0, .int .i64 0, .slice none 0 0] := by rw [hw0]; exact TwoB.start _ _ _ _
  have KC := hide (cloneNums_any (h.bw s0.bel) hl)
  clear h hl
  obtain ⟨p, m, e, un⟩ := n
  simp only at KC hw0 s0 ⊢
  have S0 : Hid (TwoB w w0 256 #[.int .i64 p, .int .i64 m, .int .i64 e, .slice a un.length c] #[.int .i64 0, .int .i64 0, .int .i64 0, .slice none 0 0]) := s0
  have HW : Hid (w0 = (w.alloc (.cells #[.int .i64 p, .int .i64 m, .int .i64 e, .slice a un.length c] 256)).alloc (.cells #[.int .i64 0, .int .i64 0, .int .i64 0, .slice none 0 0] 256)) := hw0
  clear hw0 s0
  unfold ndC
  simp only
  generalize hN : un.length = N at *
  have HN := hide hN
  clear hN
  go_enter Tryz.func271, Tryz.ntmps271
  go_upto_region 1 with fail
  rw [← unhide HW]
  clear HW
  have c3 : w0.cell? ⟨w.heap.size, 3, none⟩ = some (.slice a N c) := blk_c (unhide S0).k1 rfl
  go_wp2_with fail
  refine (unhide KC).mono ?_
  rintro x w1 ⟨u', rfl, ho, b1⟩
  obtain ⟨a', c', rfl⟩ := own_slice ho
  have s1 := (unhide S0).bw b1
  have p1 := s1.poke 3 (.slice a' un.length c')
  obtain ⟨V1, hV1⟩ : ∃ V, V = w1.setCell ⟨w.heap.size, 3, none⟩ (.slice a' un.length c') := ⟨_, rfl⟩
  rw [← hV1] at p1
  have s2 : TwoB w V1 256 #[.int .i64 p, .int .i64 m, .int .i64 e, .slice a' un.length c'] #[.int .i64 0, .int .i64 0, .int .i64 0, .slice none 0 0] := p1.1
  have an := s2.answer [.int .i64 p, .int .i64 m, .int .i64 e, .slice a' un.length c'] rfl
  obtain ⟨WZ, hWZ⟩ : ∃ W, W = pokes V1 (w.heap.size + 1) 0 [.int .i64 p, .int .i64 m, .int .i64 e, .slice a' un.length c'] := ⟨_, rfl⟩
  rw [← hWZ] at an
  have HO : Hid (Ints w.heap.size WZ (.slice a' un.length c') un ∧ Below w.heap.size w WZ) := by
    refine ⟨own_keep (ho.mono (by have := (unhide S0).two; omega)) (fun k hk => ?_), an.2.1⟩
    have h1 := (World.ownsRow.lt ho k hk).1
    have h2 := (unhide S0).two
    rw [an.2.2 k (by omega), p1.2 k (by omega)]
  have c3 : w1.cell? ⟨w.heap.size, 3, none⟩ = some (.slice a N c) := blk_c s1.k1 rfl
  have f3 := fun j => froz_b' (i := j) s1.k1
  have d0 : V1.cell? ⟨w.heap.size, 0, none⟩ = some (.int .i64 p) := blk_c s2.k1 rfl
  have d1 : V1.cell? ⟨w.heap.size, 1, none⟩ = some (.int .i64 m) := blk_c s2.k1 rfl
  have d2 : V1.cell? ⟨w.heap.size, 2, none⟩ = some (.int .i64 e) := blk_c s2.k1 rfl
  have d3 : V1.cell? ⟨w.heap.size, 3, none⟩ = some (.slice a' un.length c') := blk_c s2.k1 rfl
  have e0 : V1.cell? ⟨w.heap.size + 1, 0, none⟩ = some (.int .i64 0) := blk_c s2.k2 rfl
  have e1 : V1.cell? ⟨w.heap.size + 1, 1, none⟩ = some (.int .i64 0) := blk_c s2.k2 rfl
  have e2 : V1.cell? ⟨w.heap.size + 1, 2, none⟩ = some (.int .i64 0) := blk_c s2.k2 rfl
  have e3 : V1.cell? ⟨w.heap.size + 1, 3, none⟩ = some (.slice none 0 0) := blk_c s2.k2 rfl
  have fe := fun j => froz_b' (i := j) s2.k2
  have z0 : WZ.cell? ⟨w.heap.size + 1, 0, none⟩ = some (.int .i64 p) := blk_c an.1 rfl
  have z1 : WZ.cell? ⟨w.heap.size + 1, 1, none⟩ = some (.int .i64 m) := blk_c an.1 rfl
  have z2 : WZ.cell? ⟨w.heap.size + 1, 2, none⟩ = some (.int .i64 e) := blk_c an.1 rfl
  have z3 : WZ.cell? ⟨w.heap.size + 1, 3, none⟩ = some (.slice a' un.length c') := blk_c an.1 rfl
  have HV := hide hV1
  have HZ : Hid (WZ = (((V1.setCell ⟨w.heap.size + 1, 0, none⟩ (.int .i64 p)).setCell ⟨w.heap.size + 1, 1, none⟩ (.int .i64 m)).setCell ⟨w.heap.size + 1, 2, none⟩ (.int .i64 e)).setCell ⟨w.heap.size + 1, 3, none⟩ (.slice a' un.length c')) := hWZ
  clear S0 KC ho b1 s1 p1 hV1 s2 an hWZ
  go_upto_region 2 with fail
  rw [← unhide HV]
  clear HV c3 f3
  go_wp2_with fail
  rw [← unhide HZ]
  exact bodyPost_ret (v := .agg #[.int .i64 p, .int .i64 m, .int .i64 e, .slice a' un.length c']) (by simp [results, Tryz.results271, go_sem, z0, z1, z2, z3]) rfl ⟨.slice a' un.length c', rfl, (unhide HO).1, (unhide HO).2⟩
end Go.Proofs.YtnfhbmlmemifjaaGreatDoor

/- fresh.List of Nodes: a list of copies, in memory of its own. -/
namespace Go.Proofs.YtnfhbmlmemifjaaGreatDoor
open Go.RowKit Go.Maps
set_option maxRecDepth 100000 in
set_option maxHeartbeats 8000000 in
theorem listNode_any {w : World} {v : Value} {l : List Nd} {xs : List Value} (h : RdL kNd w v l xs) (hl : l.length ≤ 1073741824) :
    Calls Tryz.prog 270 #[v, .func (.func 271) #[] #[]] w fun e w' => ∃ v' xs', e = .returned v' ∧ OwL kNd w.heap.size w' v' l xs' ∧ Below w.heap.size w w' := by
  obtain ⟨ad, cap, rfl, hsrc⟩ := h.form
  have KC := hide (cloneNode_any (w := w) (a := ad) (cap := cap) (cs := cellK kNd l xs) (cellK_len h.xl) (cellK_one h.xl h.el) hl (hsrc.imp (fun c => by rw [c]; rfl) (fun c => c)))
  have HC : Hid (∀ (w1 wr : World) (v : Value) (g : Nat) (xs : List Value) (i : Nat), CpL kNd w.heap.size w w1 wr v g l xs i → i < l.length → ∃ (a : Nd) (p : Int) (m : Int) (e : Int) (a1 : Option Addr) (N1 : Nat) (k1 : Nat), l[i]? = some a ∧ (∀ W, Below wr.heap.size wr W → (W.cell? ⟨g, i * 4, none⟩ = some (.int .i64 p) ∧ W.cell? ⟨g, i * 4 + 1, none⟩ = some (.int .i64 m) ∧ W.cell? ⟨g, i * 4 + 2, none⟩ = some (.int .i64 e) ∧ W.cell? ⟨g, i * 4 + 3, none⟩ = some (.slice a1 N1 k1))) ∧
      ∀ W, Below w.heap.size w W → Calls Tryz.prog 271 #[.agg #[.int .i64 p, .int .i64 m, .int .i64 e, .slice a1 N1 k1]] W fun x w' => ∃ a1' k1' x', x = .returned (.agg #[.int .i64 p, .int .i64 m, .int .i64 e, .slice a1' N1 k1']) ∧ Hid (kNd.O W.heap.size w' a x' ∧ kNd.C a x' = [.int .i64 p, .int .i64 m, .int .i64 e, .slice a1' N1 k1']) ∧ Below W.heap.size W w') := by
    intro w1 wr v g xs i hcp hi
    obtain ⟨a, x, ha, hx, hR, hc⟩ := hcp.at hi
    obtain ⟨q, hq⟩ := nums_slice hR.1
    obtain ⟨k1, rfl⟩ := hq
    have KF := fun W hW => frNode_any (w := W) (hR.1.bw hW) hR.2
    obtain ⟨p, m, e, un⟩ := a
    refine ⟨⟨p, m, e, un⟩, p, m, e, q, un.length, k1, ha, fun W hW => ?_, fun W hW => ?_⟩
    · have e := fun j u hu => by have := hc j u hu; rw [← (hW.cell (lt_of_cell this))] at this; exact this
      exact ⟨e 0 _ rfl, e 1 _ rfl, e 2 _ rfl, e 3 _ rfl⟩
    · have hR' := hR
      refine (KF W hW).mono ?_
      rintro y w' ⟨u', rfl, ho, hb⟩
      obtain ⟨a1', k1', rfl⟩ := own_slice ho
      exact ⟨a1', k1', _, rfl, ⟨ho, rfl⟩, hb⟩
  have HR := hide h
  obtain ⟨N, hN⟩ : ∃ N, N = l.length := ⟨_, rfl⟩
  rw [← hN] at KC HC hl ⊢
  have hNI : (N : Int) ≤ 1073741824 := by omega
  have HN := hide hN
  clear h hsrc hl hN
  rcases Nat.eq_zero_or_pos N with h0 | h0
  · subst h0
    go_enter Tryz.func270, Tryz.ntmps270
    go_wp2_with fail
    refine (unhide KC).mono ?_
    rintro e w1 ⟨v1, rfl, ho, b1⟩
    obtain ⟨a1, c1, rfl⟩ := own_slice ho
    have HO := hide (And.intro ho b1)
    clear ho b1 KC HC
    go_wp2_with fail
    go_loopw [12] (fun iv wr => iv = .int .i64 0 ∧ wr = w1) (fun _ _ => 0)
    case atStart => exact ⟨rfl, rfl⟩
    case round =>
      obtain ⟨rfl, rfl⟩ := hrel
      go_wp2_with fail
      go_ret
      have hl0 : l = [] := List.eq_nil_of_length_eq_zero (unhide HN).symm
      have hx0 : xs = [] := List.eq_nil_of_length_eq_zero (by rw [(unhide HR).xl, hl0]; rfl)
      subst hl0 hx0
      exact ⟨_, [], rfl, ⟨rfl, (unhide HO).1, by simp, by simp, by simp⟩, (unhide HO).2⟩
  · go_enter Tryz.func270, Tryz.ntmps270
    go_wp2_with fail
    refine (unhide KC).mono ?_
    rintro e w1 ⟨v1, rfl, ho, b1⟩
    obtain ⟨g, c1, rfl, hg, _, _⟩ := own_open ho h0
    have S0 : Hid (CpL kNd w.heap.size w w1 w1 (.slice (some ⟨g, 0, none⟩) N c1) g l xs 0) := CpL.start (unhide HR) (by rw [← unhide HN]; exact ho) rfl
    have HB := hide (And.intro b1 hg)
    clear ho b1 KC hg
    go_wp2_with fail
    go_loopw [12] (fun iv wr => ∃ (i : Nat) (xs' : List Value), iv = .int .i64 (i : Int) ∧ i ≤ N ∧ Hid (CpL kNd w.heap.size w w1 wr (.slice (some ⟨g, 0, none⟩) N c1) g l xs' i)) (fun iv _ => (N - intOf iv).toNat)
    case atStart => exact ⟨0, xs, rfl, Nat.zero_le _, S0⟩
    case round =>
      clear S0
      obtain ⟨i, xs', rfl, hi, HS⟩ := hrel
      by_cases hlt : i < N
      · obtain ⟨a, p, m, e, a1, N1, k1, ha, hcl, KF⟩ := unhide HC w1 wr _ g xs' i (unhide HS) hlt
        obtain ⟨c0_, c1_, c2_, c3_⟩ := hcl wr (Below.refl _ _)
        obtain ⟨W1, hW1⟩ : ∃ W, W = wr.alloc (.cells #[.int .i64 p, .int .i64 m, .int .i64 e, .slice a1 N1 k1] 256) := ⟨_, rfl⟩
        have hz : W1.heap[wr.heap.size]? = some (.cells #[.int .i64 p, .int .i64 m, .int .i64 e, .slice a1 N1 k1] 256 (0, 0)) := by
          rw [hW1]; exact heap_alloc_new _ _
        have bz : Below wr.heap.size wr W1 := by rw [hW1]; exact bwA _ _
        have bw1 : Below w.heap.size w W1 := bw_tr (Fr.toBase (unhide HB).1 (unhide HS).fr (by intro x hx; rw [List.mem_singleton] at hx; subst hx; exact (World.ownsRow.lt (unhide HS).row x (unhide HS).own).1)) bz
        have q1 : (i : Int) < (N : Int) := by omega
        have q0 : (0 : Int) ≤ (i : Int) := by omega
        have z0_ : W1.cell? ⟨wr.heap.size, 0, none⟩ = some (.int .i64 p) := blk_c hz rfl
        have z1_ : W1.cell? ⟨wr.heap.size, 1, none⟩ = some (.int .i64 m) := blk_c hz rfl
        have z2_ : W1.cell? ⟨wr.heap.size, 2, none⟩ = some (.int .i64 e) := blk_c hz rfl
        have z3_ : W1.cell? ⟨wr.heap.size, 3, none⟩ = some (.slice a1 N1 k1) := blk_c hz rfl
        have HW : Hid (W1 = wr.alloc (.cells #[.int .i64 p, .int .i64 m, .int .i64 e, .slice a1 N1 k1] 256)) := hW1
        have KF1 := hide (KF W1 bw1)
        have HX0 := hide (And.intro ha (And.intro bz (fun W hW => hcl W hW)))
        clear hW1 hz bz bw1 KF ha hcl
        go_upto_region 5 with fail
        rw [← unhide HW]
        clear HW c0_ c1_ c2_ c3_
        go_wp2_with fail
        refine (unhide KF1).mono ?_
        rintro x w2 ⟨a1', k1', x', rfl, hO, b2⟩
        obtain ⟨d0_, d1_, d2_, d3_⟩ := (unhide HX0).2.2 w2 (bw_tr (unhide HX0).2.1 b2)
        have hS2 := (unhide HS).bw (bw_tr (unhide HX0).2.1 b2)
        have fz := fun j => own_frozen hS2.row (g := g) rfl j
        have HX : Hid (CpL kNd w.heap.size w w1 (((((w2).setCell ⟨g, i * 4, none⟩ (.int .i64 p)).setCell ⟨g, i * 4 + 1, none⟩ (.int .i64 m)).setCell ⟨g, i * 4 + 2, none⟩ (.int .i64 e)).setCell ⟨g, i * 4 + 3, none⟩ (.slice a1' N1 k1')) (.slice (some ⟨g, 0, none⟩) N c1) g l (xs'.set i x') (i + 1)) := by
          have := ((unhide HS).bw (unhide HX0).2.1).step (unhide HX0).1 b2 (unhide hO).1 (unhide HB).2
          rw [(unhide hO).2] at this
          exact this
        clear hS2 HX0 hO b2 KF1 z0_ z1_ z2_ z3_
        go_wp2_with fail
        go_roundw
        case rel => exact ⟨i + 1, _, by go_num, by omega, HX⟩
        case measure => simp [intOf]; omega
      · obtain rfl : i = N := by omega
        have HO : Hid (OwL kNd w.heap.size wr (.slice (some ⟨g, 0, none⟩) i c1) l xs' ∧ Below w.heap.size w wr) := by
          have hS := unhide HS
          refine ⟨?_, Fr.toBase (unhide HB).1 hS.fr (by intro x hx; rw [List.mem_singleton] at hx; subst hx; exact (World.ownsRow.lt hS.row x hS.own).1)⟩
          have e := unhide HN
          have hS' : CpL kNd w.heap.size w w1 wr (.slice (some ⟨g, 0, none⟩) i c1) g l xs' l.length := by rw [← e]; exact hS
          exact hS'.done (unhide HB).1.size (unhide HB).2
        clear HS HC
        go_wp2_with fail
        go_ret
        exact ⟨_, xs', rfl, (unhide HO).1, (unhide HO).2⟩
end Go.Proofs.YtnfhbmlmemifjaaGreatDoor

/- A tree's copy; commits of one's own; a commit's copy (fresh.Tree, fresh.Commit). -/
namespace Go.Proofs.YtnfhbmlmemifjaaGreatDoor
open Go.RowKit Go.Maps
set_option maxRecDepth 100000 in
set_option maxHeartbeats 4000000 in
theorem frTree_any {w : World} {v : Value} {T : List Nd} (h : Trd w v T) (hl : T.length ≤ 1073741824) (hu : ∀ n ∈ T, n.un.length ≤ 1073741824) :
    Calls Tryz.prog 181 #[.agg #[v]] w fun e w' => ∃ v' us, e = .returned (.agg #[v']) ∧ OTr w.heap.size w' v' T us ∧ Below w.heap.size w w' := by
  obtain ⟨w0, hw0⟩ : ∃ w0, w0 = (w.alloc (.cells #[v] 32)).alloc (.cells #[.slice none 0 0] 32) := ⟨_, rfl⟩
  have s0 : TwoB w w0 32 #[v] #[.slice none 0 0] := by rw [hw0]; exact TwoB.start _ _ _ _
  obtain ⟨us, hr⟩ := (h.bw s0.bel).rdl hu
  have KL := hide (listNode_any hr hl)
  obtain ⟨a, c, rfl⟩ := h.slice
  have S0 := hide s0
  have HW := hide hw0
  clear h hl hu hr s0 hw0
  generalize T.length = N at *
  go_enter Tryz.func181, Tryz.ntmps181
  go_upto_region 1 with fail
  rw [← unhide HW]
  clear HW
  have c0 : w0.cell? ⟨w.heap.size, 0, none⟩ = some (.slice a N c) := blk_c (unhide S0).k1 rfl
  go_wp2_with fail
  refine (unhide KL).mono ?_
  rintro e w1 ⟨v', us', rfl, ho, b1⟩
  obtain ⟨a', c', hv⟩ := own_slice ho.row
  have s1 := (unhide S0).bw b1
  have an := s1.answer [v'] rfl
  obtain ⟨WZ, hWZ⟩ : ∃ W, W = pokes w1 (w.heap.size + 1) 0 [v'] := ⟨_, rfl⟩
  rw [← hWZ] at an
  have HO : Hid (OTr w.heap.size WZ v' T us' ∧ Below w.heap.size w WZ) := by
    refine ⟨((ho.keep (fun k hk => an.2.2 k ?_)).mono ?_).otr, an.2.1⟩
    · have h1 := (ho.lt k hk).1
      have h2 := (unhide S0).two
      omega
    · have h2 := (unhide S0).two; omega
  subst hv
  have e0 : w1.cell? ⟨w.heap.size + 1, 0, none⟩ = some (.slice none 0 0) := blk_c s1.k2 rfl
  have fe := fun j => froz_b' (i := j) s1.k2
  have z0 : WZ.cell? ⟨w.heap.size + 1, 0, none⟩ = some (.slice a' T.length c') := blk_c an.1 rfl
  have HZ : Hid (WZ = w1.setCell ⟨w.heap.size + 1, 0, none⟩ (.slice a' T.length c')) := hWZ
  clear S0 KL ho b1 s1 an hWZ
  go_wp2_with fail
  rw [← unhide HZ]
  exact bodyPost_ret (v := .agg #[.slice a' T.length c']) (by simp [results, Tryz.results181, go_sem, z0]) rfl ⟨_, us', rfl, (unhide HO).1, (unhide HO).2⟩
structure SmC (c : Cm) : Prop where
  a : c.adds.length ≤ 1073741824
  r : c.rem.length ≤ 1073741824
  q : c.seals.length ≤ 1073741824
  j : c.joins.length ≤ 1073741824
  n : c.next.length ≤ 1073741824
  u : ∀ n ∈ c.next, n.un.length ≤ 1073741824
  fa : ∀ x ∈ c.adds, x.length = 3 ∧ ∀ z ∈ x, -9223372036854775808 ≤ z ∧ z ≤ 9223372036854775807
  fq : ∀ x ∈ c.seals, x.length = 3 ∧ ∀ z ∈ x, -9223372036854775808 ≤ z ∧ z ≤ 9223372036854775807
  fj : ∀ x ∈ c.joins, x.length = 2 ∧ ∀ z ∈ x, -9223372036854775808 ≤ z ∧ z ≤ 9223372036854775807
structure OC (B : Nat) (w : World) (c : Cm) (x : Cv) (us : List Value) : Prop where
  adds : w.ownsRow B 131 3 x.av c.adds.length (riC c.adds)
  rem : Ints B w x.rv c.rem
  seals : w.ownsRow B 133 3 x.qv c.seals.length (riC c.seals)
  joins : w.ownsRow B 135 2 x.jv c.joins.length (riC c.joins)
  next : OTr B w x.nv c.next us
  ap : ∀ (i : Nat) (u : Value) (k : Nat), us[i]? = some u → u.ownBlock = some k → x.rv.ownBlock ≠ some k
def cvZ (x : Cv) (us : List Value) : List Nat := x.av.ownBlock.toList ++ (x.rv.ownBlock.toList ++ (x.qv.ownBlock.toList ++ (x.jv.ownBlock.toList ++ zK kNd x.nv us)))
theorem cvZ_cases {x : Cv} {us : List Value} {k : Nat} (h : k ∈ cvZ x us) : x.av.ownBlock = some k ∨ x.rv.ownBlock = some k ∨ x.qv.ownBlock = some k ∨ x.jv.ownBlock = some k ∨ k ∈ zK kNd x.nv us := by
  simpa [cvZ] using h
theorem ri_own {B c : Nat} {w : World} {t : TypeId} {v : Value} {l : List (List Int)} (h : w.ownsRow B t c v l.length (riC l)) (hl : l.length ≤ 1073741824) (hf : ∀ x ∈ l, x.length = c ∧ ∀ z ∈ x, -9223372036854775808 ≤ z ∧ z ≤ 9223372036854775807) : RI c w v l := by
  refine ⟨by omega, hf, ?_⟩
  obtain ⟨a, cap, hv⟩ := own_slice h
  refine ⟨a, cap, hv, ?_⟩
  rcases Nat.eq_zero_or_pos l.length with h0 | h0
  · exact Or.inl (List.eq_nil_of_length_eq_zero h0)
  · obtain ⟨g, cap', hv', _, _, _⟩ := own_open h h0
    rw [hv] at hv'; cases hv'
    refine Or.inr ⟨g, 0, rfl, fun i x hi j z hj => ?_⟩
    have hR : ∀ r ∈ l.map (·.map I64), r.length = c := fun r hr => by
      obtain ⟨x, hx, rfl⟩ := List.mem_map.1 hr
      rw [List.length_map]; exact (hf x hx).1
    have hjc : j < c := by have := (List.getElem?_eq_some_iff.1 hj).1; rw [(hf x (List.mem_of_getElem? hi)).1] at this; exact this
    rw [Nat.zero_add]
    refine own_cell h (by rw [hv]; rfl) ?_
    unfold riC
    rw [fl_get hR hjc, List.getElem?_map, hi]
    simp only [Option.map_some, Option.bind_some, List.getElem?_map, hj]
    rfl
theorem OC.rd {B : Nat} {w : World} {c : Cm} {x : Cv} {us : List Value} (h : OC B w c x us) (hs : SmC c) : CmR w c x :=
  ⟨ri_own h.adds hs.a hs.fa, h.rem.nums, Nat.le_trans hs.r (by decide), ri_own h.seals hs.q hs.fq, ri_own h.joins hs.j hs.fj, h.next.trd (Nat.le_trans hs.n (by decide)) (fun n hn => Nat.le_trans (hs.u n hn) (by decide))⟩
theorem OC.keep {B : Nat} {w w' : World} {c : Cm} {x : Cv} {us : List Value} (h : OC B w c x us) (hk : ∀ k ∈ cvZ x us, w'.heap[k]? = w.heap[k]?) : OC B w' c x us :=
  ⟨own_keep h.adds (fun k hq => hk k (by simp [cvZ, hq])), own_keep h.rem (fun k hq => hk k (by simp [cvZ, hq])), own_keep h.seals (fun k hq => hk k (by simp [cvZ, hq])), own_keep h.joins (fun k hq => hk k (by simp [cvZ, hq])), (h.next.owl.keep (fun k hq => hk k (by simp [cvZ, hq]))).otr, h.ap⟩
theorem OC.lt {B : Nat} {w : World} {c : Cm} {x : Cv} {us : List Value} (h : OC B w c x us) : ∀ k ∈ cvZ x us, B ≤ k ∧ k < w.heap.size := by
  intro k hk
  rcases cvZ_cases hk with q | q | q | q | q
  · exact World.ownsRow.lt h.adds k q
  · exact World.ownsRow.lt h.rem k q
  · exact World.ownsRow.lt h.seals k q
  · exact World.ownsRow.lt h.joins k q
  · exact h.next.owl.lt k q
theorem OC.mono {B B' : Nat} {w : World} {c : Cm} {x : Cv} {us : List Value} (h : OC B w c x us) (hB : B' ≤ B) : OC B' w c x us :=
  ⟨own_mono h.adds hB, h.rem.mono hB, own_mono h.seals hB, own_mono h.joins hB, (h.next.owl.mono hB).otr, h.ap⟩
def kCm : EK Cm (Cv × List Value) where
  t := 34
  c := 15
  C := fun c x => cmC c x.1
  Z := fun x => cvZ x.1 x.2
  R := fun w c x => CmR w c x.1 ∧ SmC c
  O := fun B w c x => OC B w c x.1 x.2
  pos := by decide
  Cl := fun _ _ => rfl
  one := fun w c x h v hv => by
    obtain ⟨a1, k1, e1⟩ := h.1.adds.slice
    obtain ⟨a2, k2, e2⟩ := nums_slice h.1.rem
    obtain ⟨a3, k3, e3⟩ := h.1.seals.slice
    obtain ⟨a4, k4, e4⟩ := h.1.joins.slice
    obtain ⟨a5, k5, e5⟩ := h.1.next.slice
    simp only [cmC, e1, e2, e3, e4, e5, List.mem_cons, List.not_mem_nil, or_false] at hv
    rcases hv with rfl | rfl | rfl | rfl | rfl | rfl | rfl | rfl | rfl | rfl | rfl | rfl | rfl | rfl | rfl <;> rfl
  bw := fun w w' c x h hb => ⟨h.1.bw hb, h.2⟩
  keep := fun B w w' c x h hk => OC.keep h hk
  lt := fun B w c x h => OC.lt h
  mono := fun B B' w c x h hB => OC.mono h hB
theorem cloneRIAdd_any {w : World} {v : Value} {l : List (List Int)} (h : RI 3 w v l) (hl : l.length ≤ 1073741824) :
    Calls Tryz.prog 177 #[v] w fun e w' => ∃ a cap, e = .returned (.slice a l.length cap) ∧ w'.ownsRow w.heap.size 131 3 (.slice a l.length cap) l.length (riC l) ∧ Below w.heap.size w w' := by
  obtain ⟨h1, h2, a, cap, rfl, hc⟩ := ri_src (by decide) h
  refine (cloneAdd_any h1 h2 hl hc).mono ?_
  rintro e w' ⟨v', rfl, ho, hb⟩
  obtain ⟨a', c', rfl⟩ := own_slice ho
  exact ⟨a', c', rfl, ho, hb⟩
theorem cloneRISeal_any {w : World} {v : Value} {l : List (List Int)} (h : RI 3 w v l) (hl : l.length ≤ 1073741824) :
    Calls Tryz.prog 179 #[v] w fun e w' => ∃ a cap, e = .returned (.slice a l.length cap) ∧ w'.ownsRow w.heap.size 133 3 (.slice a l.length cap) l.length (riC l) ∧ Below w.heap.size w w' := by
  obtain ⟨h1, h2, a, cap, rfl, hc⟩ := ri_src (by decide) h
  refine (cloneSeal_any h1 h2 hl hc).mono ?_
  rintro e w' ⟨v', rfl, ho, hb⟩
  obtain ⟨a', c', rfl⟩ := own_slice ho
  exact ⟨a', c', rfl, ho, hb⟩
theorem cloneRIJoin_any {w : World} {v : Value} {l : List (List Int)} (h : RI 2 w v l) (hl : l.length ≤ 1073741824) :
    Calls Tryz.prog 180 #[v] w fun e w' => ∃ a cap, e = .returned (.slice a l.length cap) ∧ w'.ownsRow w.heap.size 135 2 (.slice a l.length cap) l.length (riC l) ∧ Below w.heap.size w w' := by
  obtain ⟨h1, h2, a, cap, rfl, hc⟩ := ri_src (by decide) h
  refine (cloneJoin_any h1 h2 hl hc).mono ?_
  rintro e w' ⟨v', rfl, ho, hb⟩
  obtain ⟨a', c', rfl⟩ := own_slice ho
  exact ⟨a', c', rfl, ho, hb⟩
theorem cloneNm_any {w : World} {v : Value} {l : List Int} (h : Nums w v l) (hl : l.length ≤ 1073741824) :
    Calls Tryz.prog 178 #[v] w fun e w' => ∃ a cap, e = .returned (.slice a l.length cap) ∧ Ints w.heap.size w' (.slice a l.length cap) l ∧ Below w.heap.size w w' := by
  refine (cloneNums_any h hl).mono ?_
  rintro e w' ⟨v', rfl, ho, hb⟩
  obtain ⟨a', c', rfl⟩ := own_slice ho
  exact ⟨a', c', rfl, ho, hb⟩
set_option maxRecDepth 100000 in
set_option maxHeartbeats 16000000 in
theorem frCommit_any {w : World} {c : Cm} {x : Cv} (h : CmR w c x) (hs : SmC c) :
    Calls Tryz.prog 37 #[cmV c x] w fun e w' => ∃ x' us, e = .returned (cmV c x') ∧ OC w.heap.size w' c x' us ∧ Below w.heap.size w w' := by
  obtain ⟨w0, hw0⟩ : ∃ w0, w0 = (w.alloc (.cells (cmC c x).toArray 34)).alloc (.cells cm0 34) := ⟨_, rfl⟩
  have s0 : TwoB w w0 34 (cmC c x).toArray cm0 := by rw [hw0]; exact TwoB.start _ _ _ _
  have KA1 : Hid (∀ W, Below w.heap.size w W → Calls Tryz.prog 177 #[x.av] W fun e w' => ∃ a cap, e = .returned (.slice a c.adds.length cap) ∧ w'.ownsRow W.heap.size 131 3 (.slice a c.adds.length cap) c.adds.length (riC c.adds) ∧ Below W.heap.size W w') := fun W hW => cloneRIAdd_any (h.adds.bw hW) hs.a
  have KA2 : Hid (∀ W, Below w.heap.size w W → Calls Tryz.prog 178 #[x.rv] W fun e w' => ∃ a cap, e = .returned (.slice a c.rem.length cap) ∧ w'.ownsRow W.heap.size 3 1 (.slice a c.rem.length cap) c.rem.length (c.rem.map I64) ∧ Below W.heap.size W w') := fun W hW => cloneNm_any (h.rem.bw hW) hs.r
  have KA3 : Hid (∀ W, Below w.heap.size w W → Calls Tryz.prog 179 #[x.qv] W fun e w' => ∃ a cap, e = .returned (.slice a c.seals.length cap) ∧ w'.ownsRow W.heap.size 133 3 (.slice a c.seals.length cap) c.seals.length (riC c.seals) ∧ Below W.heap.size W w') := fun W hW => cloneRISeal_any (h.seals.bw hW) hs.q
  have KA4 : Hid (∀ W, Below w.heap.size w W → Calls Tryz.prog 180 #[x.jv] W fun e w' => ∃ a cap, e = .returned (.slice a c.joins.length cap) ∧ w'.ownsRow W.heap.size 135 2 (.slice a c.joins.length cap) c.joins.length (riC c.joins) ∧ Below W.heap.size W w') := fun W hW => cloneRIJoin_any (h.joins.bw hW) hs.j
  have KA5 : Hid (∀ W, Below w.heap.size w W → Calls Tryz.prog 181 #[.agg #[x.nv]] W fun e w' => ∃ v' us, e = .returned (.agg #[v']) ∧ OTr W.heap.size w' v' c.next us ∧ Below W.heap.size W w') := fun W hW => frTree_any (h.next.bw hW) hs.n hs.u
  obtain ⟨a1, k1, e1⟩ := h.adds.slice
  obtain ⟨a2, k2, e2⟩ := nums_slice h.rem
  obtain ⟨a3, k3, e3⟩ := h.seals.slice
  obtain ⟨a4, k4, e4⟩ := h.joins.slice
  obtain ⟨a5, k5, e5⟩ := h.next.slice
  clear h hs
  obtain ⟨g0, g1, g2, g3, g4, g5, adds, rem, seals, joins, g10, g11, next, g13, g14⟩ := c
  obtain ⟨av, rv, qv, jv, nv⟩ := x
  simp only at KA1 KA2 KA3 KA4 KA5 e1 e2 e3 e4 e5
  obtain ⟨LN, hLN⟩ : ∃ z, z = next.length := ⟨_, rfl⟩
  obtain ⟨LA, hLA⟩ : ∃ z, z = adds.length := ⟨_, rfl⟩
  obtain ⟨LR, hLR⟩ : ∃ z, z = rem.length := ⟨_, rfl⟩
  obtain ⟨LQ, hLQ⟩ : ∃ z, z = seals.length := ⟨_, rfl⟩
  obtain ⟨LJ, hLJ⟩ : ∃ z, z = joins.length := ⟨_, rfl⟩
  rw [← hLA] at KA1 e1
  rw [← hLR] at KA2 e2
  rw [← hLQ] at KA3 e3
  rw [← hLJ] at KA4 e4
  rw [← hLN] at e5
  subst e1 e2 e3 e4 e5
  have HW : Hid (w0 = (w.alloc (.cells #[.int .i64 g0, .int .i64 g1, .int .i64 g2, .int .i64 g3, .int .i64 g4, .bool g5, .slice a1 LA k1, .slice a2 LR k2, .slice a3 LQ k3, .slice a4 LJ k4, .int .i64 g10, .int .i64 g11, .slice a5 LN k5, .int .i64 g13, .int .i64 g14] 34)).alloc (.cells #[.int .i64 0, .int .i64 0, .int .i64 0, .int .i64 0, .int .i64 0, .bool false, .slice none 0 0, .slice none 0 0, .slice none 0 0, .slice none 0 0, .int .i64 0, .int .i64 0, .slice none 0 0, .int .i64 0, .int .i64 0] 34)) := hw0
  have S0 : Hid (TwoB w w0 34 #[.int .i64 g0, .int .i64 g1, .int .i64 g2, .int .i64 g3, .int .i64 g4, .bool g5, .slice a1 LA k1, .slice a2 LR k2, .slice a3 LQ k3, .slice a4 LJ k4, .int .i64 g10, .int .i64 g11, .slice a5 LN k5, .int .i64 g13, .int .i64 g14] cm0) := s0
  have HN := hide (And.intro hLN (And.intro hLA (And.intro hLR (And.intro hLQ hLJ))))
  unfold cmV cmC
  clear hw0 s0 hLN hLA hLR hLQ hLJ
  go_enter Tryz.func37, Tryz.ntmps37
  go_upto_region 1 with fail
  rw [← unhide HW]
  clear HW
  go_cut [] from 3 to 10 (fun wx => ∃ a1' k1' a2' k2', Hid (TwoB w wx 34 #[.int .i64 g0, .int .i64 g1, .int .i64 g2, .int .i64 g3, .int .i64 g4, .bool g5, .slice a1' LA k1', .slice a2' LR k2', .slice a3 LQ k3, .slice a4 LJ k4, .int .i64 g10, .int .i64 g11, .slice a5 LN k5, .int .i64 g13, .int .i64 g14] cm0 ∧ wx.ownsRow (w.heap.size + 2) 131 3 (.slice a1' LA k1') LA (riC adds) ∧ wx.ownsRow (w.heap.size + 2) 3 1 (.slice a2' LR k2') LR (rem.map I64)))
  case first =>
    have x1 : w0.drew.cell? ⟨w.heap.size, 6, none⟩ = some (.slice a1 LA k1) := blk_c (unhide S0).k1 rfl
    have x2 : w0.drew.cell? ⟨w.heap.size, 7, none⟩ = some (.slice a2 LR k2) := blk_c (unhide S0).k1 rfl
    have KA := hide (unhide KA1 w0.drew (unhide S0).bel.drew)
    go_region_law (go_simp; go_wp2_with (first
      | (go_at_call 177; refine (unhide KA).mono ?_; rintro e_ zz ⟨a1', k1', rfl, ho1, b1⟩; have T1 := hide (((unhide S0).bw (Below.refl _ _).drew).bw b1); have y1 : zz.cell? ⟨w.heap.size, 6, none⟩ = some (.slice a1 LA k1) := blk_c (unhide T1).k1 rfl; have y2 : zz.cell? ⟨w.heap.size, 7, none⟩ = some (.slice a2 LR k2) := blk_c (unhide T1).k1 rfl; have KB := hide (unhide KA2 zz (unhide T1).bel); have HO1 := hide (And.intro ho1 b1); clear ho1 b1)
      | (go_at_call 178; refine (unhide KB).mono ?_; rintro e_ z2 ⟨a2', k2', rfl, ho2, b2⟩; have T2 := hide ((unhide T1).bw b2); have u1 : z2.cell? ⟨w.heap.size, 6, none⟩ = some (.slice a1 LA k1) := blk_c (unhide T2).k1 rfl; have u2 : z2.cell? ⟨w.heap.size, 7, none⟩ = some (.slice a2 LR k2) := blk_c (unhide T2).k1 rfl; have fz := fun j => froz_b' (i := j) (unhide T2).k1; have HO2 := hide (And.intro ho2 b2); clear ho2 b2)))
    all_goals
      have HR : Hid (TwoB w ((z2.setCell ⟨w.heap.size, 6, none⟩ (.slice a1' LA k1')).setCell ⟨w.heap.size, 7, none⟩ (.slice a2' LR k2')) 34 #[.int .i64 g0, .int .i64 g1, .int .i64 g2, .int .i64 g3, .int .i64 g4, .bool g5, .slice a1' LA k1', .slice a2' LR k2', .slice a3 LQ k3, .slice a4 LJ k4, .int .i64 g10, .int .i64 g11, .slice a5 LN k5, .int .i64 g13, .int .i64 g14] cm0 ∧ ((z2.setCell ⟨w.heap.size, 6, none⟩ (.slice a1' LA k1')).setCell ⟨w.heap.size, 7, none⟩ (.slice a2' LR k2')).ownsRow (w.heap.size + 2) 131 3 (.slice a1' LA k1') LA (riC adds) ∧ ((z2.setCell ⟨w.heap.size, 6, none⟩ (.slice a1' LA k1')).setCell ⟨w.heap.size, 7, none⟩ (.slice a2' LR k2')).ownsRow (w.heap.size + 2) 3 1 (.slice a2' LR k2') LR (rem.map I64)) := by
        have p1 := (unhide T2).poke 6 (.slice a1' LA k1')
        have p2 := p1.1.poke 7 (.slice a2' LR k2')
        have h2 := (unhide S0).two
        have hs1 : w.heap.size + 2 ≤ zz.heap.size := (unhide T1).two
        have kp : ∀ k, w.heap.size + 2 ≤ k → ((z2.setCell ⟨w.heap.size, 6, none⟩ (.slice a1' LA k1')).setCell ⟨w.heap.size, 7, none⟩ (.slice a2' LR k2')).heap[k]? = z2.heap[k]? := fun k hk => by rw [p2.2 k hk, p1.2 k hk]
        have kb : ∀ k, w.heap.size + 2 ≤ k → k < zz.heap.size → ((z2.setCell ⟨w.heap.size, 6, none⟩ (.slice a1' LA k1')).setCell ⟨w.heap.size, 7, none⟩ (.slice a2' LR k2')).heap[k]? = zz.heap[k]? := fun k hk hk2 => by rw [kp k hk]; exact (unhide HO2).2.block k hk2
        have o1 := own_mono (unhide HO1).1 (show w.heap.size + 2 ≤ _ from h2)
        have o2 := own_mono (unhide HO2).1 hs1
        exact ⟨p2.1, own_keep o1 (fun k hk => kb k (World.ownsRow.lt o1 k hk).1 (World.ownsRow.lt o1 k hk).2), own_keep o2 (fun k hk => kp k (World.ownsRow.lt o2 k hk).1)⟩
      go_wp2_with fail
      go_meet
      case rel => exact ⟨_, _, _, _, HR⟩
  case rest =>
  obtain ⟨a1', k1', a2', k2', hcut⟩ := hcut
  have S0n := hcut
  clear hcut KA1 KA2 S0
  obtain ⟨wd, hwd⟩ : ∃ wd, wd = wc := ⟨_, rfl⟩
  rw [← hwd]
  have S0 := hide (by rw [← hwd] at S0n; exact (unhide S0n).1)
  have R1 := hide (by rw [← hwd] at S0n; exact (unhide S0n).2)
  clear hwd S0n
  go_upto_region 2 with fail

  go_cut [] from 11 to 18 (fun wx => ∃ a3' k3' a4' k4', Hid (TwoB w wx 34 #[.int .i64 g0, .int .i64 g1, .int .i64 g2, .int .i64 g3, .int .i64 g4, .bool g5, .slice a1' LA k1', .slice a2' LR k2', .slice a3' LQ k3', .slice a4' LJ k4', .int .i64 g10, .int .i64 g11, .slice a5 LN k5, .int .i64 g13, .int .i64 g14] cm0 ∧ wx.ownsRow (w.heap.size + 2) 131 3 (.slice a1' LA k1') LA (riC adds) ∧ wx.ownsRow (w.heap.size + 2) 3 1 (.slice a2' LR k2') LR (rem.map I64) ∧ wx.ownsRow (w.heap.size + 2) 133 3 (.slice a3' LQ k3') LQ (riC seals) ∧ wx.ownsRow (w.heap.size + 2) 135 2 (.slice a4' LJ k4') LJ (riC joins)))
  case first =>
    have x1 : wd.drew.cell? ⟨w.heap.size, 8, none⟩ = some (.slice a3 LQ k3) := blk_c (unhide S0).k1 rfl
    have x2 : wd.drew.cell? ⟨w.heap.size, 9, none⟩ = some (.slice a4 LJ k4) := blk_c (unhide S0).k1 rfl
    have KA := hide (unhide KA3 wd.drew (unhide S0).bel.drew)
    go_region_law (go_simp; go_wp2_with (first
      | (go_at_call 179; refine (unhide KA).mono ?_; rintro e_ zz ⟨a3', k3', rfl, ho1, b1⟩; have T1 := hide (((unhide S0).bw (Below.refl _ _).drew).bw b1); have y1 : zz.cell? ⟨w.heap.size, 8, none⟩ = some (.slice a3 LQ k3) := blk_c (unhide T1).k1 rfl; have y2 : zz.cell? ⟨w.heap.size, 9, none⟩ = some (.slice a4 LJ k4) := blk_c (unhide T1).k1 rfl; have KB := hide (unhide KA4 zz (unhide T1).bel); have HO1 := hide (And.intro ho1 b1); clear ho1 b1)
      | (go_at_call 180; refine (unhide KB).mono ?_; rintro e_ z2 ⟨a4', k4', rfl, ho2, b2⟩; have T2 := hide ((unhide T1).bw b2); have u1 : z2.cell? ⟨w.heap.size, 8, none⟩ = some (.slice a3 LQ k3) := blk_c (unhide T2).k1 rfl; have u2 : z2.cell? ⟨w.heap.size, 9, none⟩ = some (.slice a4 LJ k4) := blk_c (unhide T2).k1 rfl; have fz := fun j => froz_b' (i := j) (unhide T2).k1; have HO2 := hide (And.intro ho2 b2); clear ho2 b2)))
    all_goals
      have HR : Hid (TwoB w ((z2.setCell ⟨w.heap.size, 8, none⟩ (.slice a3' LQ k3')).setCell ⟨w.heap.size, 9, none⟩ (.slice a4' LJ k4')) 34 #[.int .i64 g0, .int .i64 g1, .int .i64 g2, .int .i64 g3, .int .i64 g4, .bool g5, .slice a1' LA k1', .slice a2' LR k2', .slice a3' LQ k3', .slice a4' LJ k4', .int .i64 g10, .int .i64 g11, .slice a5 LN k5, .int .i64 g13, .int .i64 g14] cm0 ∧ ((z2.setCell ⟨w.heap.size, 8, none⟩ (.slice a3' LQ k3')).setCell ⟨w.heap.size, 9, none⟩ (.slice a4' LJ k4')).ownsRow (w.heap.size + 2) 131 3 (.slice a1' LA k1') LA (riC adds) ∧ ((z2.setCell ⟨w.heap.size, 8, none⟩ (.slice a3' LQ k3')).setCell ⟨w.heap.size, 9, none⟩ (.slice a4' LJ k4')).ownsRow (w.heap.size + 2) 3 1 (.slice a2' LR k2') LR (rem.map I64) ∧ ((z2.setCell ⟨w.heap.size, 8, none⟩ (.slice a3' LQ k3')).setCell ⟨w.heap.size, 9, none⟩ (.slice a4' LJ k4')).ownsRow (w.heap.size + 2) 133 3 (.slice a3' LQ k3') LQ (riC seals) ∧ ((z2.setCell ⟨w.heap.size, 8, none⟩ (.slice a3' LQ k3')).setCell ⟨w.heap.size, 9, none⟩ (.slice a4' LJ k4')).ownsRow (w.heap.size + 2) 135 2 (.slice a4' LJ k4') LJ (riC joins)) := by
        have p1 := (unhide T2).poke 8 (.slice a3' LQ k3')
        have p2 := p1.1.poke 9 (.slice a4' LJ k4')
        have h2 := (unhide S0).two
        have hs1 : w.heap.size + 2 ≤ zz.heap.size := (unhide T1).two
        have kp : ∀ k, w.heap.size + 2 ≤ k → ((z2.setCell ⟨w.heap.size, 8, none⟩ (.slice a3' LQ k3')).setCell ⟨w.heap.size, 9, none⟩ (.slice a4' LJ k4')).heap[k]? = z2.heap[k]? := fun k hk => by rw [p2.2 k hk, p1.2 k hk]
        have kb : ∀ k, w.heap.size + 2 ≤ k → k < zz.heap.size → ((z2.setCell ⟨w.heap.size, 8, none⟩ (.slice a3' LQ k3')).setCell ⟨w.heap.size, 9, none⟩ (.slice a4' LJ k4')).heap[k]? = zz.heap[k]? := fun k hk hk2 => by rw [kp k hk]; exact (unhide HO2).2.block k hk2
        have o1 := own_mono (unhide HO1).1 (show w.heap.size + 2 ≤ _ from h2)
        have o2 := own_mono (unhide HO2).1 hs1
        exact ⟨p2.1, (by
          have q := (unhide R1).1
          exact own_keep q (fun k hk => by have h9 := World.ownsRow.lt q k hk; rw [kb k h9.1 (Nat.lt_of_lt_of_le h9.2 (unhide HO1).2.size)]; exact (unhide HO1).2.block k h9.2)), (by
          have q := (unhide R1).2
          exact own_keep q (fun k hk => by have h9 := World.ownsRow.lt q k hk; rw [kb k h9.1 (Nat.lt_of_lt_of_le h9.2 (unhide HO1).2.size)]; exact (unhide HO1).2.block k h9.2)), own_keep o1 (fun k hk => kb k (World.ownsRow.lt o1 k hk).1 (World.ownsRow.lt o1 k hk).2), own_keep o2 (fun k hk => kp k (World.ownsRow.lt o2 k hk).1)⟩
      go_wp2_with fail
      go_meet
      case rel => exact ⟨_, _, _, _, HR⟩
  case rest =>
  obtain ⟨a3', k3', a4', k4', hcut⟩ := hcut
  have S0n := hcut
  clear hcut KA3 KA4 S0
  obtain ⟨we, hwe⟩ : ∃ we, we = wc := ⟨_, rfl⟩
  rw [← hwe]
  have S0 := hide (by rw [← hwe] at S0n; exact (unhide S0n).1)
  have R2 := hide (by rw [← hwe] at S0n; exact (unhide S0n).2)
  clear hwe S0n R1
  have x12 : we.cell? ⟨w.heap.size, 12, none⟩ = some (.slice a5 LN k5) := blk_c (unhide S0).k1 rfl
  go_wp2_with fail
  refine (unhide KA5 we (unhide S0).bel).mono ?_
  rintro e w1 ⟨v5, us, rfl, ho, b1⟩
  obtain ⟨a5', k5', hv5⟩ := own_slice ho.row
  rw [← (unhide HN).1] at hv5
  subst hv5
  have s1 := (unhide S0).bw b1
  have p1 := s1.poke 12 (.slice a5' LN k5')
  obtain ⟨V1, hV1⟩ : ∃ V, V = w1.setCell ⟨w.heap.size, 12, none⟩ (.slice a5' LN k5') := ⟨_, rfl⟩
  rw [← hV1] at p1
  have s2 : TwoB w V1 34 #[.int .i64 g0, .int .i64 g1, .int .i64 g2, .int .i64 g3, .int .i64 g4, .bool g5, .slice a1' LA k1', .slice a2' LR k2', .slice a3' LQ k3', .slice a4' LJ k4', .int .i64 g10, .int .i64 g11, .slice a5' LN k5', .int .i64 g13, .int .i64 g14] cm0 := p1.1
  have an := s2.answer [.int .i64 g0, .int .i64 g1, .int .i64 g2, .int .i64 g3, .int .i64 g4, .bool g5, .slice a1' LA k1', .slice a2' LR k2', .slice a3' LQ k3', .slice a4' LJ k4', .int .i64 g10, .int .i64 g11, .slice a5' LN k5', .int .i64 g13, .int .i64 g14] rfl
  obtain ⟨WZ, hWZ⟩ : ∃ W, W = pokes V1 (w.heap.size + 1) 0 [.int .i64 g0, .int .i64 g1, .int .i64 g2, .int .i64 g3, .int .i64 g4, .bool g5, .slice a1' LA k1', .slice a2' LR k2', .slice a3' LQ k3', .slice a4' LJ k4', .int .i64 g10, .int .i64 g11, .slice a5' LN k5', .int .i64 g13, .int .i64 g14] := ⟨_, rfl⟩
  rw [← hWZ] at an
  have HO : Hid (OC w.heap.size WZ ⟨g0, g1, g2, g3, g4, g5, adds, rem, seals, joins, g10, g11, next, g13, g14⟩ ⟨.slice a1' LA k1', .slice a2' LR k2', .slice a3' LQ k3', .slice a4' LJ k4', .slice a5' LN k5'⟩ us ∧ Below w.heap.size w WZ) := by
    have h2 := (unhide S0).two
    obtain ⟨q1, q2, q3, q4⟩ := unhide R2
    obtain ⟨hN, hA, hR, hQ, hJ⟩ := unhide HN
    have kp : ∀ k, w.heap.size + 2 ≤ k → WZ.heap[k]? = w1.heap[k]? := fun k hk => by rw [an.2.2 k hk, p1.2 k hk]
    have kb : ∀ k, w.heap.size + 2 ≤ k → k < we.heap.size → WZ.heap[k]? = we.heap[k]? := fun k hk hk2 => by rw [kp k hk]; exact b1.block k hk2
    have kk : ∀ {t : TypeId} {cc nn : Nat} {vv : Value} {ll : List Value}, we.ownsRow (w.heap.size + 2) t cc vv nn ll → WZ.ownsRow w.heap.size t cc vv nn ll := fun q => own_mono (own_keep q (fun k hk => kb k (World.ownsRow.lt q k hk).1 (World.ownsRow.lt q k hk).2)) (by omega)
    refine ⟨⟨?_, ?_, ?_, ?_, ?_, ?_⟩, an.2.1⟩
    · show WZ.ownsRow w.heap.size 131 3 (.slice a1' LA k1') adds.length (riC adds)
      rw [← hA]; exact kk q1
    · show WZ.ownsRow w.heap.size 3 1 (.slice a2' LR k2') rem.length (rem.map I64)
      rw [← hR]; exact kk q2
    · show WZ.ownsRow w.heap.size 133 3 (.slice a3' LQ k3') seals.length (riC seals)
      rw [← hQ]; exact kk q3
    · show WZ.ownsRow w.heap.size 135 2 (.slice a4' LJ k4') joins.length (riC joins)
      rw [← hJ]; exact kk q4
    · exact ((ho.owl.keep (fun k hk => kp k (by have := (ho.owl.lt k hk).1; omega))).mono (by omega)).otr
    · intro i u k hu hk hq
      have h8 := (World.ownsRow.lt q2 k hq).2
      have h9 := (ho.owl.lt k (zK_el (K := kNd) hu (by show k ∈ u.ownBlock.toList; simp [hk]))).1
      omega
  have y12 : w1.cell? ⟨w.heap.size, 12, none⟩ = some (.slice a5 LN k5) := blk_c s1.k1 rfl
  have f3 := fun j => froz_b' (i := j) s1.k1
  have d0_ : V1.cell? ⟨w.heap.size, 0, none⟩ = some (.int .i64 g0) := blk_c s2.k1 rfl
  have d1_ : V1.cell? ⟨w.heap.size, 1, none⟩ = some (.int .i64 g1) := blk_c s2.k1 rfl
  have d2_ : V1.cell? ⟨w.heap.size, 2, none⟩ = some (.int .i64 g2) := blk_c s2.k1 rfl
  have d3_ : V1.cell? ⟨w.heap.size, 3, none⟩ = some (.int .i64 g3) := blk_c s2.k1 rfl
  have d4_ : V1.cell? ⟨w.heap.size, 4, none⟩ = some (.int .i64 g4) := blk_c s2.k1 rfl
  have d5_ : V1.cell? ⟨w.heap.size, 5, none⟩ = some (.bool g5) := blk_c s2.k1 rfl
  have d6_ : V1.cell? ⟨w.heap.size, 6, none⟩ = some (.slice a1' LA k1') := blk_c s2.k1 rfl
  have d7_ : V1.cell? ⟨w.heap.size, 7, none⟩ = some (.slice a2' LR k2') := blk_c s2.k1 rfl
  have d8_ : V1.cell? ⟨w.heap.size, 8, none⟩ = some (.slice a3' LQ k3') := blk_c s2.k1 rfl
  have d9_ : V1.cell? ⟨w.heap.size, 9, none⟩ = some (.slice a4' LJ k4') := blk_c s2.k1 rfl
  have d10_ : V1.cell? ⟨w.heap.size, 10, none⟩ = some (.int .i64 g10) := blk_c s2.k1 rfl
  have d11_ : V1.cell? ⟨w.heap.size, 11, none⟩ = some (.int .i64 g11) := blk_c s2.k1 rfl
  have d12_ : V1.cell? ⟨w.heap.size, 12, none⟩ = some (.slice a5' LN k5') := blk_c s2.k1 rfl
  have d13_ : V1.cell? ⟨w.heap.size, 13, none⟩ = some (.int .i64 g13) := blk_c s2.k1 rfl
  have d14_ : V1.cell? ⟨w.heap.size, 14, none⟩ = some (.int .i64 g14) := blk_c s2.k1 rfl
  have e0_ : V1.cell? ⟨w.heap.size + 1, 0, none⟩ = some (.int .i64 0) := blk_c s2.k2 rfl
  have e1_ : V1.cell? ⟨w.heap.size + 1, 1, none⟩ = some (.int .i64 0) := blk_c s2.k2 rfl
  have e2_ : V1.cell? ⟨w.heap.size + 1, 2, none⟩ = some (.int .i64 0) := blk_c s2.k2 rfl
  have e3_ : V1.cell? ⟨w.heap.size + 1, 3, none⟩ = some (.int .i64 0) := blk_c s2.k2 rfl
  have e4_ : V1.cell? ⟨w.heap.size + 1, 4, none⟩ = some (.int .i64 0) := blk_c s2.k2 rfl
  have e5_ : V1.cell? ⟨w.heap.size + 1, 5, none⟩ = some (.bool false) := blk_c s2.k2 rfl
  have e6_ : V1.cell? ⟨w.heap.size + 1, 6, none⟩ = some (.slice none 0 0) := blk_c s2.k2 rfl
  have e7_ : V1.cell? ⟨w.heap.size + 1, 7, none⟩ = some (.slice none 0 0) := blk_c s2.k2 rfl
  have e8_ : V1.cell? ⟨w.heap.size + 1, 8, none⟩ = some (.slice none 0 0) := blk_c s2.k2 rfl
  have e9_ : V1.cell? ⟨w.heap.size + 1, 9, none⟩ = some (.slice none 0 0) := blk_c s2.k2 rfl
  have e10_ : V1.cell? ⟨w.heap.size + 1, 10, none⟩ = some (.int .i64 0) := blk_c s2.k2 rfl
  have e11_ : V1.cell? ⟨w.heap.size + 1, 11, none⟩ = some (.int .i64 0) := blk_c s2.k2 rfl
  have e12_ : V1.cell? ⟨w.heap.size + 1, 12, none⟩ = some (.slice none 0 0) := blk_c s2.k2 rfl
  have e13_ : V1.cell? ⟨w.heap.size + 1, 13, none⟩ = some (.int .i64 0) := blk_c s2.k2 rfl
  have e14_ : V1.cell? ⟨w.heap.size + 1, 14, none⟩ = some (.int .i64 0) := blk_c s2.k2 rfl
  have fe := fun j => froz_b' (i := j) s2.k2
  have z0_ : WZ.cell? ⟨w.heap.size + 1, 0, none⟩ = some (.int .i64 g0) := blk_c an.1 rfl
  have z1_ : WZ.cell? ⟨w.heap.size + 1, 1, none⟩ = some (.int .i64 g1) := blk_c an.1 rfl
  have z2_ : WZ.cell? ⟨w.heap.size + 1, 2, none⟩ = some (.int .i64 g2) := blk_c an.1 rfl
  have z3_ : WZ.cell? ⟨w.heap.size + 1, 3, none⟩ = some (.int .i64 g3) := blk_c an.1 rfl
  have z4_ : WZ.cell? ⟨w.heap.size + 1, 4, none⟩ = some (.int .i64 g4) := blk_c an.1 rfl
  have z5_ : WZ.cell? ⟨w.heap.size + 1, 5, none⟩ = some (.bool g5) := blk_c an.1 rfl
  have z6_ : WZ.cell? ⟨w.heap.size + 1, 6, none⟩ = some (.slice a1' LA k1') := blk_c an.1 rfl
  have z7_ : WZ.cell? ⟨w.heap.size + 1, 7, none⟩ = some (.slice a2' LR k2') := blk_c an.1 rfl
  have z8_ : WZ.cell? ⟨w.heap.size + 1, 8, none⟩ = some (.slice a3' LQ k3') := blk_c an.1 rfl
  have z9_ : WZ.cell? ⟨w.heap.size + 1, 9, none⟩ = some (.slice a4' LJ k4') := blk_c an.1 rfl
  have z10_ : WZ.cell? ⟨w.heap.size + 1, 10, none⟩ = some (.int .i64 g10) := blk_c an.1 rfl
  have z11_ : WZ.cell? ⟨w.heap.size + 1, 11, none⟩ = some (.int .i64 g11) := blk_c an.1 rfl
  have z12_ : WZ.cell? ⟨w.heap.size + 1, 12, none⟩ = some (.slice a5' LN k5') := blk_c an.1 rfl
  have z13_ : WZ.cell? ⟨w.heap.size + 1, 13, none⟩ = some (.int .i64 g13) := blk_c an.1 rfl
  have z14_ : WZ.cell? ⟨w.heap.size + 1, 14, none⟩ = some (.int .i64 g14) := blk_c an.1 rfl
  have HV := hide hV1
  have HZ : Hid (WZ = (((((((((((((((V1).setCell ⟨w.heap.size + 1, 0, none⟩ (.int .i64 g0)).setCell ⟨w.heap.size + 1, 1, none⟩ (.int .i64 g1)).setCell ⟨w.heap.size + 1, 2, none⟩ (.int .i64 g2)).setCell ⟨w.heap.size + 1, 3, none⟩ (.int .i64 g3)).setCell ⟨w.heap.size + 1, 4, none⟩ (.int .i64 g4)).setCell ⟨w.heap.size + 1, 5, none⟩ (.bool g5)).setCell ⟨w.heap.size + 1, 6, none⟩ (.slice a1' LA k1')).setCell ⟨w.heap.size + 1, 7, none⟩ (.slice a2' LR k2')).setCell ⟨w.heap.size + 1, 8, none⟩ (.slice a3' LQ k3')).setCell ⟨w.heap.size + 1, 9, none⟩ (.slice a4' LJ k4')).setCell ⟨w.heap.size + 1, 10, none⟩ (.int .i64 g10)).setCell ⟨w.heap.size + 1, 11, none⟩ (.int .i64 g11)).setCell ⟨w.heap.size + 1, 12, none⟩ (.slice a5' LN k5')).setCell ⟨w.heap.size + 1, 13, none⟩ (.int .i64 g13)).setCell ⟨w.heap.size + 1, 14, none⟩ (.int .i64 g14)) := hWZ
  clear S0 KA5 ho b1 s1 p1 hV1 s2 an hWZ R2 x12
  go_upto_region 4 with fail
  rw [← unhide HV]
  clear HV y12 f3
  go_wp2_with fail
  rw [← unhide HZ]
  exact bodyPost_ret (v := .agg #[.int .i64 g0, .int .i64 g1, .int .i64 g2, .int .i64 g3, .int .i64 g4, .bool g5, .slice a1' LA k1', .slice a2' LR k2', .slice a3' LQ k3', .slice a4' LJ k4', .int .i64 g10, .int .i64 g11, .slice a5' LN k5', .int .i64 g13, .int .i64 g14]) (by simp [results, Tryz.results37, go_sem, z0_, z1_, z2_, z3_, z4_, z5_, z6_, z7_, z8_, z9_, z10_, z11_, z12_, z13_, z14_]) rfl ⟨⟨.slice a1' LA k1', .slice a2' LR k2', .slice a3' LQ k3', .slice a4' LJ k4', .slice a5' LN k5'⟩, us, rfl, (unhide HO).1, (unhide HO).2⟩
end Go.Proofs.YtnfhbmlmemifjaaGreatDoor
