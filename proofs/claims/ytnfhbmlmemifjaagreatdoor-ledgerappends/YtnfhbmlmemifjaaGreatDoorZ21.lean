/- Texts joined: BgD BgF BgG. -/
import Derived.Test.YtnfhbmlmemifjaaGreatDoorZ13
import Derived.Test.YtnfhbmlmemifjaaGreatDoorZ16
import Derived.Test.YtnfhbmlmemifjaaGreatDoorZ18
import Derived.Test.YtnfhbmlmemifjaaGreatDoorZ20
import Derived.Test.YtnfhbmlmemifjaaGreatDoorZ08
import Derived.Deep.RegionLaw
/- Which lists a node, a commit, a log has for its own. No walk is in this text. -/
namespace Go.Proofs.YtnfhbmlmemifjaaGreatDoor
open Go.RowKit Go.Maps
structure T5 (T : KS) : Prop where
  n : T.D 2 = some kdNumber
  q : T.D 6 = some kgSeal.k
  a : T.D 8 = some kgAdd.k
  j : T.D 9 = some kgJoin.k
  d : T.D 19 = some kdNode
def pkNd (T : KS) (h : T5 T) : PK T kNd where
  P := fun n u => [⟨2, u, n.un.length⟩]
  S := fun n => n.un.length ≤ 1150000
  own := fun _ _ n u ho hs p hp => by
    have : p = ⟨2, u, n.un.length⟩ := by simpa using hp
    subst this
    exact ⟨_, _, h.n, ho, hs⟩
  ap := fun _ _ _ _ _ => by simp
  blk := fun n u p _ hp hk => by
    have : p = ⟨2, u, n.un.length⟩ := by simpa using hp
    subst this
    exact Option.mem_toList.2 hk
  cov := fun _ _ _ _ _ _ hk => ⟨_, List.mem_cons_self, Option.mem_toList.1 hk⟩
structure SmB (c : Cm) : Prop where
  a : c.adds.length ≤ 1150000
  r : c.rem.length ≤ 1150000
  q : c.seals.length ≤ 1150000
  j : c.joins.length ≤ 1150000
  n : c.next.length ≤ 1150000
  u : ∀ n ∈ c.next, n.un.length ≤ 1150000
def cmPt (c : Cm) (x : Cv) : List Pc := [⟨8, x.av, c.adds.length⟩, ⟨2, x.rv, c.rem.length⟩, ⟨6, x.qv, c.seals.length⟩, ⟨9, x.jv, c.joins.length⟩]
theorem cmPt_cases {c : Cm} {x : Cv} {p : Pc} (h : p ∈ cmPt c x) : p = ⟨8, x.av, c.adds.length⟩ ∨ p = ⟨2, x.rv, c.rem.length⟩ ∨ p = ⟨6, x.qv, c.seals.length⟩ ∨ p = ⟨9, x.jv, c.joins.length⟩ := by simpa [cmPt] using h
def pkCm (T : KS) (h : T5 T) : PK T kCm where
  P := fun c x => (pkNd T h).L 19 x.1.nv c.next x.2 ++ cmPt c x.1
  S := SmB
  own := fun _ _ _ _ ho hs p hp => by
    rcases List.mem_append.1 hp with q | q
    · exact (pkNd T h).L_own h.d ho.next.owl hs.u hs.n p q
    · rcases cmPt_cases q with rfl | rfl | rfl | rfl
      · exact ⟨_, _, h.a, ho.adds, hs.a⟩
      · exact ⟨_, _, h.n, ho.rem, hs.r⟩
      · exact ⟨_, _, h.q, ho.seals, hs.q⟩
      · exact ⟨_, _, h.j, ho.joins, hs.j⟩
  ap := fun _ _ c x ho => by
    refine List.pairwise_append.2 ⟨(pkNd T h).L_ap 19 ho.next.owl, ?_, fun p hp q hq e k hk hk2 => ?_⟩
    · simp [cmPt, ApP]
    · rcases List.mem_append.1 hp with c1 | c1
      · obtain ⟨i, a, u, ha, hu, hp⟩ := mem_zf c1
        have : p = ⟨2, u, a.un.length⟩ := by simpa [pkNd] using hp
        subst this
        rcases cmPt_cases hq with rfl | rfl | rfl | rfl
        · cases e
        · exact ho.ap i u k hu hk hk2
        · cases e
        · cases e
      · have : p = ⟨19, x.1.nv, c.next.length⟩ := by simpa using c1
        subst this
        rcases cmPt_cases hq with rfl | rfl | rfl | rfl <;> cases e
  blk := fun _ x p k hp hk => by
    show k ∈ cvZ x.1 x.2
    unfold cvZ
    rcases List.mem_append.1 hp with q | q
    · have := (pkNd T h).L_blk q hk
      simp only [List.mem_append]
      exact Or.inr (Or.inr (Or.inr (Or.inr this)))
    · rcases cmPt_cases q with rfl | rfl | rfl | rfl <;> simp only [List.mem_append, Option.mem_toList] <;> simp [hk]
  cov := fun _ _ c x ho _ hk => by
    rcases cvZ_cases hk with q | q | q | q | q
    · exact ⟨⟨8, x.1.av, c.adds.length⟩, List.mem_append_right _ (by simp [cmPt]), q⟩
    · exact ⟨⟨2, x.1.rv, c.rem.length⟩, List.mem_append_right _ (by simp [cmPt]), q⟩
    · exact ⟨⟨6, x.1.qv, c.seals.length⟩, List.mem_append_right _ (by simp [cmPt]), q⟩
    · exact ⟨⟨9, x.1.jv, c.joins.length⟩, List.mem_append_right _ (by simp [cmPt]), q⟩
    · obtain ⟨p, hp, e⟩ := (pkNd T h).L_cov 19 ho.next.owl q
      exact ⟨p, List.mem_append_left _ hp, e⟩
def pkLg (T : KS) (h : T5 T) (hc : T.D 21 = some kgCommit.k) : PK T kLg where
  P := fun p x => (pkCm T h).L 21 x.1 p.2 x.2
  S := fun p => p.2.length ≤ 1150000 ∧ ∀ c ∈ p.2, SmB c
  own := fun _ _ _ _ ho hs => (pkCm T h).L_own hc ho hs.2 hs.1
  ap := fun _ _ _ _ ho => (pkCm T h).L_ap 21 ho
  blk := fun _ _ _ _ hq hk => (pkCm T h).L_blk hq hk
  cov := fun _ _ _ _ ho _ hk => (pkCm T h).L_cov 21 ho hk
end Go.Proofs.YtnfhbmlmemifjaaGreatDoor

/- What a Book is told: lists of a commit's kinds, a node, a tree, a commit. mkBgW.py writes it. -/
namespace Go.Proofs.YtnfhbmlmemifjaaGreatDoor
open Go.RowKit Go.Maps
theorem keepNumber_c : KeepC 57 2 kdNumber := fun B b n F es X p m cap w h1 h2 h3 h4 h5 h6 => keepNumber_b B b n F es X p m cap w h1 h2 h3 h4 h5 h6
theorem keepNode_c : KeepC 297 19 kdNode := fun B b n F es X p m cap w h1 h2 h3 h4 h5 h6 => keepNode_b B b n F es X p m cap w h1 h2 h3 h4 h5 h6
theorem bginfoheldSeal : (Tryz.prog.info? 171).map (fun i => (i.zero, i.size, i.bytes)) = some (some (.agg #[.slice none 0 0, .int .i64 0]), 2, 32) := by kernel_rfl
set_option maxRecDepth 100000 in
set_option maxHeartbeats 4000000 in
theorem keepSeal_c : KeepC 194 6 kgSeal.k := by
  intro B b n F es X p m cap w hb h hBb hB hN hn
  obtain ⟨i0, hi, hz0, hz1, hz2⟩ := info_parts bginfoheldSeal
  have c0 : w.cell? ⟨b, 0, none⟩ = some (.int .i64 (n : Int)) := cell_of_blk hb (bookF_zero _ _)
  have c2 := book_cell hb (k := 6) (by decide) (by decide)
  have hbw := lt_of_blk hb
  have hone : ∀ u ∈ [Value.slice p m cap, .int .i64 (n : Int)], u.oneCell' = true := by
    intro u hu
    simp only [List.mem_cons, List.not_mem_nil, or_false] at hu
    rcases hu with rfl | rfl <;> rfl
  have h0 : Fr [] w (w.drew.alloc (.cells #[.slice p m cap, .int .i64 (n : Int)] 171)) := ((Fr.refl [] w).drew).alloc _
  have HM : Hid (es.length + 1 ≤ maxLen ∧ (es.length + 1) * 32 ≤ 140737488355328 ∧ (∀ u ∈ [Value.slice p m cap, .int .i64 (n : Int)], u.oneCell' = true) ∧ w.drew.ownsRow B 171 2 (F 6) es.length (helE es)) := ⟨by unfold maxLen; omega, by omega, hone, h.own.drew⟩
  have HT : Hid (∀ (lv' : Value) (w1 : World), w1.ownsRow B 171 2 lv' (es.length + 1) (helE es ++ [.slice p m cap, .int .i64 (n : Int)]) → (w.drew.alloc (.cells #[.slice p m cap, .int .i64 (n : Int)] 171)).grownBy w1 (F 6).ownBlock → (lv'.ownBlock = (F 6).ownBlock ∨ lv'.ownBlock = some (w.drew.alloc (.cells #[.slice p m cap, .int .i64 (n : Int)] 171)).heap.size) → _) := fun lv' w1 ho hg hat => h.kept (k := 6) hb (by decide) hBb hB (by decide) (by decide) h0 ho hg hat
  have c2a : (w.alloc (.cells #[.slice p m cap, .int .i64 (n : Int)] 171)).cell? ⟨b, 6, none⟩ = some (F 6) := by
    rw [World.cell?_of_block (w := w) (Below.heap_alloc _ _ _ hbw)]; exact c2
  have hnI : (n : Int) ≤ 1150000 := by omega
  have HBw := hide hB
  clear hone h0 h hbw hb hN hn hBb hB
  show Calls Tryz.prog 194 #[.pointer (some ⟨b, 0, none⟩), .slice p m cap] w fun e w' => e = .returned (.tuple #[]) ∧ ∃ lv', w'.heap[b]? = some (.cells (bookF ((n + 1 : Nat) : Int) (updF F 6 lv')) 81 (0, 0)) ∧ w'.ownsRow B 171 2 lv' (es ++ [Ent.mk (.slice p m cap) n m]).length (helE (es ++ [Ent.mk (.slice p m cap) n m])) ∧ Tf [81, 171] B w w'
  generalize hlv : F 6 = lv at *
  clear hlv
  go_enter Tryz.func194, Tryz.ntmps194
  go_wp2_with fail
  go_region_law (refine step_app rfl (.tmp 8) (.tmp 15) 51 rfl B 171 i0 (.agg #[.slice none 0 0, .int .i64 0]) 2 32 Tryz.underlying51 hi hz0 hz1 hz2 rfl (by decide) lv es.length (helE es) (by simp [Act.eval]) ((unhide HM).2.2.2.alloc _) ⟨w.heap.size, 0, none⟩ 1 1 [.slice p m cap, .int .i64 (n : Int)] (by simp [Act.eval]) rfl (cells_newB2 w.drew _ _ _) (unhide HM).2.2.1 (unhide HM).1 (unhide HM).2.1 (by have := unhide HBw; simp; omega) ?_; intro v' w1 hown' hgrow hat; obtain ⟨k1, k2, k3, k4, k5, k6, k7⟩ := unhide HT v' w1 hown' hgrow hat; obtain ⟨g, cp, rfl⟩ := row_formB hown')
  all_goals
    have HZ := hide (And.intro k1 (And.intro (k2 m) k3))
    clear k1 k2 k3
    go_wp2_with fail
  all_goals
    go_end0
    exact ⟨rfl, _, (unhide HZ).1, (unhide HZ).2.1, (unhide HZ).2.2⟩
theorem bginfoheldAdd : (Tryz.prog.info? 182).map (fun i => (i.zero, i.size, i.bytes)) = some (some (.agg #[.slice none 0 0, .int .i64 0]), 2, 32) := by kernel_rfl
set_option maxRecDepth 100000 in
set_option maxHeartbeats 4000000 in
theorem keepAdd_c : KeepC 193 8 kgAdd.k := by
  intro B b n F es X p m cap w hb h hBb hB hN hn
  obtain ⟨i0, hi, hz0, hz1, hz2⟩ := info_parts bginfoheldAdd
  have c0 : w.cell? ⟨b, 0, none⟩ = some (.int .i64 (n : Int)) := cell_of_blk hb (bookF_zero _ _)
  have c2 := book_cell hb (k := 8) (by decide) (by decide)
  have hbw := lt_of_blk hb
  have hone : ∀ u ∈ [Value.slice p m cap, .int .i64 (n : Int)], u.oneCell' = true := by
    intro u hu
    simp only [List.mem_cons, List.not_mem_nil, or_false] at hu
    rcases hu with rfl | rfl <;> rfl
  have h0 : Fr [] w (w.drew.alloc (.cells #[.slice p m cap, .int .i64 (n : Int)] 182)) := ((Fr.refl [] w).drew).alloc _
  have HM : Hid (es.length + 1 ≤ maxLen ∧ (es.length + 1) * 32 ≤ 140737488355328 ∧ (∀ u ∈ [Value.slice p m cap, .int .i64 (n : Int)], u.oneCell' = true) ∧ w.drew.ownsRow B 182 2 (F 8) es.length (helE es)) := ⟨by unfold maxLen; omega, by omega, hone, h.own.drew⟩
  have HT : Hid (∀ (lv' : Value) (w1 : World), w1.ownsRow B 182 2 lv' (es.length + 1) (helE es ++ [.slice p m cap, .int .i64 (n : Int)]) → (w.drew.alloc (.cells #[.slice p m cap, .int .i64 (n : Int)] 182)).grownBy w1 (F 8).ownBlock → (lv'.ownBlock = (F 8).ownBlock ∨ lv'.ownBlock = some (w.drew.alloc (.cells #[.slice p m cap, .int .i64 (n : Int)] 182)).heap.size) → _) := fun lv' w1 ho hg hat => h.kept (k := 8) hb (by decide) hBb hB (by decide) (by decide) h0 ho hg hat
  have c2a : (w.alloc (.cells #[.slice p m cap, .int .i64 (n : Int)] 182)).cell? ⟨b, 8, none⟩ = some (F 8) := by
    rw [World.cell?_of_block (w := w) (Below.heap_alloc _ _ _ hbw)]; exact c2
  have hnI : (n : Int) ≤ 1150000 := by omega
  have HBw := hide hB
  clear hone h0 h hbw hb hN hn hBb hB
  show Calls Tryz.prog 193 #[.pointer (some ⟨b, 0, none⟩), .slice p m cap] w fun e w' => e = .returned (.tuple #[]) ∧ ∃ lv', w'.heap[b]? = some (.cells (bookF ((n + 1 : Nat) : Int) (updF F 8 lv')) 81 (0, 0)) ∧ w'.ownsRow B 182 2 lv' (es ++ [Ent.mk (.slice p m cap) n m]).length (helE (es ++ [Ent.mk (.slice p m cap) n m])) ∧ Tf [81, 182] B w w'
  generalize hlv : F 8 = lv at *
  clear hlv
  go_enter Tryz.func193, Tryz.ntmps193
  go_wp2_with fail
  go_region_law (refine step_app rfl (.tmp 8) (.tmp 15) 53 rfl B 182 i0 (.agg #[.slice none 0 0, .int .i64 0]) 2 32 Tryz.underlying53 hi hz0 hz1 hz2 rfl (by decide) lv es.length (helE es) (by simp [Act.eval]) ((unhide HM).2.2.2.alloc _) ⟨w.heap.size, 0, none⟩ 1 1 [.slice p m cap, .int .i64 (n : Int)] (by simp [Act.eval]) rfl (cells_newB2 w.drew _ _ _) (unhide HM).2.2.1 (unhide HM).1 (unhide HM).2.1 (by have := unhide HBw; simp; omega) ?_; intro v' w1 hown' hgrow hat; obtain ⟨k1, k2, k3, k4, k5, k6, k7⟩ := unhide HT v' w1 hown' hgrow hat; obtain ⟨g, cp, rfl⟩ := row_formB hown')
  all_goals
    have HZ := hide (And.intro k1 (And.intro (k2 m) k3))
    clear k1 k2 k3
    go_wp2_with fail
  all_goals
    go_end0
    exact ⟨rfl, _, (unhide HZ).1, (unhide HZ).2.1, (unhide HZ).2.2⟩
theorem bginfoheldJoin : (Tryz.prog.info? 186).map (fun i => (i.zero, i.size, i.bytes)) = some (some (.agg #[.slice none 0 0, .int .i64 0]), 2, 32) := by kernel_rfl
set_option maxRecDepth 100000 in
set_option maxHeartbeats 4000000 in
theorem keepJoin_c : KeepC 195 9 kgJoin.k := by
  intro B b n F es X p m cap w hb h hBb hB hN hn
  obtain ⟨i0, hi, hz0, hz1, hz2⟩ := info_parts bginfoheldJoin
  have c0 : w.cell? ⟨b, 0, none⟩ = some (.int .i64 (n : Int)) := cell_of_blk hb (bookF_zero _ _)
  have c2 := book_cell hb (k := 9) (by decide) (by decide)
  have hbw := lt_of_blk hb
  have hone : ∀ u ∈ [Value.slice p m cap, .int .i64 (n : Int)], u.oneCell' = true := by
    intro u hu
    simp only [List.mem_cons, List.not_mem_nil, or_false] at hu
    rcases hu with rfl | rfl <;> rfl
  have h0 : Fr [] w (w.drew.alloc (.cells #[.slice p m cap, .int .i64 (n : Int)] 186)) := ((Fr.refl [] w).drew).alloc _
  have HM : Hid (es.length + 1 ≤ maxLen ∧ (es.length + 1) * 32 ≤ 140737488355328 ∧ (∀ u ∈ [Value.slice p m cap, .int .i64 (n : Int)], u.oneCell' = true) ∧ w.drew.ownsRow B 186 2 (F 9) es.length (helE es)) := ⟨by unfold maxLen; omega, by omega, hone, h.own.drew⟩
  have HT : Hid (∀ (lv' : Value) (w1 : World), w1.ownsRow B 186 2 lv' (es.length + 1) (helE es ++ [.slice p m cap, .int .i64 (n : Int)]) → (w.drew.alloc (.cells #[.slice p m cap, .int .i64 (n : Int)] 186)).grownBy w1 (F 9).ownBlock → (lv'.ownBlock = (F 9).ownBlock ∨ lv'.ownBlock = some (w.drew.alloc (.cells #[.slice p m cap, .int .i64 (n : Int)] 186)).heap.size) → _) := fun lv' w1 ho hg hat => h.kept (k := 9) hb (by decide) hBb hB (by decide) (by decide) h0 ho hg hat
  have c2a : (w.alloc (.cells #[.slice p m cap, .int .i64 (n : Int)] 186)).cell? ⟨b, 9, none⟩ = some (F 9) := by
    rw [World.cell?_of_block (w := w) (Below.heap_alloc _ _ _ hbw)]; exact c2
  have hnI : (n : Int) ≤ 1150000 := by omega
  have HBw := hide hB
  clear hone h0 h hbw hb hN hn hBb hB
  show Calls Tryz.prog 195 #[.pointer (some ⟨b, 0, none⟩), .slice p m cap] w fun e w' => e = .returned (.tuple #[]) ∧ ∃ lv', w'.heap[b]? = some (.cells (bookF ((n + 1 : Nat) : Int) (updF F 9 lv')) 81 (0, 0)) ∧ w'.ownsRow B 186 2 lv' (es ++ [Ent.mk (.slice p m cap) n m]).length (helE (es ++ [Ent.mk (.slice p m cap) n m])) ∧ Tf [81, 186] B w w'
  generalize hlv : F 9 = lv at *
  clear hlv
  go_enter Tryz.func195, Tryz.ntmps195
  go_wp2_with fail
  go_region_law (refine step_app rfl (.tmp 8) (.tmp 15) 54 rfl B 186 i0 (.agg #[.slice none 0 0, .int .i64 0]) 2 32 Tryz.underlying54 hi hz0 hz1 hz2 rfl (by decide) lv es.length (helE es) (by simp [Act.eval]) ((unhide HM).2.2.2.alloc _) ⟨w.heap.size, 0, none⟩ 1 1 [.slice p m cap, .int .i64 (n : Int)] (by simp [Act.eval]) rfl (cells_newB2 w.drew _ _ _) (unhide HM).2.2.1 (unhide HM).1 (unhide HM).2.1 (by have := unhide HBw; simp; omega) ?_; intro v' w1 hown' hgrow hat; obtain ⟨k1, k2, k3, k4, k5, k6, k7⟩ := unhide HT v' w1 hown' hgrow hat; obtain ⟨g, cp, rfl⟩ := row_formB hown')
  all_goals
    have HZ := hide (And.intro k1 (And.intro (k2 m) k3))
    clear k1 k2 k3
    go_wp2_with fail
  all_goals
    go_end0
    exact ⟨rfl, _, (unhide HZ).1, (unhide HZ).2.1, (unhide HZ).2.2⟩
set_option maxHeartbeats 1000000 in
theorem numbers_l {T : KS} (hC : ListC T 57 2) : ListC T 23 2 := by
  intro B w b n H done p hp h hn hBH hw ho hap
  have K := hide (hC B w b n H done p hp h hn hBH hw ho hap)
  clear hC h hn hBH hw ho hap
  generalize p.v = v at *
  go_enter Tryz.func23, Tryz.ntmps23
  go_wp2_with fail
  refine (unhide K).mono ?_
  rintro e w1 ⟨rfl, h1, h2⟩
  have HZ := hide (And.intro h1 h2)
  clear h1 h2
  go_wp2
  go_end0
  exact ⟨rfl, unhide HZ⟩
set_option maxHeartbeats 1000000 in
theorem seals_l {T : KS} (hC : ListC T 194 6) : ListC T 55 6 := by
  intro B w b n H done p hp h hn hBH hw ho hap
  have K := hide (hC B w b n H done p hp h hn hBH hw ho hap)
  clear hC h hn hBH hw ho hap
  generalize p.v = v at *
  go_enter Tryz.func55, Tryz.ntmps55
  go_wp2_with fail
  refine (unhide K).mono ?_
  rintro e w1 ⟨rfl, h1, h2⟩
  have HZ := hide (And.intro h1 h2)
  clear h1 h2
  go_wp2
  go_end0
  exact ⟨rfl, unhide HZ⟩
set_option maxHeartbeats 1000000 in
theorem adds_l {T : KS} (hC : ListC T 193 8) : ListC T 54 8 := by
  intro B w b n H done p hp h hn hBH hw ho hap
  have K := hide (hC B w b n H done p hp h hn hBH hw ho hap)
  clear hC h hn hBH hw ho hap
  generalize p.v = v at *
  go_enter Tryz.func54, Tryz.ntmps54
  go_wp2_with fail
  refine (unhide K).mono ?_
  rintro e w1 ⟨rfl, h1, h2⟩
  have HZ := hide (And.intro h1 h2)
  clear h1 h2
  go_wp2
  go_end0
  exact ⟨rfl, unhide HZ⟩
set_option maxHeartbeats 1000000 in
theorem joins_l {T : KS} (hC : ListC T 195 9) : ListC T 56 9 := by
  intro B w b n H done p hp h hn hBH hw ho hap
  have K := hide (hC B w b n H done p hp h hn hBH hw ho hap)
  clear hC h hn hBH hw ho hap
  generalize p.v = v at *
  go_enter Tryz.func56, Tryz.ntmps56
  go_wp2_with fail
  refine (unhide K).mono ?_
  rintro e w1 ⟨rfl, h1, h2⟩
  have HZ := hide (And.intro h1 h2)
  clear h1 h2
  go_wp2
  go_end0
  exact ⟨rfl, unhide HZ⟩
theorem bginfoNode : (Tryz.prog.info? 256).map (·.size) = some 4 := by kernel_rfl
structure C5 (T : KS) : Prop where
  t : T5 T
  n : ListC T 23 2
  q : ListC T 55 6
  a : ListC T 54 8
  j : ListC T 56 9
theorem C5.of {T : KS} (h : T5 T) : C5 T := ⟨h, numbers_l (keepNumber_c.list h.n), seals_l (keepSeal_c.list h.q), adds_l (keepAdd_c.list h.a), joins_l (keepJoin_c.list h.j)⟩
set_option maxHeartbeats 1000000 in
theorem node_e {T : KS} (h : C5 T) : ElC (pkNd T h.t) 296 := by
  intro B w b n H done a x hb hn hBH hB hO hS hap
  obtain ⟨W0, hW0⟩ : ∃ W0, W0 = w.alloc (.cells #[.int .i64 a.pub, .int .i64 a.mem, .int .i64 a.ep, x] 256) := ⟨_, rfl⟩
  have hb0 : Below w.heap.size w W0 := by rw [hW0]; exact bwA _ _
  have K := hide (h.n B W0 b n H done ⟨2, x, a.un.length⟩ rfl (hb.bw hb0) (by simp [pkNd] at hn; omega) hBH (Nat.le_trans hB hb0.size) (((pkNd T h.t).own H w a x hO hS _ List.mem_cons_self).bw hb0) (pw_one hap))
  have HT : Hid (Tf T.ts B w W0) := Tf.ofBelow hb0 hB
  have HW := hide hW0
  clear hb hn hBH hB hO hS hap hW0 hb0
  show Calls Tryz.prog 296 #[.pointer (some ⟨b, 0, none⟩), .agg #[.int .i64 a.pub, .int .i64 a.mem, .int .i64 a.ep, x]] w fun e w' => e = .returned (.tuple #[]) ∧ BK T B w' b (n + 1) H (done ++ [⟨2, x, a.un.length⟩]) ∧ Tf T.ts B w w'
  go_enter Tryz.func296, Tryz.ntmps296
  go_wp2_with fail
  rw [← unhide HW]
  refine (unhide K).mono ?_
  rintro e w1 ⟨rfl, h1, h3⟩
  have HZ := hide (And.intro h1 ((unhide HT).trans h3))
  clear h1 h3
  go_wp2
  go_end0
  exact ⟨rfl, unhide HZ⟩
set_option maxRecDepth 100000 in
set_option maxHeartbeats 4000000 in
theorem nodes_r {T : KS} (h5 : T5 T) (hi0 : T.D 19 = some ⟨256, 254, 4⟩) (hE : ElC (pkNd T h5) 296) (hC : ListC T 297 19) : RwC (pkNd T h5) 192 19 := by
  intro B w b n H done v l xs hb hn hBH hB ho hs hl hap
  have HA := hide (fun wr i (h : RwS (pkNd T h5) B b n H done l xs w i wr) (hi : i < l.length) => RwS.at hE hi0 h hi hn hBH hB ho hs hl hap)
  have HF := hide (fun wr (h : RwS (pkNd T h5) B b n H done l xs w l.length wr) => RwS.fin hC hi0 h hn hBH hB ho hs hl hap)
  have S0 : Hid (RwS (pkNd T h5) B b n H done l xs w 0 w) := RwS.start hb
  obtain ⟨a0, cap0, hv⟩ := own_slice ho.row
  subst hv
  have hNI : (l.length : Int) ≤ 1150000 := by omega
  clear hb hn hBH hB ho hs hl hap hE hC
  obtain ⟨N, hN⟩ : ∃ N, N = l.length := ⟨_, rfl⟩
  rw [← hN] at HA HF hNI ⊢
  clear hN
  go_enter Tryz.func192, Tryz.ntmps192
  go_wp2_with fail
  go_loopw [7] (fun iv wr => ∃ i : Nat, iv = .int .i64 (i : Int) ∧ i ≤ N ∧ Hid (RwS (pkNd T h5) B b n H done l xs w i wr)) (fun iv _ => (N - intOf iv).toNat)
  case atStart => exact ⟨0, rfl, by omega, S0⟩
  case round =>
    clear S0
    obtain ⟨i, rfl, hi, hst⟩ := hrel
    by_cases hin : i < N
    · obtain ⟨g, cap, CL, hv, hcl, hrg, K⟩ := unhide HA wr i (unhide hst) hin
      cases hv
      have q1 : (i : Int) < (N : Int) := by omega
      have q0 : (0 : Int) ≤ (i : Int) := by omega
      have HC : Hid (CL.length = 4) := hcl
      have HR : Hid (wr.rangeAt g (i * 4) CL) := hrg
      have HK := hide K
      clear hcl hrg K hst
      go_wp2_with (refine wpList_load_mid rfl 256 (.tmp 13) rfl g (i * 4) (by simp [Act.eval]) CL _ (unhide HR) Tryz.underlying256 rfl (by rw [unhide HC]; exact bginfoNode) ?_)
      refine (unhide HK).mono ?_
      rintro e w2 ⟨rfl, h1⟩
      have HX := hide h1
      clear h1 HK HR
      go_wp2_with fail
      go_roundw
      case rel => exact ⟨i + 1, by go_num, by omega, HX⟩
      case measure => simp only [intOf]; omega
    · obtain rfl : i = N := by omega
      have K := hide (unhide HF wr (unhide hst))
      clear HF HA hst
      go_wp2_with fail
      refine (unhide K).mono ?_
      rintro e w2 ⟨rfl, h1, h2⟩
      have HX := hide (And.intro h1 h2)
      clear h1 h2
      go_wp2
      go_end0
      exact ⟨rfl, unhide HX⟩
set_option maxHeartbeats 1000000 in
theorem tree_r {T : KS} (h : C5 T) : ∀ (B : Nat) (w : World) (b n H : Nat) (done : List Pc) (v : Value) (l : List Nd) (xs : List Value), BK T B w b n H done → n + ((pkNd T h.t).L 19 v l xs).length ≤ 1150000 → B ≤ H → B ≤ w.heap.size → OwL kNd H w v l xs → (∀ a ∈ l, (pkNd T h.t).S a) → l.length ≤ 1150000 → (done ++ (pkNd T h.t).L 19 v l xs).Pairwise ApP →
    Calls Tryz.prog 53 #[.pointer (some ⟨b, 0, none⟩), .agg #[v]] w fun e w' => e = .returned (.tuple #[]) ∧ BK T B w' b (n + ((pkNd T h.t).L 19 v l xs).length) H (done ++ (pkNd T h.t).L 19 v l xs) ∧ Tf T.ts B w w' := by
  intro B w b n H done v l xs hb hn hBH hB ho hs hl hap
  obtain ⟨W0, hW0⟩ : ∃ W0, W0 = w.alloc (.cells #[v] 32) := ⟨_, rfl⟩
  have hb0 : Below w.heap.size w W0 := by rw [hW0]; exact bwA _ _
  have K := hide (nodes_r h.t h.t.d (node_e h) (keepNode_c.list h.t.d) B W0 b n H done v l xs (hb.bw hb0) hn hBH (Nat.le_trans hB hb0.size) (ho.bw hb0) hs hl hap)
  have HT : Hid (Tf T.ts B w W0) := Tf.ofBelow hb0 hB
  have HW := hide hW0
  clear hb hn hBH hB ho hs hl hap hW0 hb0
  go_enter Tryz.func53, Tryz.ntmps53
  go_wp2_with fail
  rw [← unhide HW]
  refine (unhide K).mono ?_
  rintro e w1 ⟨rfl, h1, h3⟩
  have HZ := hide (And.intro h1 ((unhide HT).trans h3))
  clear h1 h3
  go_wp2
  go_end0
  exact ⟨rfl, unhide HZ⟩
def CmS (T : KS) (B b n H : Nat) (done : List Pc) (w : World) (ps : List Pc) (wr : World) : Prop := BK T B wr b (n + ps.length) H (done ++ ps) ∧ Tf T.ts B w wr
theorem CmS.next {T : KS} {f i : Nat} (hC : ListC T f i) {B b n H : Nat} {done ps : List Pc} {w wr : World} (h : CmS T B b n H done w ps wr) {p : Pc} {r : List Pc} (hp : p.i = i) (hn : n + (ps ++ (p :: r)).length ≤ 1150000) (hBH : B ≤ H) (hB : B ≤ w.heap.size) (ho : PcO T H w p) (hap : (done ++ (ps ++ (p :: r))).Pairwise ApP) :
    Calls Tryz.prog f #[.pointer (some ⟨b, 0, none⟩), p.v] wr fun e w' => e = .returned (.tuple #[]) ∧ CmS T B b n H done w (ps ++ [p]) w' := by
  obtain ⟨hb, htf⟩ := h
  simp only [List.length_append, List.length_cons] at hn
  refine (hC B wr b _ H _ p hp hb (by omega) hBH (Nat.le_trans hB htf.size) (ho.tf htf) (pw_one (pw_assoc hap))).mono ?_
  rintro e w' ⟨rfl, h1, h2⟩
  refine ⟨rfl, ?_, htf.trans h2⟩
  rw [List.length_append, ← List.append_assoc, List.length_singleton, ← Nat.add_assoc]
  exact h1
set_option maxRecDepth 100000 in
set_option maxHeartbeats 4000000 in
theorem commit_e {T : KS} (h : C5 T) (hco : 34 ∉ T.ts) : ElC (pkCm T h.t) 22 := by
  intro B w b n H done c x hb hn hBH hB hO hS hap
  obtain ⟨x, us⟩ := x
  obtain ⟨av, rv, qv, jv, nv⟩ := x
  obtain ⟨W0, hW0⟩ : ∃ W0, W0 = w.alloc (.cells #[.int .i64 c.gr, .int .i64 c.ep, .int .i64 c.dev, .int .i64 c.mem, .int .i64 c.ke, .bool c.ext, av, rv, qv, jv, .int .i64 c.own, .int .i64 c.ent, nv, .int .i64 c.face, .int .i64 c.card] 34) := ⟨_, rfl⟩
  have hb0 : Below w.heap.size w W0 := by rw [hW0]; exact bwA _ _
  have k0 : W0.heap[w.heap.size]? = some (.cells #[.int .i64 c.gr, .int .i64 c.ep, .int .i64 c.dev, .int .i64 c.mem, .int .i64 c.ke, .bool c.ext, av, rv, qv, jv, .int .i64 c.own, .int .i64 c.ent, nv, .int .i64 c.face, .int .i64 c.card] 34 (0, 0)) := by rw [hW0]; exact heap_alloc_new _ _
  have hT0 : Tf T.ts B w W0 := Tf.ofBelow hb0 hB
  have HC : Hid (∀ ps wr, CmS T B b n H done W0 ps wr → wr.cell? ⟨w.heap.size, 6, none⟩ = some av ∧ wr.cell? ⟨w.heap.size, 7, none⟩ = some rv ∧ wr.cell? ⟨w.heap.size, 8, none⟩ = some qv ∧ wr.cell? ⟨w.heap.size, 9, none⟩ = some jv) := fun ps wr hs => by
    have := hs.2.blk k0 hco
    exact ⟨cell_of_blk (o := 6) this rfl, cell_of_blk (o := 7) this rfl, cell_of_blk (o := 8) this rfl, cell_of_blk (o := 9) this rfl⟩
  have c12 : W0.cell? ⟨w.heap.size, 12, none⟩ = some nv := cell_of_blk (o := 12) k0 rfl
  have hO0 : OC H W0 c ⟨av, rv, qv, jv, nv⟩ us := hO.keep (fun k hk => hb0.block k (hO.lt k hk).2)
  have hB0 : B ≤ W0.heap.size := Nat.le_trans hB hb0.size
  have ow : ∀ p ∈ cmPt c ⟨av, rv, qv, jv, nv⟩, PcO T H W0 p := fun p hp => (pkCm T h.t).own H W0 c ⟨⟨av, rv, qv, jv, nv⟩, us⟩ hO0 hS p (List.mem_append_right _ hp)
  obtain ⟨P0, hP0⟩ : ∃ P, P = (pkNd T h.t).L 19 nv c.next us := ⟨_, rfl⟩
  have hn' : n + (P0 ++ cmPt c ⟨av, rv, qv, jv, nv⟩).length ≤ 1150000 := by rw [hP0]; exact hn
  have hap' : (done ++ (P0 ++ cmPt c ⟨av, rv, qv, jv, nv⟩)).Pairwise ApP := by rw [hP0]; exact hap
  have K1 : Hid (Calls Tryz.prog 53 #[.pointer (some ⟨b, 0, none⟩), .agg #[nv]] W0 fun e w' => e = .returned (.tuple #[]) ∧ CmS T B b n H done W0 P0 w') := by
    refine (tree_r h B W0 b n H done nv c.next us (hb.bw hb0) ?_ hBH hB0 hO0.next.owl hS.u hS.n ?_).mono ?_
    · rw [← hP0]; simp only [List.length_append] at hn'; omega
    · rw [← hP0]; exact pw_mid hap'
    · rintro e w' ⟨rfl, h1, h2⟩
      rw [hP0]
      exact ⟨rfl, h1, h2⟩
  have K2 : Hid (∀ wr, CmS T B b n H done W0 P0 wr → Calls Tryz.prog 54 #[.pointer (some ⟨b, 0, none⟩), av] wr fun e w' => e = .returned (.tuple #[]) ∧ CmS T B b n H done W0 (P0 ++ [Pc.mk 8 av c.adds.length]) w') := fun wr hs => hs.next h.a (p := Pc.mk 8 av c.adds.length) rfl hn' hBH hB0 (ow _ (by simp [cmPt])) hap'
  have hn2 : n + ((P0 ++ [Pc.mk 8 av c.adds.length]) ++ [Pc.mk 2 rv c.rem.length, Pc.mk 6 qv c.seals.length, Pc.mk 9 jv c.joins.length]).length ≤ 1150000 := by rw [List.append_assoc]; exact hn'
  have hap2 : (done ++ ((P0 ++ [Pc.mk 8 av c.adds.length]) ++ [Pc.mk 2 rv c.rem.length, Pc.mk 6 qv c.seals.length, Pc.mk 9 jv c.joins.length])).Pairwise ApP := by rw [List.append_assoc P0]; exact hap'
  have K3 : Hid (∀ wr, CmS T B b n H done W0 (P0 ++ [Pc.mk 8 av c.adds.length]) wr → Calls Tryz.prog 23 #[.pointer (some ⟨b, 0, none⟩), rv] wr fun e w' => e = .returned (.tuple #[]) ∧ CmS T B b n H done W0 ((P0 ++ [Pc.mk 8 av c.adds.length]) ++ [Pc.mk 2 rv c.rem.length]) w') := fun wr hs => hs.next h.n (p := Pc.mk 2 rv c.rem.length) rfl hn2 hBH hB0 (ow _ (by simp [cmPt])) hap2
  have hn3 : n + (((P0 ++ [Pc.mk 8 av c.adds.length]) ++ [Pc.mk 2 rv c.rem.length]) ++ [Pc.mk 6 qv c.seals.length, Pc.mk 9 jv c.joins.length]).length ≤ 1150000 := by rw [List.append_assoc (P0 ++ _)]; exact hn2
  have hap3 : (done ++ (((P0 ++ [Pc.mk 8 av c.adds.length]) ++ [Pc.mk 2 rv c.rem.length]) ++ [Pc.mk 6 qv c.seals.length, Pc.mk 9 jv c.joins.length])).Pairwise ApP := by rw [List.append_assoc (P0 ++ _)]; exact hap2
  have K4 : Hid (∀ wr, CmS T B b n H done W0 ((P0 ++ [Pc.mk 8 av c.adds.length]) ++ [Pc.mk 2 rv c.rem.length]) wr → Calls Tryz.prog 55 #[.pointer (some ⟨b, 0, none⟩), qv] wr fun e w' => e = .returned (.tuple #[]) ∧ CmS T B b n H done W0 (((P0 ++ [Pc.mk 8 av c.adds.length]) ++ [Pc.mk 2 rv c.rem.length]) ++ [Pc.mk 6 qv c.seals.length]) w') := fun wr hs => hs.next h.q (p := Pc.mk 6 qv c.seals.length) rfl hn3 hBH hB0 (ow _ (by simp [cmPt])) hap3
  have hn4 : n + ((((P0 ++ [Pc.mk 8 av c.adds.length]) ++ [Pc.mk 2 rv c.rem.length]) ++ [Pc.mk 6 qv c.seals.length]) ++ [Pc.mk 9 jv c.joins.length]).length ≤ 1150000 := by rw [List.append_assoc ((P0 ++ _) ++ _)]; exact hn3
  have hap4 : (done ++ ((((P0 ++ [Pc.mk 8 av c.adds.length]) ++ [Pc.mk 2 rv c.rem.length]) ++ [Pc.mk 6 qv c.seals.length]) ++ [Pc.mk 9 jv c.joins.length])).Pairwise ApP := by rw [List.append_assoc ((P0 ++ _) ++ _)]; exact hap3
  have K5 : Hid (∀ wr, CmS T B b n H done W0 (((P0 ++ [Pc.mk 8 av c.adds.length]) ++ [Pc.mk 2 rv c.rem.length]) ++ [Pc.mk 6 qv c.seals.length]) wr → Calls Tryz.prog 56 #[.pointer (some ⟨b, 0, none⟩), jv] wr fun e w' => e = .returned (.tuple #[]) ∧ CmS T B b n H done W0 ((((P0 ++ [Pc.mk 8 av c.adds.length]) ++ [Pc.mk 2 rv c.rem.length]) ++ [Pc.mk 6 qv c.seals.length]) ++ [Pc.mk 9 jv c.joins.length]) w') := fun wr hs => hs.next h.j (p := Pc.mk 9 jv c.joins.length) rfl hn4 hBH hB0 (ow _ (by simp [cmPt])) hap4
  have HF : Hid (∀ wr, CmS T B b n H done W0 ((((P0 ++ [Pc.mk 8 av c.adds.length]) ++ [Pc.mk 2 rv c.rem.length]) ++ [Pc.mk 6 qv c.seals.length]) ++ [Pc.mk 9 jv c.joins.length]) wr → BK T B wr b (n + ((pkCm T h.t).P c (⟨av, rv, qv, jv, nv⟩, us)).length) H (done ++ (pkCm T h.t).P c (⟨av, rv, qv, jv, nv⟩, us)) ∧ Tf T.ts B w wr) := fun wr hs => by
    obtain ⟨h1, h2⟩ := hs
    have e : (((P0 ++ [Pc.mk 8 av c.adds.length]) ++ [Pc.mk 2 rv c.rem.length]) ++ [Pc.mk 6 qv c.seals.length]) ++ [Pc.mk 9 jv c.joins.length] = (pkCm T h.t).P c (⟨av, rv, qv, jv, nv⟩, us) := by rw [hP0]; simp [pkCm, cmPt]
    rw [e] at h1
    exact ⟨h1, hT0.trans h2⟩
  have HW := hide hW0
  clear hb hn hBH hB hO hS hap hW0 hb0 k0 hT0 hO0 hB0 ow hP0 hn' hap' hn2 hap2 hn3 hap3 hn4 hap4
  generalize (pkCm T h.t).P c (⟨av, rv, qv, jv, nv⟩, us) = PP at *
  show Calls Tryz.prog 22 #[.pointer (some ⟨b, 0, none⟩), .agg #[.int .i64 c.gr, .int .i64 c.ep, .int .i64 c.dev, .int .i64 c.mem, .int .i64 c.ke, .bool c.ext, av, rv, qv, jv, .int .i64 c.own, .int .i64 c.ent, nv, .int .i64 c.face, .int .i64 c.card]] w fun e w' => e = .returned (.tuple #[]) ∧ BK T B w' b (n + PP.length) H (done ++ PP) ∧ Tf T.ts B w w'
  go_enter Tryz.func22, Tryz.ntmps22
  go_upto_region 1 with fail
  rw [← unhide HW]
  clear HW
  go_wp2_with fail
  refine (unhide K1).mono ?_
  rintro e w1 ⟨rfl, s1⟩
  have d1 := (unhide HC _ _ s1).1
  have HS1 := hide s1
  clear s1 c12 K1
  go_wp2_with fail
  refine (unhide K2 _ (unhide HS1)).mono ?_
  rintro e w2 ⟨rfl, s2⟩
  have d2 := (unhide HC _ _ s2).2.1
  have HS2 := hide s2
  clear s2 d1 K2 HS1
  go_wp2_with fail
  refine (unhide K3 _ (unhide HS2)).mono ?_
  rintro e w3 ⟨rfl, s3⟩
  have d3 := (unhide HC _ _ s3).2.2.1
  have HS3 := hide s3
  clear s3 d2 K3 HS2
  go_wp2_with fail
  refine (unhide K4 _ (unhide HS3)).mono ?_
  rintro e w4 ⟨rfl, s4⟩
  have d4 := (unhide HC _ _ s4).2.2.2
  have HS4 := hide s4
  clear s4 d3 K4 HS3
  go_wp2_with fail
  refine (unhide K5 _ (unhide HS4)).mono ?_
  rintro e w5 ⟨rfl, s5⟩
  have HZ := hide (unhide HF _ s5)
  clear s5
  go_wp2
  go_end0
  exact ⟨rfl, unhide HZ⟩
end Go.Proofs.YtnfhbmlmemifjaaGreatDoor

/- What a Book is told: commits, a log, logs. mkBgW.py writes it. -/
namespace Go.Proofs.YtnfhbmlmemifjaaGreatDoor
open Go.RowKit Go.Maps
theorem bginfoheldCommit : (Tryz.prog.info? 264).map (fun i => (i.zero, i.size, i.bytes)) = some (some (.agg #[.slice none 0 0, .int .i64 0]), 2, 32) := by kernel_rfl
set_option maxRecDepth 100000 in
set_option maxHeartbeats 4000000 in
theorem keepCommit_c : KeepC 295 21 kgCommit.k := by
  intro B b n F es X p m cap w hb h hBb hB hN hn
  obtain ⟨i0, hi, hz0, hz1, hz2⟩ := info_parts bginfoheldCommit
  have c0 : w.cell? ⟨b, 0, none⟩ = some (.int .i64 (n : Int)) := cell_of_blk hb (bookF_zero _ _)
  have c2 := book_cell hb (k := 21) (by decide) (by decide)
  have hbw := lt_of_blk hb
  have hone : ∀ u ∈ [Value.slice p m cap, .int .i64 (n : Int)], u.oneCell' = true := by
    intro u hu
    simp only [List.mem_cons, List.not_mem_nil, or_false] at hu
    rcases hu with rfl | rfl <;> rfl
  have h0 : Fr [] w (w.drew.alloc (.cells #[.slice p m cap, .int .i64 (n : Int)] 264)) := ((Fr.refl [] w).drew).alloc _
  have HM : Hid (es.length + 1 ≤ maxLen ∧ (es.length + 1) * 32 ≤ 140737488355328 ∧ (∀ u ∈ [Value.slice p m cap, .int .i64 (n : Int)], u.oneCell' = true) ∧ w.drew.ownsRow B 264 2 (F 21) es.length (helE es)) := ⟨by unfold maxLen; omega, by omega, hone, h.own.drew⟩
  have HT : Hid (∀ (lv' : Value) (w1 : World), w1.ownsRow B 264 2 lv' (es.length + 1) (helE es ++ [.slice p m cap, .int .i64 (n : Int)]) → (w.drew.alloc (.cells #[.slice p m cap, .int .i64 (n : Int)] 264)).grownBy w1 (F 21).ownBlock → (lv'.ownBlock = (F 21).ownBlock ∨ lv'.ownBlock = some (w.drew.alloc (.cells #[.slice p m cap, .int .i64 (n : Int)] 264)).heap.size) → _) := fun lv' w1 ho hg hat => h.kept (k := 21) hb (by decide) hBb hB (by decide) (by decide) h0 ho hg hat
  have c2a : (w.alloc (.cells #[.slice p m cap, .int .i64 (n : Int)] 264)).cell? ⟨b, 21, none⟩ = some (F 21) := by
    rw [World.cell?_of_block (w := w) (Below.heap_alloc _ _ _ hbw)]; exact c2
  have hnI : (n : Int) ≤ 1150000 := by omega
  have HBw := hide hB
  clear hone h0 h hbw hb hN hn hBb hB
  show Calls Tryz.prog 295 #[.pointer (some ⟨b, 0, none⟩), .slice p m cap] w fun e w' => e = .returned (.tuple #[]) ∧ ∃ lv', w'.heap[b]? = some (.cells (bookF ((n + 1 : Nat) : Int) (updF F 21 lv')) 81 (0, 0)) ∧ w'.ownsRow B 264 2 lv' (es ++ [Ent.mk (.slice p m cap) n m]).length (helE (es ++ [Ent.mk (.slice p m cap) n m])) ∧ Tf [81, 264] B w w'
  generalize hlv : F 21 = lv at *
  clear hlv
  go_enter Tryz.func295, Tryz.ntmps295
  go_wp2_with fail
  go_region_law (refine step_app rfl (.tmp 8) (.tmp 15) 66 rfl B 264 i0 (.agg #[.slice none 0 0, .int .i64 0]) 2 32 Tryz.underlying66 hi hz0 hz1 hz2 rfl (by decide) lv es.length (helE es) (by simp [Act.eval]) ((unhide HM).2.2.2.alloc _) ⟨w.heap.size, 0, none⟩ 1 1 [.slice p m cap, .int .i64 (n : Int)] (by simp [Act.eval]) rfl (cells_newB2 w.drew _ _ _) (unhide HM).2.2.1 (unhide HM).1 (unhide HM).2.1 (by have := unhide HBw; simp; omega) ?_; intro v' w1 hown' hgrow hat; obtain ⟨k1, k2, k3, k4, k5, k6, k7⟩ := unhide HT v' w1 hown' hgrow hat; obtain ⟨g, cp, rfl⟩ := row_formB hown')
  all_goals
    have HZ := hide (And.intro k1 (And.intro (k2 m) k3))
    clear k1 k2 k3
    go_wp2_with fail
  all_goals
    go_end0
    exact ⟨rfl, _, (unhide HZ).1, (unhide HZ).2.1, (unhide HZ).2.2⟩
theorem bginfoheldLog : (Tryz.prog.info? 145).map (fun i => (i.zero, i.size, i.bytes)) = some (some (.agg #[.slice none 0 0, .int .i64 0]), 2, 32) := by kernel_rfl
set_option maxRecDepth 100000 in
set_option maxHeartbeats 4000000 in
theorem keepLog_c : KeepC 52 28 kgLog.k := by
  intro B b n F es X p m cap w hb h hBb hB hN hn
  obtain ⟨i0, hi, hz0, hz1, hz2⟩ := info_parts bginfoheldLog
  have c0 : w.cell? ⟨b, 0, none⟩ = some (.int .i64 (n : Int)) := cell_of_blk hb (bookF_zero _ _)
  have c2 := book_cell hb (k := 28) (by decide) (by decide)
  have hbw := lt_of_blk hb
  have hone : ∀ u ∈ [Value.slice p m cap, .int .i64 (n : Int)], u.oneCell' = true := by
    intro u hu
    simp only [List.mem_cons, List.not_mem_nil, or_false] at hu
    rcases hu with rfl | rfl <;> rfl
  have h0 : Fr [] w (w.drew.alloc (.cells #[.slice p m cap, .int .i64 (n : Int)] 145)) := ((Fr.refl [] w).drew).alloc _
  have HM : Hid (es.length + 1 ≤ maxLen ∧ (es.length + 1) * 32 ≤ 140737488355328 ∧ (∀ u ∈ [Value.slice p m cap, .int .i64 (n : Int)], u.oneCell' = true) ∧ w.drew.ownsRow B 145 2 (F 28) es.length (helE es)) := ⟨by unfold maxLen; omega, by omega, hone, h.own.drew⟩
  have HT : Hid (∀ (lv' : Value) (w1 : World), w1.ownsRow B 145 2 lv' (es.length + 1) (helE es ++ [.slice p m cap, .int .i64 (n : Int)]) → (w.drew.alloc (.cells #[.slice p m cap, .int .i64 (n : Int)] 145)).grownBy w1 (F 28).ownBlock → (lv'.ownBlock = (F 28).ownBlock ∨ lv'.ownBlock = some (w.drew.alloc (.cells #[.slice p m cap, .int .i64 (n : Int)] 145)).heap.size) → _) := fun lv' w1 ho hg hat => h.kept (k := 28) hb (by decide) hBb hB (by decide) (by decide) h0 ho hg hat
  have c2a : (w.alloc (.cells #[.slice p m cap, .int .i64 (n : Int)] 145)).cell? ⟨b, 28, none⟩ = some (F 28) := by
    rw [World.cell?_of_block (w := w) (Below.heap_alloc _ _ _ hbw)]; exact c2
  have hnI : (n : Int) ≤ 1150000 := by omega
  have HBw := hide hB
  clear hone h0 h hbw hb hN hn hBb hB
  show Calls Tryz.prog 52 #[.pointer (some ⟨b, 0, none⟩), .slice p m cap] w fun e w' => e = .returned (.tuple #[]) ∧ ∃ lv', w'.heap[b]? = some (.cells (bookF ((n + 1 : Nat) : Int) (updF F 28 lv')) 81 (0, 0)) ∧ w'.ownsRow B 145 2 lv' (es ++ [Ent.mk (.slice p m cap) n m]).length (helE (es ++ [Ent.mk (.slice p m cap) n m])) ∧ Tf [81, 145] B w w'
  generalize hlv : F 28 = lv at *
  clear hlv
  go_enter Tryz.func52, Tryz.ntmps52
  go_wp2_with fail
  go_region_law (refine step_app rfl (.tmp 8) (.tmp 15) 73 rfl B 145 i0 (.agg #[.slice none 0 0, .int .i64 0]) 2 32 Tryz.underlying73 hi hz0 hz1 hz2 rfl (by decide) lv es.length (helE es) (by simp [Act.eval]) ((unhide HM).2.2.2.alloc _) ⟨w.heap.size, 0, none⟩ 1 1 [.slice p m cap, .int .i64 (n : Int)] (by simp [Act.eval]) rfl (cells_newB2 w.drew _ _ _) (unhide HM).2.2.1 (unhide HM).1 (unhide HM).2.1 (by have := unhide HBw; simp; omega) ?_; intro v' w1 hown' hgrow hat; obtain ⟨k1, k2, k3, k4, k5, k6, k7⟩ := unhide HT v' w1 hown' hgrow hat; obtain ⟨g, cp, rfl⟩ := row_formB hown')
  all_goals
    have HZ := hide (And.intro k1 (And.intro (k2 m) k3))
    clear k1 k2 k3
    go_wp2_with fail
  all_goals
    go_end0
    exact ⟨rfl, _, (unhide HZ).1, (unhide HZ).2.1, (unhide HZ).2.2⟩
set_option maxRecDepth 100000 in
set_option maxHeartbeats 4000000 in
theorem commits_r {T : KS} (h5 : T5 T) (hi0 : T.D 21 = some ⟨34, 264, 15⟩) (hE : ElC (pkCm T h5) 22) (hC : ListC T 295 21) : RwC (pkCm T h5) 191 21 := by
  intro B w b n H done v l xs hb hn hBH hB ho hs hl hap
  have HA := hide (fun wr i (h : RwS (pkCm T h5) B b n H done l xs w i wr) (hi : i < l.length) => RwS.at hE hi0 h hi hn hBH hB ho hs hl hap)
  have HF := hide (fun wr (h : RwS (pkCm T h5) B b n H done l xs w l.length wr) => RwS.fin hC hi0 h hn hBH hB ho hs hl hap)
  have S0 : Hid (RwS (pkCm T h5) B b n H done l xs w 0 w) := RwS.start hb
  obtain ⟨a0, cap0, hv⟩ := own_slice ho.row
  subst hv
  have hNI : (l.length : Int) ≤ 1150000 := by omega
  clear hb hn hBH hB ho hs hl hap hE hC
  obtain ⟨N, hN⟩ : ∃ N, N = l.length := ⟨_, rfl⟩
  rw [← hN] at HA HF hNI ⊢
  clear hN
  go_enter Tryz.func191, Tryz.ntmps191
  go_wp2_with fail
  go_loopw [7] (fun iv wr => ∃ i : Nat, iv = .int .i64 (i : Int) ∧ i ≤ N ∧ Hid (RwS (pkCm T h5) B b n H done l xs w i wr)) (fun iv _ => (N - intOf iv).toNat)
  case atStart => exact ⟨0, rfl, by omega, S0⟩
  case round =>
    clear S0
    obtain ⟨i, rfl, hi, hst⟩ := hrel
    by_cases hin : i < N
    · obtain ⟨g, cap, CL, hv, hcl, hrg, K⟩ := unhide HA wr i (unhide hst) hin
      cases hv
      have q1 : (i : Int) < (N : Int) := by omega
      have q0 : (0 : Int) ≤ (i : Int) := by omega
      have HC : Hid (CL.length = 15) := hcl
      have HR : Hid (wr.rangeAt g (i * 15) CL) := hrg
      have HK := hide K
      clear hcl hrg K hst
      go_wp2_with (refine wpList_load_mid rfl 34 (.tmp 13) rfl g (i * 15) (by simp [Act.eval]) CL _ (unhide HR) Tryz.underlying34 rfl (by rw [unhide HC]; exact bgsizeCommit) ?_)
      refine (unhide HK).mono ?_
      rintro e w2 ⟨rfl, h1⟩
      have HX := hide h1
      clear h1 HK HR
      go_wp2_with fail
      go_roundw
      case rel => exact ⟨i + 1, by go_num, by omega, HX⟩
      case measure => simp only [intOf]; omega
    · obtain rfl : i = N := by omega
      have K := hide (unhide HF wr (unhide hst))
      clear HF HA hst
      go_wp2_with fail
      refine (unhide K).mono ?_
      rintro e w2 ⟨rfl, h1, h2⟩
      have HX := hide (And.intro h1 h2)
      clear h1 h2
      go_wp2
      go_end0
      exact ⟨rfl, unhide HX⟩
set_option maxHeartbeats 1000000 in
theorem log_e {T : KS} (h : C5 T) (hc : T.D 21 = some kgCommit.k) : ElC (pkLg T h.t hc) 51 := by
  intro B w b n H done a x hb hn hBH hB hO hS hap
  have hco : 34 ∉ T.ts := T.eout hc
  obtain ⟨W0, hW0⟩ : ∃ W0, W0 = w.alloc (.cells #[.int .i64 a.1, x.1] 95) := ⟨_, rfl⟩
  have hb0 : Below w.heap.size w W0 := by rw [hW0]; exact bwA _ _
  have hO2 : OwL kCm H w x.1 a.2 x.2 := hO
  have K := hide (commits_r h.t hc (commit_e h hco) (keepCommit_c.list hc) B W0 b n H done x.1 a.2 x.2 (hb.bw hb0) hn hBH (Nat.le_trans hB hb0.size) (hO2.bw hb0) hS.2 hS.1 hap)
  have HT : Hid (Tf T.ts B w W0) := Tf.ofBelow hb0 hB
  have HW := hide hW0
  clear hb hn hBH hB hO hO2 hS hap hW0 hb0
  show Calls Tryz.prog 51 #[.pointer (some ⟨b, 0, none⟩), .agg #[.int .i64 a.1, x.1]] w fun e w' => e = .returned (.tuple #[]) ∧ BK T B w' b (n + ((pkCm T h.t).L 21 x.1 a.2 x.2).length) H (done ++ (pkCm T h.t).L 21 x.1 a.2 x.2) ∧ Tf T.ts B w w'
  obtain ⟨a1, l⟩ := a
  obtain ⟨v, xs⟩ := x
  dsimp only at *
  go_enter Tryz.func51, Tryz.ntmps51
  go_wp2_with fail
  rw [← unhide HW]
  refine (unhide K).mono ?_
  rintro e w1 ⟨rfl, h1, h3⟩
  have HZ := hide (And.intro h1 ((unhide HT).trans h3))
  clear h1 h3
  go_wp2
  go_end0
  exact ⟨rfl, unhide HZ⟩
set_option maxRecDepth 100000 in
set_option maxHeartbeats 4000000 in
theorem logs_r {T : KS} (h5 : T5 T) (hcm : T.D 21 = some kgCommit.k) (hi0 : T.D 28 = some ⟨95, 145, 2⟩) (hE : ElC (pkLg T h5 hcm) 51) (hC : ListC T 52 28) : RwC (pkLg T h5 hcm) 21 28 := by
  intro B w b n H done v l xs hb hn hBH hB ho hs hl hap
  have HA := hide (fun wr i (h : RwS (pkLg T h5 hcm) B b n H done l xs w i wr) (hi : i < l.length) => RwS.at hE hi0 h hi hn hBH hB ho hs hl hap)
  have HF := hide (fun wr (h : RwS (pkLg T h5 hcm) B b n H done l xs w l.length wr) => RwS.fin hC hi0 h hn hBH hB ho hs hl hap)
  have S0 : Hid (RwS (pkLg T h5 hcm) B b n H done l xs w 0 w) := RwS.start hb
  obtain ⟨a0, cap0, hv⟩ := own_slice ho.row
  subst hv
  have hNI : (l.length : Int) ≤ 1150000 := by omega
  clear hb hn hBH hB ho hs hl hap hE hC
  obtain ⟨N, hN⟩ : ∃ N, N = l.length := ⟨_, rfl⟩
  rw [← hN] at HA HF hNI ⊢
  clear hN
  go_enter Tryz.func21, Tryz.ntmps21
  go_wp2_with fail
  go_loopw [7] (fun iv wr => ∃ i : Nat, iv = .int .i64 (i : Int) ∧ i ≤ N ∧ Hid (RwS (pkLg T h5 hcm) B b n H done l xs w i wr)) (fun iv _ => (N - intOf iv).toNat)
  case atStart => exact ⟨0, rfl, by omega, S0⟩
  case round =>
    clear S0
    obtain ⟨i, rfl, hi, hst⟩ := hrel
    by_cases hin : i < N
    · obtain ⟨g, cap, CL, hv, hcl, hrg, K⟩ := unhide HA wr i (unhide hst) hin
      cases hv
      have q1 : (i : Int) < (N : Int) := by omega
      have q0 : (0 : Int) ≤ (i : Int) := by omega
      have HC : Hid (CL.length = 2) := hcl
      have HR : Hid (wr.rangeAt g (i * 2) CL) := hrg
      have HK := hide K
      clear hcl hrg K hst
      go_wp2_with (refine wpList_load_mid rfl 95 (.tmp 13) rfl g (i * 2) (by simp [Act.eval]) CL _ (unhide HR) Tryz.underlying95 rfl (by rw [unhide HC]; exact bgsizeLog) ?_)
      refine (unhide HK).mono ?_
      rintro e w2 ⟨rfl, h1⟩
      have HX := hide h1
      clear h1 HK HR
      go_wp2_with fail
      go_roundw
      case rel => exact ⟨i + 1, by go_num, by omega, HX⟩
      case measure => simp only [intOf]; omega
    · obtain rfl : i = N := by omega
      have K := hide (unhide HF wr (unhide hst))
      clear HF HA hst
      go_wp2_with fail
      refine (unhide K).mono ?_
      rintro e w2 ⟨rfl, h1, h2⟩
      have HX := hide (And.intro h1 h2)
      clear h1 h2
      go_wp2
      go_end0
      exact ⟨rfl, unhide HX⟩
end Go.Proofs.YtnfhbmlmemifjaaGreatDoor
