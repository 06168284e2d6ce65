/- Texts joined: RoI RoCa. -/
import Derived.Test.YtgmlkofogeoocaaGreatDoorZ22
/- Home, GroupHome, User: the program's and the document's. mkRoI.py writes it. -/
namespace Go.Proofs.YtgmlkofogeoocaaGreatDoor
open Go.RowKit Go.Maps
def hmV (n : Int) : Int := if usrOk n = true then n.tmod 4 else 0
def hmE (n : Int) : Int := if usrOk n = true then 0 else 1
def ghV (n : Int) : Int := if n < 0 then hmV (-1 - n) else if 64 ≤ n then 0 else n.tmod 4
def ghE (n : Int) : Int := if n < 0 then hmE (-1 - n) else if 64 ≤ n then 1 else 0
set_option maxRecDepth 100000 in
theorem roHome_any (n : Int) (w : World) : Calls Tryz.prog 5 #[.int .i64 n] w fun e w' => e = .returned (.tuple #[.int .i64 (hmV n), .int .i64 (hmE n)]) ∧ w' = w := by
  unfold hmV hmE
  have K := roIsUser_any n w
  cases hq : usrOk n
  · rw [hq] at K
    rw [if_neg (by simp), if_neg (by simp)]
    clear hq
    go_enter Tryz.func5, Tryz.ntmps5
    go_wp2_with fail
    refine K.mono ?_
    rintro e w' ⟨rfl, rfl⟩
    go_wp2
    go_ret2
    exact ⟨rfl, rfl⟩
  · rw [hq] at K
    rw [if_pos rfl, if_pos rfl]
    unfold usrOk at hq
    have hq' : 0 ≤ n ∧ n < 64 := by simpa using hq
    obtain ⟨q, hqe⟩ : ∃ q, q = n.tmod 4 := ⟨_, rfl⟩
    have hq0 : q = n % 4 := by rw [hqe]; exact Int.tmod_eq_emod_of_nonneg hq'.1
    have hq1 : IntKind.i64.wrap (n.tmod 4) = q := by rw [IntKind.wrap_i64, ← hqe]; omega
    have hq3 : n.tmod 4 = q := hqe.symm
    rw [← hqe]
    clear hq0 hqe hq
    go_enter Tryz.func5, Tryz.ntmps5
    go_wp2_with fail
    refine K.mono ?_
    rintro e w' ⟨rfl, rfl⟩
    go_wp2
    go_ret2
    exact ⟨rfl, rfl⟩
set_option maxRecDepth 100000 in
theorem roGroupHome_any (n : Int) (w : World) (hb : -9223372036854775808 ≤ n) : Calls Tryz.prog 6 #[.int .i64 n] w fun e w' => e = .returned (.tuple #[.int .i64 (ghV n), .int .i64 (ghE n)]) ∧ w' = w := by
  unfold ghV ghE
  by_cases h0 : n < 0
  · rw [if_pos h0, if_pos h0]
    have K := roHome_any (-1 - n) w
    obtain ⟨z, hz⟩ : ∃ z, z = -1 - n := ⟨_, rfl⟩
    have hw : IntKind.i64.wrap (-1 - n) = z := by rw [IntKind.wrap_i64, ← hz]; omega
    have hz2 : -1 - n = z := hz.symm
    rw [← hz] at K ⊢
    obtain ⟨a, ha⟩ : ∃ a, a = hmV z := ⟨_, rfl⟩
    obtain ⟨b, hb'⟩ : ∃ b, b = hmE z := ⟨_, rfl⟩
    rw [← ha, ← hb'] at K ⊢
    have KH := hide K
    clear K hz ha hb'
    go_enter Tryz.func6, Tryz.ntmps6
    go_wp2_with fail
    refine (unhide KH).mono ?_
    rintro e w' ⟨rfl, rfl⟩
    go_wp2
    go_ret2
    exact ⟨rfl, rfl⟩
  · rw [if_neg h0, if_neg h0]
    have KC := roIsCon_any n w
    by_cases h1 : 64 ≤ n
    · rw [if_pos h1, if_pos h1]
      have hc : usrOk n = false := decide_eq_false (by omega)
      rw [hc] at KC
      go_enter Tryz.func6, Tryz.ntmps6
      go_wp2_with fail
      refine KC.mono ?_
      rintro e w' ⟨rfl, rfl⟩
      go_wp2
      go_ret2
      exact ⟨rfl, rfl⟩
    · rw [if_neg h1, if_neg h1]
      have hc : usrOk n = true := decide_eq_true (by omega)
      rw [hc] at KC
      obtain ⟨q, hqe⟩ : ∃ q, q = n.tmod 4 := ⟨_, rfl⟩
      have hq0 : q = n % 4 := by rw [hqe]; exact Int.tmod_eq_emod_of_nonneg (by omega)
      have hq1 : IntKind.i64.wrap (n.tmod 4) = q := by rw [IntKind.wrap_i64, ← hqe]; omega
      have hq3 : n.tmod 4 = q := hqe.symm
      rw [← hqe]
      clear hq0 hqe
      go_enter Tryz.func6, Tryz.ntmps6
      go_wp2_with fail
      refine KC.mono ?_
      rintro e w' ⟨rfl, rfl⟩
      go_wp2
      go_ret2
      exact ⟨rfl, rfl⟩
end Go.Proofs.YtgmlkofogeoocaaGreatDoor

/- Cards in memory; the library's slices.Clone at cards. mkRoC.py writes it. -/
namespace Go.Proofs.YtgmlkofogeoocaaGreatDoor.Cd
open Go.RowKit Go.Maps
structure Cd where
  us : Int
  ep : Int
  pb : Int
def cdC (c : Cd) : List Value := [.int .i64 c.us, .int .i64 c.ep, .int .i64 c.pb]
def kCd : EK Cd Unit where
  t := 44
  c := 3
  C := fun c _ => cdC c
  Z := fun _ => []
  R := fun _ _ _ => True
  O := fun _ _ _ _ => True
  pos := by decide
  Cl := fun _ _ => rfl
  one := fun _ c _ _ v hv => by
    simp only [cdC, List.mem_cons, List.not_mem_nil, or_false] at hv
    rcases hv with rfl | rfl | rfl <;> rfl
  bw := fun _ _ _ _ _ _ => trivial
  keep := fun _ _ _ _ _ _ _ => trivial
  lt := fun _ _ _ _ _ k hk => by cases hk
  mono := fun _ _ _ _ _ _ _ => trivial
theorem owl_rd {B : Nat} {w : World} {v : Value} {l : List Cd} {xs : List Unit} (h : OwL kCd B w v l xs) : RdL kCd w v l xs := h.rd (fun _ _ _ _ _ _ => trivial)
theorem owl_of {B : Nat} {w : World} {v : Value} {l : List Cd} {xs : List Unit} (hx : xs.length = l.length) (h : w.ownsRow B 44 3 v l.length (cellK kCd l xs)) : OwL kCd B w v l xs :=
  ⟨hx, h, fun _ _ _ _ _ => trivial, fun _ _ _ _ k _ _ hk => (by cases hk), fun k _ _ _ _ hk => (by cases hk)⟩
theorem infoKCard : (Tryz.prog.info? 44).map (fun i => (i.zero, i.size, i.bytes)) = some (some (.agg #[.int .i64 0, .int .i64 0, .int .i64 0]), 3, 24) := by kernel_rfl
set_option maxRecDepth 100000 in
set_option maxHeartbeats 4000000 in
theorem cloneCard_any {w : World} {a : Option Addr} {n cap : Nat} {cs : List Value} (hl : cs.length = n * 3) (h1 : ∀ u ∈ cs, u.oneCell' = true) (hn : n ≤ 1073741824) (hc : n = 0 ∨ ∃ g o, a = some ⟨g, o, none⟩ ∧ ∀ j u, cs[j]? = some u → w.cell? ⟨g, o + j, none⟩ = some u) :
    Calls Tryz.prog 37 #[.slice a n cap] w fun e w' => ∃ v', e = .returned v' ∧ w'.ownsRow w.heap.size 44 3 v' n cs ∧ Below w.heap.size w w' := by
  obtain ⟨j0, hj, hy0, hy1, hyb⟩ := info_parts infoKCard
  have hnil := fun (W : World) => Lib.run_eql_slice_nil (P := Tryz.prog) W 60 44 a n cap 0 0 Tryz.underlying60
  cases a with
  | none =>
    have hn0 : n = 0 := by
      rcases hc with c | ⟨g, o, c, _⟩
      · exact c
      · cases c
    subst hn0
    have hcs : cs = [] := List.eq_nil_of_length_eq_zero (by omega)
    subst hcs
    clear hc
    simp only [Option.isNone_none] at hnil ⊢
    go_enter Tryz.func37, Tryz.ntmps37
    go_wp2_with fail
    go_ret
    exact ⟨_, rfl, World.ownsRow_nil _ _ _ _, Below.refl _ _⟩
  | some ad =>
    have hcell : ∀ (W : World), Below w.heap.size w W → ∀ j u, cs[j]? = some u → W.cell? (ad.add j) = some u := by
      intro W hW j u hj
      rcases hc with c | ⟨g, o, c, hc⟩
      · have : cs = [] := List.eq_nil_of_length_eq_zero (by omega)
        subst this; simp at hj
      · simp at c; subst c
        have := hc j u hj
        have e : (⟨g, o, none⟩ : Addr).add j = ⟨g, o + j, none⟩ := by unfold Addr.add; by_cases hz : j = 0 <;> simp [hz]
        rw [e, World.cell?_of_block (w := w) (hW.block _ (lt_of_cell this))]
        exact this
    have hrow := World.ownsRow_made (base := w.heap.size) (e := 44) (size := 3) w #[] 0 (Nat.le_refl _) (by unfold maxLen; omega) rfl
    have HH := hide (And.intro hcell (And.intro h1 (And.intro hn hl)))
    clear hc hcell h1 hl hn
    go_enter Tryz.func37, Tryz.ntmps37
    go_wp2_with (at_builtin; refine wpList_append_own_at _ rfl (.tmp 5) (.tmp 6) 60 rfl w.heap.size 44 j0 (.agg #[.int .i64 0, .int .i64 0, .int .i64 0]) 3 24 Tryz.underlying60 hj hy0 hy1 hyb rfl (by decide) _ 0 [] rfl hrow ad n cap cs rfl (unhide HH).2.2.2 ((unhide HH).1 _ (bwA _ _)) (unhide HH).2.1 ?c3 ?c4 ?c5 ?nx)
    case c3 => have := (unhide HH).2.2.1; unfold maxLen; omega
    case c4 => have := (unhide HH).2.2.1; omega
    case c5 => simp
    case nx =>
      intro v' w3 hown' hgrow _ hat
      have hb3 : Below w.heap.size w w3 := (bwA w _).grown hgrow (by simp) (fun k hk => by simp [Value.ownBlock] at hk; omega)
      have hown2 : w3.ownsRow w.heap.size 44 3 v' n cs := by simpa using hown'
      have HO := hide (And.intro hown2 hb3)
      clear hown' hgrow hat hown2 hb3
      go_wp2_with fail
      go_ret
      exact ⟨_, rfl, (unhide HO).1, (unhide HO).2⟩
theorem clone_cards {w : World} {v : Value} {l : List Cd} {xs : List Unit} (h : RdL kCd w v l xs) (hl : l.length ≤ 1073741824) :
    Calls Tryz.prog 37 #[v] w fun e w' => ∃ v', e = .returned v' ∧ OwL kCd w.heap.size w' v' l xs ∧ Below w.heap.size w w' := by
  obtain ⟨ad, cap, rfl, hsrc⟩ := h.form
  refine Calls.mono (cloneCard_any (w := w) (a := ad) (cap := cap) (cs := cellK kCd l xs) (cellK_len h.xl) (cellK_one h.xl h.el) hl (hsrc.imp (fun c => by rw [c]; rfl) (fun c => c))) ?_
  rintro e w' ⟨v', rfl, ho, hb⟩
  exact ⟨v', rfl, owl_of h.xl ho, hb⟩
end Go.Proofs.YtgmlkofogeoocaaGreatDoor.Cd
