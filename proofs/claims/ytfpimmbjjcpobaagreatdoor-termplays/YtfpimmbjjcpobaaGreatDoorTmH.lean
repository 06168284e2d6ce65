/- Contracts of SameTerms and of lives, the end of every law of layer 3. -/
import Derived.Test.YtfpimmbjjcpobaaGreatDoorTmG
namespace Go.Proofs.YtfpimmbjjcpobaaGreatDoor
open Go.RowKit Go.Maps

/-- Where two terms part. -/
theorem tm_ne {t u : Tm} (h : t ≠ u) : t.kd ≠ u.kd ∨ (t.kd = u.kd ∧ t.n ≠ u.n) ∨ (t.kd = u.kd ∧ t.n = u.n ∧ t.a ≠ u.a) ∨ (t.kd = u.kd ∧ t.n = u.n ∧ t.a = u.a ∧ t.b ≠ u.b) := by
  obtain ⟨k, n, a, b⟩ := t
  obtain ⟨k', n', a', b'⟩ := u
  simp only [ne_eq, Tm.mk.injEq, not_and] at h ⊢
  by_cases h1 : k = k'
  · by_cases h2 : n = n'
    · by_cases h3 : a = a'
      · exact Or.inr (Or.inr (Or.inr ⟨h1, h2, h3, h h1 h2 h3⟩))
      · exact Or.inr (Or.inr (Or.inl ⟨h1, h2, h3⟩))
    · exact Or.inr (Or.inl ⟨h1, h2⟩)
  · exact Or.inl h1

set_option maxHeartbeats 2000000 in
theorem same_any (va vb : Value) (la lb : List Tm) (w : World) (ha : Tms w va la) (hb : Tms w vb lb) :
    Calls Tryz.prog 9 #[va, vb] w fun e w' => e = .returned (.bool (decide (la = lb))) ∧ Below w.heap.size w w' := by
  obtain ⟨p, cap, rfl, hm1, hA⟩ := ha
  obtain ⟨p', cap', rfl, hm2, hB⟩ := hb
  by_cases hl : la.length = lb.length
  · rw [← hl]
    obtain ⟨n, hn⟩ : ∃ n, n = la.length := ⟨_, rfl⟩
    rw [← hn]
    have HA := hide (And.intro hn (hn.trans hl))
    have hnm : (n : Int) ≤ 140737488355328 := by omega
    have HB : ∀ wr, Below w.heap.size w wr → ∀ i, i < n → ∃ g o g' o' t u, p = some ⟨g, o, none⟩ ∧ p' = some ⟨g', o', none⟩ ∧ la[i]? = some t ∧ lb[i]? = some u ∧ TAt wr g (o + i * 4) t ∧ TAt wr g' (o' + i * 4) u := by
      intro wr hbel i hi
      obtain ⟨t, h1⟩ : ∃ t, la[i]? = some t := ⟨_, List.getElem?_eq_getElem (by omega)⟩
      obtain ⟨u, h2⟩ : ∃ u, lb[i]? = some u := ⟨_, List.getElem?_eq_getElem (by omega)⟩
      rcases hA with hA | ⟨g, o, hp, hA⟩
      · rw [hA] at h1; simp at h1
      rcases hB with hB | ⟨g', o', hp', hB⟩
      · rw [hB] at h2; simp at h2
      have c1 := hA i t h1
      have c2 := hB i u h2
      exact ⟨g, o, g', o', t, u, hp, hp', h1, h2, c1.keep (hbel.block _ c1.lt), c2.keep (hbel.block _ c2.lt)⟩
    clear hA hB hl hm1 hm2 hn
    go_enter Tryz.func9, Tryz.ntmps9
    go_wp2_with fail
    go_loopw [13] (fun iv wr => ∃ i : Nat, iv = .int .i64 i ∧ i ≤ n ∧ Hid (la.take i = lb.take i) ∧ Below w.heap.size w wr) (fun iv _ => (n - (intOf iv)).toNat)
    case atStart => exact ⟨0, rfl, by omega, by simp [Hid], Below.refl _ _⟩
    case round =>
      obtain ⟨i, rfl, hi, hp, hbel⟩ := hrel
      by_cases hin : i < n
      · obtain ⟨g, o, g', o', t, u, rfl, rfl, h1, h2, ⟨c0, c1, c2, c3⟩, ⟨d0, d1, d2, d3⟩⟩ := HB wr hbel i hin
        have H12 := hide (And.intro h1 h2)
        clear h1 h2 HB
        have hi1 : (i : Int) < (n : Int) := by omega
        by_cases hab : t = u
        · subst hab
          go_wp2_with fail
          go_quiet (fail)
          go_wp2_with fail
          go_roundw
          case rel =>
            refine ⟨i + 1, by go_num, by omega, ?_, below_drewN hbel _⟩
            unfold Hid
            rw [List.take_add_one, List.take_add_one, unhide hp, (unhide H12).1, (unhide H12).2]
          case measure => simp [intOf]; omega
        · have hd : decide (la = lb) = false := decide_eq_false (by
            rintro rfl
            have := (unhide H12).1.symm.trans (unhide H12).2
            exact hab (Option.some.inj this))
          have HD := hide hd
          have hne := tm_ne hab
          obtain ⟨k, m, a, b⟩ := t
          obtain ⟨k', m', a', b'⟩ := u
          simp only at c0 c1 c2 c3 d0 d1 d2 d3 hne
          clear hab hd
          rcases hne with h | ⟨rfl, h⟩ | ⟨rfl, rfl, h⟩ | ⟨rfl, rfl, rfl, h⟩
          all_goals
            have h' := beq_eq_false_iff_ne.2 h
            clear h
            go_wp2_with fail
            go_quiet (fail)
            go_wp2_with fail
            go_ret
            rw [unhide HD]
            exact ⟨rfl, below_drewN hbel _⟩
      · have hie : i = n := by omega
        subst hie
        go_wp2_with fail
        go_ret
        have hd : decide (la = lb) = true := decide_eq_true (by
          have := unhide hp
          rw [List.take_of_length_le (by have := (unhide HA).1; omega), List.take_of_length_le (by have := (unhide HA).2; omega)] at this
          exact this)
        rw [hd]
        exact ⟨rfl, hbel⟩
  · have hd : decide (la = lb) = false := decide_eq_false (fun c => hl (by rw [c]))
    rw [hd]
    generalize la.length = n at *
    generalize lb.length = n' at *
    have hd1 : ((n : Int) == (n' : Int)) = false := by rw [beq_eq_false_iff_ne]; omega
    have hd2 : ((n : Int) != (n' : Int)) = true := by rw [bne_iff_ne]; omega
    have b1 : (n : Int) ≤ 140737488355328 := by omega
    have b2 : (n' : Int) ≤ 140737488355328 := by omega
    clear hA hB hd hm1 hm2
    go_enter Tryz.func9, Tryz.ntmps9
    go_wp2
    go_ret
    exact ⟨rfl, Below.refl _ _⟩

end Go.Proofs.YtfpimmbjjcpobaaGreatDoor
