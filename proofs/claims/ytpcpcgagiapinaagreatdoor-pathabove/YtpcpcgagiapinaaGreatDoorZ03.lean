/- Texts joined: IxJoin IxRefD. -/
import Derived.Test.YtpcpcgagiapinaaGreatDoorZ02
import Derived.Laws.AppendOwnNone
/- The append of one row of numbers to another, as a law of the walk. -/
namespace Go.Proofs.YtpcpcgagiapinaaGreatDoor
open Go.RowKit
theorem one_own (w : World) (a : Int) : Ints w.heap.size (w.alloc (.cells #[.int .i64 a] 3)) (.slice (some ⟨w.heap.size, 0, none⟩) 1 1) [a] :=
  ⟨rfl, Or.inr ⟨w.heap.size, 1, #[.int .i64 a], rfl, Nat.le_refl _, heap_alloc_new w _, Nat.le_refl _, by unfold maxLen; omega, rfl, rfl⟩⟩
theorem Ints.mono {B B' : Nat} {w : World} {v : Value} {l : List Int} (h : Ints B w v l) (hb : B' ≤ B) : Ints B' w v l := by
  refine ⟨h.1, ?_⟩
  rcases h.2 with h | ⟨g, cap, cur, hv, h0, r⟩
  · exact Or.inl h
  · exact Or.inr ⟨g, cap, cur, hv, Nat.le_trans hb h0, r⟩
end Go.Proofs.YtpcpcgagiapinaaGreatDoor

/- Contracts of the document's own answers for layer 2: who is below whom, and the rows of nodes above. -/
namespace Go.Proofs.YtpcpcgagiapinaaGreatDoor
open Go.RowKit
set_option maxRecDepth 100000 in
set_option maxHeartbeats 1000000 in
theorem rdirect_any (x L : Int) (w : World) :
    Calls Tryz.prog 76 #[.int .i64 x, .int .i64 L] w fun e w' => ∃ v, e = .returned v ∧ Ints w.heap.size w' v (dir x L) ∧ Below w.heap.size w w' := by
  obtain ⟨i0, hi, hz0, hz1, hz2⟩ := info_parts Tryz.infoInt
  have K := rparent_any x L w
  go_enter Tryz.func76, Tryz.ntmps76
  go_wp2_with fail
  refine K.mono ?_
  rintro e w ⟨rfl, rfl⟩
  go_wp2_with fail
  go_loopw [5, 6, 7] (fun sv pv ov wr => ∃ (f : Nat) (y : Int) (cur : List Int), Room f y L ∧ pv = .int .i64 (parV y L) ∧ ov = .bool (parB y L) ∧ cur.length + f ≤ 31 ∧ Hid (cur ++ dirF f y L = dir x L) ∧ Ints w.heap.size wr sv cur ∧ Below w.heap.size w wr) (fun _ pv ov _ => stepsLeft pv ov)
  case atStart => exact ⟨31, x, [], room_start x L, rfl, rfl, by simp, by simp [Hid, dir], ints_nil _ _, Below.refl _ _⟩
  case round =>
    obtain ⟨f, y, cur, hr, rfl, rfl, hlen, hdn, hown, hbel⟩ := hrel
    have hsz := hbel.size
    cases hp : parB y L
    · have hd : cur = dir x L := by
        rw [← unhide hdn]
        cases f <;> simp [dirF, hp]
      rw [hd] at hown
      clear hdn hd hr
      go_wp2_with fail
      go_ret
      exact ⟨_, rfl, hown, hbel⟩
    · obtain ⟨g, rfl, hr', hl1, hl2, hl3, _⟩ := room_next hr hp
      have hpv : parV y L = abv y := by simp [parV, hp]
      rw [hpv]
      have K1 := fun wr => rparent_any (abv y) L wr
      have HL := hide (And.intro hl1 (And.intro hl2 hl3))
      have hdn' : Hid ((cur ++ [abv y]) ++ dirF g (abv y) L = dir x L) := by
        unfold Hid; rw [← unhide hdn]; simp [dirF, hp]
      clear hl1 hl2 hl3 hdn hr hpv
      generalize abv y = A at *
      go_wp2_with (at_builtin; refine wpList_append_own _ rfl (.tmp 15) (.tmp 17) 27 rfl w.heap.size 3 i0 (.int .i64 0) 1 8 Tryz.underlying27 hi hz0 hz1 hz2 rfl (by decide) _ cur.length _ rfl (World.ownsRow.alloc hown _) ⟨wr.heap.size, 0, none⟩ 1 1 [_] rfl rfl (cell_one_new _ _ _) ?c2 ?c3 ?c4 ?c5 ?nx)
      case c2 => intro u hu; simp at hu; subst hu; rfl
      case c3 => unfold maxLen; omega
      case c4 => omega
      case c5 => simp; omega
      case nx =>
        intro v' w1 hown' hgrow _
        obtain ⟨R1, R2⟩ := ints_snoc A hbel hown hown' hgrow
        clear hown' hgrow
        have K2 := K1 w1
        clear K1
        go_wp2_with fail
        refine K2.mono ?_
        rintro e w1 ⟨rfl, rfl⟩
        go_wp2_with fail
        go_roundw
        case rel => exact ⟨g, A, cur ++ [A], hr', rfl, rfl, by simp; omega, hdn', R1, R2⟩
        case measure => exact steps_down (unhide HL) hr'
end Go.Proofs.YtpcpcgagiapinaaGreatDoor
