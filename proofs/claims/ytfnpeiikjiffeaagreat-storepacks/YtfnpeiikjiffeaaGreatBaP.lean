/- Texts joined: StN StO. -/
import Derived.Test.YtfnpeiikjiffeaaGreatBaO
/- The laws' own functions: fresh, SameTexts, alive. -/
namespace Go.Proofs.YtfnpeiikjiffeaaGreat
open Go.RowKit Go.Maps

theorem prs_cells {X : World} {g : Nat} {cs : Array Value} {T : TypeId} {z : Nat × Nat} {l : List PP} (h : X.heap[g]? = some (.cells cs T z)) (hc : cs.toList = l.flatMap prC) (hl : l.length ≤ 1000) (hf : ∀ x ∈ l, x.n.size ≤ 140737488355328 ∧ x.t.size ≤ 140737488355328) : PrsAt X (some ⟨g, 0, none⟩) l := by
  refine ⟨by omega, hf, Or.inr ⟨g, 0, rfl, lt_of_blk h, fun i x hx => ?_⟩⟩
  have key : ∀ j v, (prC x)[j]? = some v → X.cell? ⟨g, 0 + i * 3 + j, none⟩ = some v := fun j v hv => by
    have h1 := flat3 hx hv
    rw [← hc, Array.getElem?_toList] at h1
    simp [World.cell?, h, h1]
  exact ⟨key 0 _ rfl, key 1 _ rfl, key 2 _ rfl⟩
set_option maxRecDepth 100000 in
set_option maxHeartbeats 2000000 in
theorem texts_same {w : World} {va vb : Value} {l : List ByteArray} (ha : SRow w va l) (hb : SRow w vb l) (hl : l.length ≤ 256) :
    Calls Tryz.prog 37 #[va, vb] w fun e w' => e = .returned (.bool true) ∧ Below w.heap.size w w' := by
  obtain ⟨a, ca, rfl⟩ := own_slice ha
  obtain ⟨b, cb, rfl⟩ := own_slice hb
  obtain ⟨L, hL⟩ : ∃ L, L = l.length := ⟨_, rfl⟩
  have HH := hide (And.intro ha (And.intro hb hL))
  rw [← hL]
  have hLi : (L : Int) ≤ 256 := by omega
  clear ha hb hL hl
  go_enter Tryz.func37, Tryz.ntmps37
  go_wp2_with fail
  go_loopw [13] (fun iv wr => ∃ i : Nat, i ≤ L ∧ iv = .int .i64 (i : Int) ∧ Hid (Below w.heap.size w wr)) (fun iv _ => (L - intOf iv).toNat)
  case atStart => exact ⟨0, by omega, rfl, Below.refl _ _⟩
  case round =>
    obtain ⟨i, hi, rfl, HR⟩ := hrel
    by_cases hlt : i < L
    · obtain ⟨s, hs⟩ : ∃ s, l[i]? = some s := ⟨_, List.getElem?_eq_getElem (by have := (unhide HH).2.2; omega)⟩
      obtain ⟨g1, c1, h1, k1, _, _⟩ := (SRow.bw (unhide HH).1 (unhide HR)).cell hs
      obtain ⟨g2, c2, h2, k2, _, _⟩ := (SRow.bw (unhide HH).2.1 (unhide HR)).cell hs
      cases h1
      cases h2
      have hii : (i : Int) < (L : Int) := by omega
      clear hs
      go_wp2_with fail
      go_quiet (fail)
      all_goals
        go_wp2_with fail
        go_roundw
        case rel => exact ⟨i + 1, by omega, by go_num, below_drewN (unhide HR) _⟩
        case measure => simp only [intOf]; omega
    · have hii : ¬ (i : Int) < (L : Int) := by omega
      go_wp2_with fail
      go_ret
      exact ⟨rfl, unhide HR⟩
end Go.Proofs.YtfnpeiikjiffeaaGreat

/- alive, the end of every law of layer 7. -/
namespace Go.Proofs.YtfnpeiikjiffeaaGreat
open Go.RowKit Go.Maps

def tA : ByteArray := ⟨#[97]⟩
def tB : ByteArray := ⟨#[98]⟩
def t1 : ByteArray := ⟨#[49]⟩
def t2 : ByteArray := ⟨#[50]⟩
def txy : ByteArray := ⟨#[120, 121]⟩
def aliveL : List PP := [⟨tB, t1, false⟩, ⟨tA, t2, false⟩]
def aliveM : MM := MM.nil.chg aliveL
theorem aliveM_at (k : ByteArray) : aliveM k = if k = tA then some t2 else if k = tB then some t1 else none := by
  unfold aliveM aliveL MM.chg
  simp only [List.foldl_cons, List.foldl_nil, MM.set, MM.nil]
  by_cases h : k = tA
  · subst h; rfl
  · rw [if_neg h, if_neg h]
    by_cases h2 : k = tB
    · subst h2; rfl
    · rw [if_neg h2, if_neg h2]
theorem alive_nm : Nm aliveM [tA, tB] := by
  refine ⟨List.Pairwise.cons (fun b hb => ?_) (List.Pairwise.cons (fun _ hb => by cases hb) List.Pairwise.nil), fun k => ?_⟩
  · simp at hb; subst hb; show tA.data.toList < tB.data.toList; decide
  · rw [aliveM_at]
    by_cases h : k = tA
    · subst h; simp
    · by_cases h2 : k = tB
      · subst h2; simp [h]
      · simp [h, h2]
theorem alive_chgE : chgE [] aliveL = 0 := by
  rw [chgE_iff]
  refine ⟨fun p hp => ?_, ?_⟩
  · simp only [aliveL, List.mem_cons, List.not_mem_nil, or_false] at hp
    rcases hp with rfl | rfl <;> exact ⟨by decide, by simp, by simp⟩
  · show [tB, tA].Nodup
    have : tB ≠ tA := by intro c; have := congrArg (fun x : ByteArray => x.data.toList) c; revert this; decide
    simp [this]
theorem alive_fits : Fits aliveM := fits_nil.chg (fun p hp => by
  simp only [aliveL, List.mem_cons, List.not_mem_nil, or_false] at hp
  rcases hp with rfl | rfl <;> decide)
theorem alive_size : (packT aliveM [tA, tB]).size ≤ 448 := by
  have e : pairsOf aliveM [tA, tB] = [⟨tA, t2, false⟩, ⟨tB, t1, false⟩] := by
    unfold pairsOf
    simp only [List.map_cons, List.map_nil]
    rw [aliveM_at, if_pos rfl, aliveM_at, if_neg, if_pos rfl]
    · rfl
    · intro c; have := congrArg (fun x : ByteArray => x.data.toList) c; revert this; decide
  unfold packT
  rw [e, ← size_list, data_str]
  unfold packB
  have h0 := Wi.enc_length (([⟨tA, t2, false⟩, ⟨tB, t1, false⟩] : List PP).length : Int)
  have h1 := tb_len tA
  have h2 := tb_len tB
  have h3 := tb_len t1
  have h4 := tb_len t2
  have s1 : tA.size = 1 := rfl
  have s2 : tB.size = 1 := rfl
  have s3 : t1.size = 1 := rfl
  have s4 : t2.size = 1 := rfl
  have h5 : (body [⟨tA, t2, false⟩, ⟨tB, t1, false⟩]).length = (tb tA).length + (tb t2).length + ((tb tB).length + (tb t1).length) := by simp [body, pb]; omega
  rw [List.length_append, h5]
  omega
theorem alive_okay : Okay MM.nil aliveL (roomN 16) := ⟨alive_chgE, [tA, tB], alive_nm, by decide, alive_size⟩
def twiceL : List PP := [⟨tA, ⟨#[]⟩, false⟩, ⟨tA, ⟨#[]⟩, false⟩]
theorem twice_chgE : chgE [] twiceL = 13 := by decide
def packL : List PP := [⟨tA, txy, false⟩]
theorem pack_x : packX packL = 0 := by decide
theorem pack_s : packS packL = ⟨#[2, 2, 97, 4, 120, 121]⟩ := by
  unfold packS; rw [if_pos pack_x]; decide
set_option maxRecDepth 100000 in
set_option maxHeartbeats 8000000 in
theorem alive7_any (w : World) : Calls Tryz.prog 12 #[] w fun e w' => e = .returned (.bool true) ∧ Below w.heap.size w w' := by
  have K1 := hide (ED.start (Env.nil w) 16 (by omega) (by omega))
  go_enter Tryz.func12, Tryz.ntmps12
  go_wp2_with fail
  refine (unhide K1).mono ?_
  rintro e W1 ⟨d, rfl, E1⟩
  have K2 := hide (sx_open E1 (by omega))
  clear K1 E1
  go_wp2_with fail
  refine (unhide K2).mono ?_
  rintro e W2 ⟨x, rfl, V2, ok2, -, hn2, hm2⟩
  clear K2
  obtain ⟨X, hX⟩ : ∃ X, X = W2.alloc (.cells #[.string ⟨#[98]⟩, .string ⟨#[49]⟩, .bool false, .string ⟨#[97]⟩, .string ⟨#[50]⟩, .bool false] 48) := ⟨_, rfl⟩
  have qX : X.heap[W2.heap.size]? = some (.cells #[.string ⟨#[98]⟩, .string ⟨#[49]⟩, .bool false, .string ⟨#[97]⟩, .string ⟨#[50]⟩, .bool false] 48 (0, 0)) := by rw [hX]; exact heap_alloc_new _ _
  have bX : Below W2.heap.size W2 X := by rw [hX]; exact bw_alloc _ _
  have K3 := hide (sx_change (cap := 2) (V2.new bX) ok2 (by simp) (by omega) (by omega) (prs_cells (l := aliveL) qX rfl (by decide) (fun p hp => by
    simp only [aliveL, List.mem_cons, List.not_mem_nil, or_false] at hp
    rcases hp with rfl | rfl <;> decide)) (by decide))
  rw [hm2, hn2] at K3
  have HX := hide hX
  clear qX bX V2 ok2 hn2 hm2
  go_wp2_with fail
  rw [← unhide HX]
  clear hX
  refine (unhide K3).mono ?_
  rintro e W3 ⟨y, x', rfl, V3, ok3, -, hsb, ⟨hbad, _⟩ | ⟨-, rfl, hm3, hn3⟩⟩
  · exact absurd alive_okay hbad
  rw [← hsb]
  have hm3' : x'.m = aliveM := hm3
  have K4 := hide (sget_any (SX.es V3) tA (by decide))
  rw [hm3', show (aliveM tA) = some t2 from by rw [aliveM_at, if_pos rfl], show aliveM.at tA = ⟨tA, t2, false⟩ from at_of (by rw [aliveM_at, if_pos rfl])] at K4
  have HV := hide (And.intro V3 (And.intro ok3 (And.intro hm3' hn3)))
  clear K3 V3 ok3 hsb hm3 hn3 hm3' HX
  unfold tA t2 at K4
  simp only [Option.isSome_some] at K4
  go_wp2_with fail
  refine (unhide K4).mono ?_
  rintro e W4 ⟨rfl, b4⟩
  clear K4
  obtain ⟨X4, hX4⟩ : ∃ X, X = W4.alloc (.cells #[.string ⟨#[97]⟩, .string ⟨#[120, 121]⟩, .bool false] 48) := ⟨_, rfl⟩
  have qX4 : X4.heap[W4.heap.size]? = some (.cells #[.string ⟨#[97]⟩, .string ⟨#[120, 121]⟩, .bool false] 48 (0, 0)) := by rw [hX4]; exact heap_alloc_new _ _
  have bX4 : Below W4.heap.size W4 X4 := by rw [hX4]; exact bw_alloc _ _
  have K5 := hide (pack_any (cap := 1) (prs_cells (l := packL) qX4 rfl (by decide) (fun p hp => by
    simp only [packL, List.mem_cons, List.not_mem_nil, or_false] at hp
    subst hp; decide)))
  rw [pack_x, pack_s] at K5
  have HX4 := hide hX4
  have HB4 := hide (bw_tr b4 bX4)
  clear qX4 bX4 b4
  go_wp2_with fail
  rw [← unhide HX4]
  clear hX4
  refine (unhide K5).mono ?_
  rintro e W5 ⟨rfl, b5⟩
  have V5 := (unhide HV).1.new (bw_tr (unhide HB4) b5)
  have K6 := hide (snames_any (SX.es V5))
  have HV5 := hide V5
  clear K5 V5 b5 HX4 HB4
  go_wp2_with fail
  refine (unhide K6).mono ?_
  rintro e W6 ⟨v, ns, rfl, hN, -, hR, hnew, b6⟩
  rw [(unhide HV).2.2.1] at hN
  obtain rfl : ns = [tA, tB] := hN.uniq alive_nm
  obtain ⟨X6, hX6⟩ : ∃ X, X = W6.alloc (.cells #[.string ⟨#[97]⟩, .string ⟨#[98]⟩] 9) := ⟨_, rfl⟩
  have bX6 : Below W6.heap.size W6 X6 := by rw [hX6]; exact bw_alloc _ _
  have r6 : SRow X6 (.slice (some ⟨W6.heap.size, 0, none⟩) 2 2) [tA, tB] := by
    unfold SRow
    refine ⟨rfl, Or.inr ⟨W6.heap.size, 2, #[.string ⟨#[97]⟩, .string ⟨#[98]⟩], rfl, Nat.zero_le _, by rw [hX6]; exact heap_alloc_new _ _, by decide, ?_, ?_, ?_⟩⟩
    all_goals first | (unfold maxLen; omega) | rfl | decide
  have K7 := hide (texts_same (SRow.bw hR bX6) r6 (by decide))
  have HX6 := hide hX6
  have V6 := (unhide HV5).new (bw_tr b6 bX6)
  have HV6 := hide V6
  clear K6 hN hR hnew b6 bX6 r6 V6 HV5
  go_wp2_with fail
  rw [← unhide HX6]
  clear hX6
  refine (unhide K7).mono ?_
  rintro e W7 ⟨rfl, b7⟩
  have V7 := (unhide HV6).new b7
  have K8 := hide (sseq_any (SX.es V7))
  rw [(unhide HV).2.2.2] at K8
  obtain ⟨X8, hX8⟩ : ∃ X, X = W7.alloc (.cells #[.string ⟨#[97]⟩, .string ⟨#[]⟩, .bool false, .string ⟨#[97]⟩, .string ⟨#[]⟩, .bool false] 48) := ⟨_, rfl⟩
  have qX8 : X8.heap[W7.heap.size]? = some (.cells #[.string ⟨#[97]⟩, .string ⟨#[]⟩, .bool false, .string ⟨#[97]⟩, .string ⟨#[]⟩, .bool false] 48 (0, 0)) := by rw [hX8]; exact heap_alloc_new _ _
  have bX8 : Below W7.heap.size W7 X8 := by rw [hX8]; exact bw_alloc _ _
  have K9 := hide (sx_change (cap := 2) (V7.new bX8) (unhide HV).2.1 (by simp) (by rw [(unhide HV).2.2.2]; omega) (by omega) (prs_cells (l := twiceL) qX8 rfl (by decide) (fun p hp => by
    simp only [twiceL, List.mem_cons, List.not_mem_nil, or_false] at hp
    rcases hp with rfl | rfl <;> decide)) (by decide))
  have HX8 := hide hX8
  clear K7 b7 V7 qX8 bX8 HV6 HX6
  go_wp2_with (first | (go_at_call 21; refine (unhide K8).mono ?_; rintro e w1 ⟨rfl, rfl⟩))
  rw [← unhide HX8]
  clear hX8
  refine (unhide K9).mono ?_
  rintro e W9 ⟨y, x9, rfl, V9, -, -, -, ⟨-, -, hy, -⟩ | ⟨hok, _⟩⟩
  · obtain rfl : y = 13 := (hy (by rw [twice_chgE]; decide)).trans twice_chgE
    have HB := hide V9.bel
    clear K8 K9 V9 hy HV HX8
    go_wp2_with fail
    go_ret
    exact ⟨rfl, unhide HB⟩
  · exact absurd (hok.1) (by rw [twice_chgE]; decide)
end Go.Proofs.YtfnpeiikjiffeaaGreat
