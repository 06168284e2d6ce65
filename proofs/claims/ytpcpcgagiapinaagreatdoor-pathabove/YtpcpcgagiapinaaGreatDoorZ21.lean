/- Texts joined: NDdG NDdH NDdI NDdJ PbA. -/
import Derived.Test.YtpcpcgagiapinaaGreatDoorZ20
import Derived.Lib.SliceRun
import Derived.Test.YtpcpcgagiapinaaGreatDoorZ17
import Derived.Test.YtpcpcgagiapinaaGreatDoorZ18
/- Contracts of Clone, New and Follows of package deduce. -/
namespace Go.Proofs.YtpcpcgagiapinaaGreatDoor.Tn
open Go.RowKit Go.Maps
theorem list_nil (b : Nat) (sv : Value) (mb : Nat) (L : List Tm) (a : Option Addr) (cap : Nat) (w : World) (h : St w b sv mb L) :
    Calls Tryz.prog 85 #[.pointer (some ⟨b, 0, none⟩), .slice a 0 cap] w fun e w' => e = .returned (.tuple #[.int .i64 0, .int .i64 0]) ∧ w' = w := by
  have K := missing_any b sv mb L w h
  clear h
  go_enter Tryz.func85, Tryz.ntmps85
  go_wp2_with fail
  refine K.mono ?_
  rintro e w ⟨rfl, rfl⟩
  go_wp2_with fail
  go_loopw [15] (fun iv wr => iv = .int .i64 0 ∧ wr = w) (fun _ _ => 0)
  case atStart => exact ⟨rfl, rfl⟩
  case round =>
    obtain ⟨rfl, hwr⟩ := hrel
    obtain rfl : w = wr := hwr.symm
    go_wp2_with fail
    go_ret2
    exact ⟨rfl, rfl⟩
theorem dmissing_any (b : Nat) (sv : Value) (mb : Nat) (L : List Tm) (w : World) (h : St w b sv mb L) :
    Calls Tryz.prog 79 #[.pointer (some ⟨b, 0, none⟩)] w fun e w' => e = .returned (.bool false) ∧ w' = w := by
  have K := list_nil b sv mb L none 0 w h
  clear h
  go_enter Tryz.func79, Tryz.ntmps79
  go_wp2_with fail
  refine K.mono ?_
  rintro e w ⟨rfl, rfl⟩
  go_wp2_with fail
  go_ret
  exact ⟨rfl, rfl⟩
theorem clone_any (v : Value) (l : List Nat) (w : World) (h : NIs w v (l.map fun (m : Nat) => (m : Int))) (hl : l.length ≤ 65536) :
    Calls Tryz.prog 82 #[v] w fun e w' => ∃ v', e = .returned v' ∧ NRow 0 w' v' l ∧ Below w.heap.size w w' ∧ ∀ k, v'.ownBlock = some k → w.heap.size ≤ k := by
  obtain ⟨j0, hj, hy0, hy1, hyb⟩ := info_parts Tryz.infoInt
  obtain ⟨a, cap, rfl, _, _, hc⟩ := h
  have hlen : (l.map fun (m : Nat) => (m : Int)).length = l.length := by simp
  rw [hlen]
  have hnil := fun (W : World) => Lib.run_eql_slice_nil (P := Tryz.prog) W 27 3 a l.length cap 0 0 Tryz.underlying27
  cases a with
  | none =>
    have hl0 : l = [] := by
      rcases hc with c | ⟨g, o, c, _⟩
      · simpa using c
      · cases c
    subst hl0
    clear hc
    simp only [List.length_nil, Option.isNone_none] at hnil ⊢
    go_enter Tryz.func82, Tryz.ntmps82
    go_wp2_with fail
    go_ret
    exact ⟨_, rfl, World.ownsRow_nil _ _ _ _, Below.refl _ _, by simp [Value.ownBlock]⟩
  | some ad =>
    have hcell : ∀ (W : World), Below w.heap.size w W → ∀ j u, (l.map (fun m => Value.int .i64 ((m : Nat) : Int)))[j]? = some u → W.cell? (ad.add j) = some u := by
      intro W hW j u hj
      rcases hc with c | ⟨g, o, c, hc⟩
      · have : l = [] := by simpa using c
        subst this; simp at hj
      · simp at c; subst c
        simp only [List.getElem?_map, Option.map_eq_some_iff] at hj
        obtain ⟨m, hm, rfl⟩ := hj
        have := hc j (m : Int) (by simp [hm])
        have e : (⟨g, o, none⟩ : Addr).add j = ⟨g, o + j, none⟩ := by unfold Addr.add; by_cases hz : j = 0 <;> simp [hz]
        rw [e, World.cell?_of_block (w := w) (hW.block _ (lt_of_cell this))]
        exact this
    have hrow := World.ownsRow_made (base := w.heap.size) (e := 3) (size := 1) w #[] 0 (Nat.le_refl _) (by unfold maxLen; omega) rfl
    have hone : ∀ u ∈ l.map (fun m => Value.int .i64 ((m : Nat) : Int)), u.oneCell' = true := by
      intro u hu; obtain ⟨m, _, rfl⟩ := List.mem_map.1 hu; rfl
    have HH := hide (And.intro hcell (And.intro hone hl))
    clear hc hcell hone
    go_enter Tryz.func82, Tryz.ntmps82
    go_wp2_with (at_builtin; refine wpList_append_own_at _ rfl (.tmp 5) (.tmp 6) 27 rfl w.heap.size 3 j0 (.int .i64 0) 1 8 Tryz.underlying27 hj hy0 hy1 hyb rfl (by decide) _ 0 [] rfl hrow ad l.length cap (l.map (fun m => Value.int .i64 ((m : Nat) : Int))) rfl (by simp) ((unhide HH).1 _ (bw_alloc _ _)) (unhide HH).2.1 ?c3 ?c4 ?c5 ?nx)
    case c3 => have := (unhide HH).2.2; unfold maxLen; omega
    case c4 => have := (unhide HH).2.2; omega
    case c5 => simp
    case nx =>
      intro v' w3 hown' hgrow _ hat
      have hb3 : Below w.heap.size w w3 := (bw_alloc w _).grown hgrow (by simp) (fun k hk => by simp [Value.ownBlock] at hk; omega)
      have hown2 : w3.ownsRow w.heap.size 3 1 v' l.length (l.map (fun m => Value.int .i64 ((m : Nat) : Int))) := by simpa using hown'
      have hlt := fun k hk => (World.ownsRow.lt hown2 k hk).1
      have hr0 : NRow 0 w3 v' l := by
        refine ⟨hown2.1, ?_⟩
        rcases hown2.2 with c | ⟨g, cp, cur, c1, _, c3⟩
        · exact Or.inl c
        · exact Or.inr ⟨g, cp, cur, c1, Nat.zero_le _, c3⟩
      clear hown' hgrow hat hown2
      go_wp2_with fail
      go_ret
      exact ⟨_, rfl, hr0, hb3, hlt⟩
def newE (L : List Tm) (l : List Int) : Int := if l.all (thr L.length) = true then 0 else 1
theorem newE_ok {L : List Tm} {l : List Int} (h : ∀ x ∈ l, thr L.length x = true) : newE L l = 0 := by
  unfold newE; rw [if_pos (List.all_eq_true.2 h)]
theorem newE_bad {L : List Tm} {l : List Int} {x : Int} (hx : x ∈ l) (h : thr L.length x = false) : newE L l = 1 := by
  unfold newE
  rw [if_neg]
  intro c
  have := List.all_eq_true.1 c x hx
  rw [h] at this; cases this
def NewP (w w' : World) (b : Nat) (L : List Tm) (l : List Int) (p : Option Addr) : Prop :=
  (newE L l = 1 ∧ p = none) ∨ (newE L l = 0 ∧ ∃ kb Z, p = some ⟨kb, 0, none⟩ ∧ KS w' kb b L (fun m => (m : Int) ∈ l) Z ∧ ∀ x ∈ Z, w.heap.size ≤ x)
theorem kn_start (w : World) (b : Nat) (c : Bool) (hc : c = true) : Kn ((((w.alloc (.cells #[.bool c] 4)).alloc (.cells #[.int .i64 0] 3)).alloc (.cells #[.int .i64 0, .int .i64 0] 151)).alloc (.cells #[.pointer (some ⟨b, 0, none⟩), .slice (some ⟨w.heap.size, 0, none⟩) 1 1, .slice (some ⟨w.heap.size + 1, 0, none⟩) 1 1, .slice (some ⟨w.heap.size + 1 + 1, 0, none⟩) 1 1] 154))
    (w.heap.size + 1 + 1 + 1) (.slice (some ⟨w.heap.size, 0, none⟩) 1 1) (.slice (some ⟨w.heap.size + 1, 0, none⟩) 1 1) (.slice (some ⟨w.heap.size + 1 + 1, 0, none⟩) 1 1) b [true] [0] [(0, 0)] := by
  subst hc
  have e1 : (w.alloc (.cells #[.bool true] 4)).heap.size = w.heap.size + 1 := by simp
  have e2 : ((w.alloc (.cells #[.bool true] 4)).alloc (.cells #[.int .i64 0] 3)).heap.size = w.heap.size + 1 + 1 := by simp
  have e3 : (((w.alloc (.cells #[.bool true] 4)).alloc (.cells #[.int .i64 0] 3)).alloc (.cells #[.int .i64 0, .int .i64 0] 151)).heap.size = w.heap.size + 1 + 1 + 1 := by simp
  refine ⟨by rw [← e3]; exact heap_alloc_new _ _, ⟨rfl, Or.inr ⟨_, 1, #[.bool true], rfl, Nat.zero_le _, ?_, Nat.le_refl _, by unfold maxLen; omega, rfl, rfl⟩⟩, ⟨rfl, Or.inr ⟨_, 1, #[.int .i64 0], rfl, Nat.zero_le _, ?_, Nat.le_refl _, by unfold maxLen; omega, rfl, rfl⟩⟩, ⟨rfl, Or.inr ⟨_, 1, #[.int .i64 0, .int .i64 0], rfl, Nat.zero_le _, ?_, Nat.le_refl _, by unfold maxLen; omega, rfl, rfl⟩⟩⟩
  · rw [Below.heap_alloc _ _ _ (by simp only [World.size_alloc]; omega), Below.heap_alloc _ _ _ (by simp only [World.size_alloc]; omega), Below.heap_alloc _ _ _ (by simp only [World.size_alloc]; omega)]; exact heap_alloc_new _ _
  · rw [Below.heap_alloc _ _ _ (by simp only [World.size_alloc]; omega), Below.heap_alloc _ _ _ (by simp only [World.size_alloc]; omega), ← e1]; exact heap_alloc_new _ _
  · rw [Below.heap_alloc _ _ _ (by simp only [World.size_alloc]; omega), ← e2]; exact heap_alloc_new _ _
set_option maxRecDepth 100000 in
set_option maxHeartbeats 8000000 in
theorem kNew_any (b : Nat) (sv : Value) (mb : Nat) (L : List Tm) (a : Option Addr) (cap : Nat) (l : List Int) (w : World) (hS : St w b sv mb L) (h : NIs w (.slice a l.length cap) l) (hl : l.length ≤ 65536) :
    Calls Tryz.prog 28 #[.pointer (some ⟨b, 0, none⟩), .slice a l.length cap] w fun e w' => ∃ p, e = .returned (.tuple #[.pointer p, .int .i64 (newE L l)]) ∧ Below w.heap.size w w' ∧ NewP w w' b L l p := by
  have K0 := dmissing_any b sv mb L w hS
  have hcell : ∀ i z, l[i]? = some z → ∃ g o, a = some ⟨g, o, none⟩ ∧ ∀ W, Below w.heap.size w W → W.cell? ⟨g, o + i, none⟩ = some (.int .i64 z) := by
    intro i z hz
    obtain ⟨a', cap', hv, _, _, hc⟩ := h
    cases hv
    rcases hc with c | ⟨g, o, rfl, hc⟩
    · rw [c] at hz; simp at hz
    · refine ⟨g, o, rfl, fun W hW => ?_⟩
      have := hc i z hz
      rw [World.cell?_of_block (w := w) (hW.block _ (lt_of_cell this))]; exact this
  obtain ⟨N, hN⟩ : ∃ N, N = l.length := ⟨_, rfl⟩
  rw [← hN]
  have hNb : (N : Int) ≤ 65536 := by omega
  obtain ⟨er, her⟩ : ∃ er, er = newE L l := ⟨_, rfl⟩
  rw [← her]
  have HI := hide (And.intro hS (And.intro h (And.intro hl (And.intro hcell (And.intro hN her)))))
  clear hS h hl hcell hN her
  go_enter Tryz.func28, Tryz.ntmps28
  go_wp2_with fail
  refine K0.mono ?_
  rintro e w ⟨rfl, rfl⟩
  clear K0
  go_wp2_with fail
  go_loopw [18] (fun iv wr => ∃ i : Nat, iv = .int .i64 (i : Int) ∧ i ≤ N ∧ Hid (Below w.heap.size w wr ∧ ∀ x ∈ l.take i, thr L.length x = true)) (fun iv _ => (N - intOf iv).toNat)
  case atStart => exact ⟨0, rfl, by omega, Below.refl _ _, by simp⟩
  case round =>
    obtain ⟨i, rfl, hi, HR⟩ := hrel
    by_cases hlt : i < N
    · obtain ⟨hS, h, hl, hcell, hN, her⟩ := unhide HI
      obtain ⟨z, hz⟩ : ∃ z, l[i]? = some z := ⟨_, List.getElem?_eq_getElem (by omega)⟩
      obtain ⟨g, o, rfl, hc⟩ := hcell i z hz
      have cz := hc wr (unhide HR).1
      have KG := get_any b sv mb L z wr (hS.bw (unhide HR).1)
      have hi1 : (i : Int) < (N : Int) := by omega
      cases hth : thr L.length z
      · rw [hth] at KG
        have HE : Hid (newE L l = 1 ∧ er = 1) := by
          have e := newE_bad (List.mem_of_getElem? hz) hth
          exact ⟨e, by rw [her, e]⟩
        generalize getT L z = t at *
        clear hS h hl hcell hN her hz hc hth HI
        go_wp2_with fail
        refine KG.mono ?_
        rintro e w1 ⟨rfl, b1⟩
        have b2 := bw_tr (unhide HR).1 (b1.alloc b1.size (.cells #[.int .u8 t.kd, .int .i64 t.n, .int .i64 t.a, .int .i64 t.b] 64))
        clear KG b1 cz
        go_wp2_with fail
        refine bodyPost_ret (v := .tuple #[.pointer none, .int .i64 1]) (by simp [results, Tryz.results28, go_sem]) rfl ⟨none, by rw [(unhide HE).2], b2, Or.inl ⟨(unhide HE).1, rfl⟩⟩
      · rw [hth] at KG
        have HT : Hid (∀ x ∈ l.take (i + 1), thr L.length x = true) := by
          intro x hx
          rw [List.take_add_one, hz] at hx
          rcases List.mem_append.1 hx with c | c
          · exact (unhide HR).2 x c
          · simp at c; rw [c]; exact hth
        generalize getT L z = t at *
        clear hS h hl hcell hN her hz hc hth
        go_wp2_with fail
        refine KG.mono ?_
        rintro e w1 ⟨rfl, b1⟩
        have b2 := bw_tr (unhide HR).1 (b1.alloc b1.size (.cells #[.int .u8 t.kd, .int .i64 t.n, .int .i64 t.a, .int .i64 t.b] 64))
        have HB := hide b2
        clear KG b1 cz b2
        go_wp2_with fail
        go_roundw
        case rel => exact ⟨i + 1, by go_num, by omega, unhide HB, unhide HT⟩
        case measure => simp only [intOf]; omega
    · obtain rfl : i = N := by omega
      obtain ⟨hS, h, hl, hcell, hN, her⟩ := unhide HI
      obtain ⟨hbr, hall⟩ := unhide HR
      rw [List.take_of_length_le (by omega)] at hall
      obtain ⟨nl, hnl⟩ : ∃ nl : List Nat, l = nl.map (fun (m : Nat) => (m : Int)) := by
        refine ⟨l.map Int.toNat, ?_⟩
        rw [List.map_map]
        conv => lhs; rw [← List.map_id l]
        exact List.map_congr_left fun x hx => by have := thr_iff.1 (hall x hx); simp; omega
      have hs1 := hS.bw hbr
      have b2 : Below wr.heap.size wr ((((wr.alloc (.cells #[.bool true] 4)).alloc (.cells #[.int .i64 0] 3)).alloc (.cells #[.int .i64 0, .int .i64 0] 151)).alloc (.cells #[.pointer (some ⟨b, 0, none⟩), .slice (some ⟨wr.heap.size, 0, none⟩) 1 1, .slice (some ⟨wr.heap.size + 1, 0, none⟩) 1 1, .slice (some ⟨wr.heap.size + 1 + 1, 0, none⟩) 1 1] 154)) :=
        bw_tr (bw_tr (bw_tr (bw_alloc _ _) (bw_alloc _ _)) (bw_alloc _ _)) (bw_alloc _ _)
      have hz0 : ∀ y ∈ kfoot (wr.heap.size + 1 + 1 + 1) (.slice (some ⟨wr.heap.size, 0, none⟩) 1 1) (.slice (some ⟨wr.heap.size + 1, 0, none⟩) 1 1) (.slice (some ⟨wr.heap.size + 1 + 1, 0, none⟩) 1 1), wr.heap.size ≤ y := by
        intro y hy
        rcases mem_kfoot.1 hy with c | c | c | c
        · omega
        · simp [Value.ownBlock] at c; omega
        · simp [Value.ownBlock] at c; omega
        · simp [Value.ownBlock] at c; omega
      have KR := read_any (wr.heap.size + 1 + 1 + 1) _ _ _ b [true] [0] [(0, 0)] sv mb L none1 _ (kn_start wr b true rfl) (lk_start L) (sm_start L) (hs1.bw b2) (fun y hy c => by have := hz0 y hy; have := hs1.lt y c; omega)
      have HJ := hide (And.intro hbr (And.intro hall (And.intro hnl (And.intro hs1 (And.intro b2 hz0)))))
      clear hS h hl hcell hN her hbr hall hnl hs1 b2 hz0 HR
      go_wp2_with fail
      refine KR.mono ?_
      rintro e w2 ⟨rfl, fv2, tv2, lv2, F2, fs2, ls2, k2, l2, s2, n2⟩
      clear KR
      have HK2 := hide (And.intro k2 (And.intro l2 (And.intro s2 n2)))
      have HB2 : Hid (Below wr.heap.size wr w2 ∧ ∀ y ∈ kfoot (wr.heap.size + 1 + 1 + 1) fv2 tv2 lv2, wr.heap.size ≤ y) := by
        obtain ⟨hbr, hall, hnl, hs1, b2, hz0⟩ := unhide HJ
        refine ⟨Fr.toBase b2 k2.mv.fr hz0, fun y hy => ?_⟩
        rcases k2.mv.place y hy with c | c
        · exact hz0 y c
        · have := b2.size; omega
      have KC : Calls Tryz.prog 82 #[.slice a i cap] w2 fun e w' => ∃ v', e = .returned v' ∧ NRow 0 w' v' nl ∧ Below w2.heap.size w2 w' ∧ ∀ k, v'.ownBlock = some k → w2.heap.size ≤ k := by
        obtain ⟨hS, h, hl, hcell, hN, her⟩ := unhide HI
        obtain ⟨hbr, hall, hnl, hs1, b2, hz0⟩ := unhide HJ
        have h2 := h.bw (bw_tr hbr (unhide HB2).1)
        rw [← hN] at h2
        refine clone_any _ nl w2 (by rw [← hnl]; exact h2) (by rw [hnl] at hl; simpa using hl)
      clear k2 l2 s2 n2
      go_wp2_with fail
      refine KC.mono ?_
      rintro e w3 ⟨v3, rfl, r3, b3, p3⟩
      obtain ⟨K', hK'⟩ : ∃ K' : Nat → Prop, K' = (fun (m : Nat) => (m : Int) ∈ l) := ⟨_, rfl⟩
      have KN : Calls Tryz.prog 81 #[.pointer (some ⟨wr.heap.size + 1 + 1 + 1, 0, none⟩), v3] w3 fun e w' => e = .returned (.tuple #[]) ∧ ∃ F' v' l', Le w3 w' (wr.heap.size + 1 + 1 + 1) b sv mb L fv2 tv2 lv2 v3 v' l' F' fs2 ls2 ∧ Lk L F' fs2 ls2 none2 0 ∧ Sm L K' F' [] none1 ∧ F'.length = F2.length := by
        obtain ⟨hS, h, hl, hcell, hN, her⟩ := unhide HI
        obtain ⟨hbr, hall, hnl, hs1, b2, hz0⟩ := unhide HJ
        obtain ⟨k2, l2, s2, n2⟩ := unhide HK2
        have k3 := k2.new b3
        have hln : nl.length ≤ 65536 := by rw [hnl] at hl; simpa using hl
        refine learn_any _ fv2 tv2 lv2 b F2 fs2 ls2 sv mb L K' v3 nl w3 k3.kn k3.st k3.dis l2 r3 (fun k hk => ?_) (s2.learn hS.good n2 (fun m hm => ?_) (fun m => ?_)) ?_
        · have := p3 k hk
          exact ⟨fun c => by have := k2.kn.lt _ c; omega, fun c => by have := k2.st.lt _ c; omega⟩
        · have := thr_iff.1 (hall (m : Int) (by rw [hnl]; exact List.mem_map.2 ⟨m, hm, rfl⟩)); omega
        · rw [hK', hnl]
          constructor
          · intro c
            obtain ⟨y, hy, e⟩ := List.mem_map.1 c
            exact Or.inr (by have : y = m := by omega
                             rw [← this]; exact hy)
          · rintro (c | c)
            · exact c.elim
            · exact List.mem_map.2 ⟨m, c, rfl⟩
        · have := l2.cap hS.len; omega
      have HE : Hid (∀ W F' v' l', Le w3 W (wr.heap.size + 1 + 1 + 1) b sv mb L fv2 tv2 lv2 v3 v' l' F' fs2 ls2 → Lk L F' fs2 ls2 none2 0 → Sm L K' F' [] none1 → er = 0 ∧ Below w.heap.size w W ∧ NewP w W b L l (some ⟨wr.heap.size + 1 + 1 + 1, 0, none⟩)) := by
        intro W F' v' l' e1 e2 e3
        obtain ⟨hS, h, hl, hcell, hN, her⟩ := unhide HI
        obtain ⟨hbr, hall, hnl, hs1, b2, hz0⟩ := unhide HJ
        have e0 := newE_ok hall
        have hsz := hbr.size
        have hsz2 := (unhide HB2).1.size
        refine ⟨by rw [her, e0], ?_, Or.inr ⟨e0, _, _, rfl, by rw [← hK']; exact e1.done e2 e3, fun y hy => by have := (unhide HB2).2 y hy; omega⟩⟩
        refine bw_tr hbr (Fr.toBase (bw_tr (unhide HB2).1 b3) e1.fr (fun y hy => ?_))
        rcases List.mem_append.1 hy with c | c
        · exact (unhide HB2).2 y c
        · have := p3 y (by simpa using c); omega
      clear KC r3 b3 p3 hK'
      go_wp2_with fail
      refine KN.mono ?_
      rintro e w4 ⟨rfl, F', v', l', e1, e2, e3, _⟩
      have HF := unhide HE _ _ _ _ e1 e2 e3
      clear KN e1 e2 e3
      go_wp2_with fail
      refine bodyPost_ret (v := .tuple #[.pointer (some ⟨wr.heap.size + 1 + 1 + 1, 0, none⟩), .int .i64 0]) (by simp [results, Tryz.results28, go_sem]) rfl ⟨_, by rw [HF.1], HF.2.1, HF.2.2⟩
end Go.Proofs.YtpcpcgagiapinaaGreatDoor.Tn

/- The contract of Follows; what is known beside its store and other things; the chapter's example. -/
namespace Go.Proofs.YtpcpcgagiapinaaGreatDoor.Tn
open Go.RowKit Go.Maps
end Go.Proofs.YtpcpcgagiapinaaGreatDoor.Tn

/- The chapter's example lives; what is known beside its store and other things, as the laws keep it. -/
namespace Go.Proofs.YtpcpcgagiapinaaGreatDoor.Tn
open Go.RowKit Go.Maps
def resR (rb : Nat) (rv : Value) (R : List Tm) : Res := ⟨rfoot rb rv, fun w => Rs w rb rv R, fun _ _ _ h hf hd => h.keep hf hd, fun _ h => h.lt⟩
theorem Env.imp {w wr : World} {r r' : Res} {rs : List Res} (h : Env w wr (r :: rs)) (hz : r'.Z = r.Z) (hp : r.P wr → r'.P wr) : Env w wr (r' :: rs) := by
  have := h.step (r' := r') (w1 := wr) ⟨Fr.refl _ _, fun x hx => Or.inl (by rw [← hz]; exact hx)⟩ (hp h.hd)
  exact this
theorem Env.flip3 {w wr : World} {r s t : Res} {rs : List Res} (h : Env w wr (r :: s :: t :: rs)) : Env w wr (t :: s :: r :: rs) := by
  have h1 := h.rot3
  have h2 := h1.drop.swap
  refine ⟨h.bel, fun q hq => ?_, fun q hq => ?_, ?_⟩
  · exact h.hold q (by simp at hq ⊢; rcases hq with c | c | c | c <;> simp [c])
  · exact h.low q (by simp at hq ⊢; rcases hq with c | c | c | c <;> simp [c])
  · refine List.Pairwise.cons (fun q hq => ?_) h2.dis
    have := (List.pairwise_cons.1 h1.dis).1 q
    exact this (by simp at hq ⊢; rcases hq with c | c | c <;> simp [c])
theorem env_has {w W : World} {kb b : Nat} {sv : Value} {mb : Nat} {L : List Tm} {K : Nat → Prop} {Z : List Nat} {rs : List Res} (h : Env w W (resK kb b L K Z :: resS b sv mb L :: rs)) (x : Int) :
    Calls Tryz.prog 29 #[.pointer (some ⟨kb, 0, none⟩), .int .i64 x] W fun e W' => e = .returned (.bool (hasB L K x)) ∧ ∃ Z', Env w W' (resK kb b L K Z' :: resS b sv mb L :: rs) := by
  refine (kHas_any kb b sv mb L K Z x W h.hd h.sd h.apart).mono ?_
  rintro e W' ⟨rfl, Z', k, m⟩
  exact ⟨rfl, Z', h.step (r' := resK kb b L K Z') m k⟩
theorem env_new {w W : World} {b : Nat} {sv : Value} {mb : Nat} {L : List Tm} {rs : List Res} (h : Env w W (resS b sv mb L :: rs)) (a : Option Addr) (cap : Nat) (l : List Int) (hv : NIs W (.slice a l.length cap) l) (hl : l.length ≤ 65536) :
    Calls Tryz.prog 28 #[.pointer (some ⟨b, 0, none⟩), .slice a l.length cap] W fun e W' => ∃ p, e = .returned (.tuple #[.pointer p, .int .i64 (newE L l)]) ∧ ((newE L l = 1 ∧ p = none ∧ Env w W' (resS b sv mb L :: rs)) ∨ (newE L l = 0 ∧ ∃ kb Z, p = some ⟨kb, 0, none⟩ ∧ Env w W' (resK kb b L (fun m => (m : Int) ∈ l) Z :: resS b sv mb L :: rs))) := by
  refine (kNew_any b sv mb L a cap l W h.hd hv hl).mono ?_
  rintro e W' ⟨p, rfl, hb, hp⟩
  refine ⟨p, rfl, ?_⟩
  rcases hp with ⟨e1, rfl⟩ | ⟨e1, kb, Z, rfl, hk, hz⟩
  · exact Or.inl ⟨e1, rfl, h.new hb⟩
  · exact Or.inr ⟨e1, kb, Z, rfl, h.add (resK kb b L _ Z) hb hk hz⟩
theorem NIs.len {w : World} {v : Value} {l : List Int} (h : NIs w v l) : l.length ≤ 140737488355328 := by obtain ⟨_, _, _, h, _⟩ := h; exact h
theorem NIs.get {w : World} {a : Option Addr} {cap : Nat} {l : List Int} (h : NIs w (.slice a l.length cap) l) {i : Nat} {z : Int} (hi : l[i]? = some z) : ∃ g o, a = some ⟨g, o, none⟩ ∧ ∀ W, Below w.heap.size w W → W.cell? ⟨g, o + i, none⟩ = some (.int .i64 z) := by
  obtain ⟨a', cap', hv, _, _, hc⟩ := h
  cases hv
  rcases hc with c | ⟨g, o, rfl, hc⟩
  · rw [c] at hi; simp at hi
  · refine ⟨g, o, rfl, fun W hW => ?_⟩
    have := hc i z hi
    rw [World.cell?_of_block (w := w) (hW.block _ (lt_of_cell this))]; exact this
end Go.Proofs.YtpcpcgagiapinaaGreatDoor.Tn

/- Two of what is known beside their store, and a row of numbers, as the laws keep them. -/
namespace Go.Proofs.YtpcpcgagiapinaaGreatDoor.Tn
open Go.RowKit Go.Maps
def E2 (w W : World) (ka kb b : Nat) (sv : Value) (mb rb : Nat) (rv : Value) (L R : List Tm) (A B : Nat → Prop) : Prop := ∃ Za Zb, Env w W (resK ka b L A Za :: resS b sv mb L :: resK kb b L B Zb :: [resR rb rv R])
theorem E2.hasB {w W : World} {ka kb b : Nat} {sv : Value} {mb rb : Nat} {rv : Value} {L R : List Tm} {A B : Nat → Prop} (h : E2 w W ka kb b sv mb rb rv L R A B) (x : Int) :
    Calls Tryz.prog 29 #[.pointer (some ⟨kb, 0, none⟩), .int .i64 x] W fun e W' => e = .returned (.bool (Go.Proofs.YtpcpcgagiapinaaGreatDoor.Tn.hasB L B x)) ∧ E2 w W' ka kb b sv mb rb rv L R A B := by
  obtain ⟨Za, Zb, h⟩ := h
  refine (env_has h.flip3 x).mono ?_
  rintro e W' ⟨rfl, Z', h'⟩
  exact ⟨rfl, Za, Z', h'.flip3⟩
theorem E2.len {w W : World} {ka kb b : Nat} {sv : Value} {mb rb : Nat} {rv : Value} {L R : List Tm} {A B : Nat → Prop} (h : E2 w W ka kb b sv mb rb rv L R A B) :
    Calls Tryz.prog 44 #[.pointer (some ⟨b, 0, none⟩)] W fun e W' => e = .returned (.int .i64 (L.length : Int)) ∧ W' = W := by
  obtain ⟨Za, Zb, h⟩ := h
  exact len_any b sv mb L W h.sd
theorem E2.bel {w W : World} {ka kb b : Nat} {sv : Value} {mb rb : Nat} {rv : Value} {L R : List Tm} {A B : Nat → Prop} (h : E2 w W ka kb b sv mb rb rv L R A B) : Below w.heap.size w W := by
  obtain ⟨Za, Zb, h⟩ := h
  exact h.bel
theorem Env.sub {w wr : World} {rs rs' : List Res} (h : Env w wr rs) (hs : rs'.Sublist rs) : Env w wr rs' :=
  ⟨h.bel, fun q hq => h.hold q (hs.subset hq), fun q hq => h.low q (hs.subset hq), h.dis.sublist hs⟩
def resN (v : Value) (l : List Nat) : Res := ⟨v.ownBlock.toList, fun w => NRow 0 w v l, fun _ _ _ h hf hd => h.keep (fun k hk => hf.block k (h.lt k hk).2 (hd k (by simpa using hk))), fun _ h x hx => (h.lt x (by simpa using hx)).2⟩
def EN (w W : World) (ka b : Nat) (sv : Value) (mb rb : Nat) (rv : Value) (L R : List Tm) (A : Nat → Prop) (v : Value) (l : List Nat) : Prop := ∃ Za, Env w W (resK ka b L A Za :: resS b sv mb L :: resN v l :: [resR rb rv R])
theorem EN.start {w W : World} {ka b : Nat} {sv : Value} {mb rb : Nat} {rv : Value} {L R : List Tm} {A : Nat → Prop} {Z : List Nat} (h : Env w W (resK ka b L A Z :: resS b sv mb L :: [resR rb rv R])) : EN w W ka b sv mb rb rv L R A (.slice none 0 0) [] := by
  have h1 := h.add (resN (.slice none 0 0) []) (Below.refl _ _) (World.ownsRow_nil _ _ _ _) (by simp [resN, Value.ownBlock])
  exact ⟨Z, h1.rot3.rot3⟩
theorem EN.has {w W : World} {ka b : Nat} {sv : Value} {mb rb : Nat} {rv : Value} {L R : List Tm} {A : Nat → Prop} {v : Value} {l : List Nat} (h : EN w W ka b sv mb rb rv L R A v l) (x : Int) :
    Calls Tryz.prog 29 #[.pointer (some ⟨ka, 0, none⟩), .int .i64 x] W fun e W' => e = .returned (.bool (hasB L A x)) ∧ EN w W' ka b sv mb rb rv L R A v l := by
  obtain ⟨Za, h⟩ := h
  refine (env_has h x).mono ?_
  rintro e W' ⟨rfl, Z', h'⟩
  exact ⟨rfl, Z', h'⟩
theorem EN.len {w W : World} {ka b : Nat} {sv : Value} {mb rb : Nat} {rv : Value} {L R : List Tm} {A : Nat → Prop} {v : Value} {l : List Nat} (h : EN w W ka b sv mb rb rv L R A v l) :
    Calls Tryz.prog 44 #[.pointer (some ⟨b, 0, none⟩)] W fun e W' => e = .returned (.int .i64 (L.length : Int)) ∧ W' = W := by
  obtain ⟨Za, h⟩ := h
  exact len_any b sv mb L W h.sd
theorem EN.row {w W : World} {ka b : Nat} {sv : Value} {mb rb : Nat} {rv : Value} {L R : List Tm} {A : Nat → Prop} {v : Value} {l : List Nat} (h : EN w W ka b sv mb rb rv L R A v l) : NRow 0 W v l := by
  obtain ⟨Za, h⟩ := h
  exact h.hold (resN v l) (by simp)
theorem EN.bel {w W : World} {ka b : Nat} {sv : Value} {mb rb : Nat} {rv : Value} {L R : List Tm} {A : Nat → Prop} {v : Value} {l : List Nat} (h : EN w W ka b sv mb rb rv L R A v l) : Below w.heap.size w W := by
  obtain ⟨Za, h⟩ := h
  exact h.bel
theorem EN.to {w W W' : World} {ka b : Nat} {sv : Value} {mb rb : Nat} {rv : Value} {L R : List Tm} {A : Nat → Prop} {v v' : Value} {l l' : List Nat} (h : EN w W ka b sv mb rb rv L R A v l) (k : Nw W W' v v' l') : EN w W' ka b sv mb rb rv L R A v' l' := by
  obtain ⟨Za, h⟩ := h
  have := h.flip3.step (r' := resN v' l') ⟨k.fr, fun x hx => (k.pl x (by simpa [resN] using hx)).imp (fun c => by simpa [resN] using c) id⟩ k.row
  exact ⟨Za, this.flip3⟩
theorem EN.push {w W W2 : World} {ka b : Nat} {sv : Value} {mb rb : Nat} {rv : Value} {L R : List Tm} {A : Nat → Prop} {v v' : Value} {l : List Nat} {x : Nat} {ob : Obj} (h : EN w W ka b sv mb rb rv L R A v l) (hown : W2.ownsRow 0 3 1 v' (l.length + 1) (l.map (fun m => .int .i64 ((m : Nat) : Int)) ++ [.int .i64 (x : Int)])) (hg : (W.alloc ob).grownBy W2 v.ownBlock) (hat : v'.ownBlock = v.ownBlock ∨ v'.ownBlock = some (W.heap.size + 1)) : EN w W2 ka b sv mb rb rv L R A v' (l ++ [x]) :=
  h.to (Nw.grown (x := [x]) h.row (Below.refl _ _) hown hg hat)
theorem EN.new {w W : World} {ka b : Nat} {sv : Value} {mb rb : Nat} {rv : Value} {L R : List Tm} {A : Nat → Prop} {v : Value} {l : List Nat} (h : EN w W ka b sv mb rb rv L R A v l) (hr : ∀ m ∈ l, 1 ≤ m ∧ m ≤ L.length) (hl : l.length ≤ 65536) :
    Calls Tryz.prog 28 #[.pointer (some ⟨b, 0, none⟩), v] W fun e W' => ∃ kb, e = .returned (.tuple #[.pointer (some ⟨kb, 0, none⟩), .int .i64 0]) ∧ E2 w W' ka kb b sv mb rb rv L R A (fun m => m ∈ l) := by
  have hrow := h.row
  obtain ⟨a, cap, rfl⟩ := own_slice hrow
  have hG : L.length ≤ 1048576 := by obtain ⟨Za, h⟩ := h; exact St.len h.sd
  have hn : NIs W (.slice a l.length cap) (l.map fun (m : Nat) => (m : Int)) := hrow.nis (by omega) (fun m hm => by have := hr m hm; omega)
  have hlen : (l.map fun (m : Nat) => (m : Int)).length = l.length := by simp
  obtain ⟨Za, h⟩ := h
  have K := env_new h.swap a cap (l.map fun (m : Nat) => (m : Int)) (by rw [hlen]; exact hn) (by rw [hlen]; exact hl)
  rw [hlen] at K
  have e0 : newE L (l.map fun (m : Nat) => (m : Int)) = 0 := newE_ok (fun x hx => by
    obtain ⟨m, hm, rfl⟩ := List.mem_map.1 hx
    have := hr m hm
    exact thr_iff.2 (by omega))
  refine K.mono ?_
  rintro e W' ⟨p, rfl, hp⟩
  rw [e0]
  rcases hp with ⟨c, _⟩ | ⟨_, kb, Z, rfl, hE⟩
  · rw [e0] at c; cases c
  · refine ⟨kb, rfl, Za, Z, ?_⟩
    have hk : (fun (m : Nat) => (m : Int) ∈ l.map fun (m : Nat) => (m : Int)) = (fun m => m ∈ l) := by
      funext m
      apply propext
      constructor
      · intro c
        obtain ⟨y, hy, e⟩ := List.mem_map.1 c
        have : y = m := by omega
        rw [← this]; exact hy
      · intro c; exact List.mem_map.2 ⟨m, c, rfl⟩
    rw [hk] at hE
    exact (hE.sub (rs' := resK kb b L (fun m => m ∈ l) Z :: resS b sv mb L :: resK ka b L A Za :: [resR rb rv R]) (.cons_cons _ (.cons_cons _ (.cons_cons _ (.cons _ (.refl _)))))).flip3
end Go.Proofs.YtpcpcgagiapinaaGreatDoor.Tn

/- Things of one's own beside a store that came in: what a call keeps, and what it moves. Keys and seals in memory. No walk is in this text. -/
namespace Go.Proofs.YtpcpcgagiapinaaGreatDoor.Tn.Pa
open Go.RowKit Go.Maps
structure EF (F : List Nat) (w wr : World) (rs : List Res) : Prop where
  fr : Fr F w wr
  hold : ∀ r ∈ rs, r.P wr
  low : ∀ r ∈ rs, ∀ x ∈ r.Z, x ∈ F ∨ w.heap.size ≤ x
  dis : rs.Pairwise (fun r s => ∀ x ∈ r.Z, x ∉ s.Z)
theorem EF.one (w : World) (r : Res) (h : r.P w) : EF r.Z w w [r] := ⟨Fr.refl _ _, fun s hs => by simp at hs; subst hs; exact h, fun s hs x hx => by simp at hs; subst hs; exact Or.inl hx, by simp⟩
theorem EF.new {F : List Nat} {w wr w1 : World} {rs : List Res} (h : EF F w wr rs) (hb : Below wr.heap.size wr w1) : EF F w w1 rs :=
  ⟨h.fr.trans (Fr.ofBelow hb) (fun _ _ c => c) (fun _ _ c => by cases c), fun r hr => r.keep wr w1 [] (h.hold r hr) (Fr.ofBelow hb) (by simp), h.low, h.dis⟩
theorem EF.add {F : List Nat} {w wr w1 : World} {rs : List Res} (h : EF F w wr rs) (r : Res) (hb : Below wr.heap.size wr w1) (hP : r.P w1) (hn : ∀ x ∈ r.Z, wr.heap.size ≤ x) : EF F w w1 (r :: rs) := by
  have h1 := h.new hb
  have hs := h.fr.size
  refine ⟨h1.fr, ?_, ?_, ?_⟩
  · intro s hs
    rcases List.mem_cons.1 hs with rfl | hs
    · exact hP
    · exact h1.hold s hs
  · intro s hs' x hx
    rcases List.mem_cons.1 hs' with rfl | hs'
    · have := hn x hx; exact Or.inr (by omega)
    · exact h.low s hs' x hx
  · refine List.Pairwise.cons (fun s hs x hx c => ?_) h.dis
    have := hn x hx
    have := s.lt wr (h.hold s hs) x c
    omega
theorem EF.step {F : List Nat} {w wr w1 : World} {r r' : Res} {rs : List Res} (h : EF F w wr (r :: rs)) (hg : Mv wr w1 r.Z r'.Z) (hP : r'.P w1) : EF F w w1 (r' :: rs) := by
  have hd := List.pairwise_cons.1 h.dis
  have hl : ∀ x ∈ r.Z, x ∈ F ∨ w.heap.size ≤ x := h.low r (by simp)
  have hs := h.fr.size
  refine ⟨h.fr.trans hg.fr (fun _ _ c => c) (fun x hx c => (hl x c).resolve_right (by omega)), ?_, ?_, ?_⟩
  · intro s hs
    rcases List.mem_cons.1 hs with rfl | hs
    · exact hP
    · exact s.keep wr w1 r.Z (h.hold s (List.mem_cons_of_mem _ hs)) hg.fr (fun x hx c => hd.1 s hs x c hx)
  · intro s hs' x hx
    rcases List.mem_cons.1 hs' with rfl | hs'
    · rcases hg.place x hx with c | c
      · exact hl x c
      · exact Or.inr (by omega)
    · exact h.low s (List.mem_cons_of_mem _ hs') x hx
  · refine List.Pairwise.cons (fun s hs x hx c => ?_) hd.2
    rcases hg.place x hx with q | q
    · exact hd.1 s hs x q c
    · have := s.lt wr (h.hold s (List.mem_cons_of_mem _ hs)) x c; omega
theorem EF.perm {F : List Nat} {w wr : World} {rs rs' : List Res} (h : EF F w wr rs) (hp : rs.Perm rs') : EF F w wr rs' :=
  ⟨h.fr, fun r hr => h.hold r (hp.mem_iff.2 hr), fun r hr => h.low r (hp.mem_iff.2 hr), (hp.pairwise_iff (fun {_ _} hd x hx c => hd x c hx)).1 h.dis⟩
theorem perm_up {α : Type} {l : List α} {n : Nat} {a : α} (h : l[n]? = some a) : l.Perm (a :: l.eraseIdx n) := by
  induction l generalizing n with
  | nil => simp at h
  | cons b l ih =>
    cases n with
    | zero => simp at h; subst h; simp
    | succ n => exact ((ih (by simpa using h)).cons b).trans (List.Perm.swap a b _)
theorem EF.up {F : List Nat} {w wr : World} {rs : List Res} {r : Res} (h : EF F w wr rs) (n : Nat) (hn : rs[n]? = some r) : EF F w wr (r :: rs.eraseIdx n) := h.perm (perm_up hn)
theorem EF.nth {F : List Nat} {w wr : World} {rs : List Res} {r : Res} (h : EF F w wr rs) (n : Nat) (hn : rs[n]? = some r) : r.P wr := h.hold r (List.mem_of_getElem? hn)
theorem EF.hd {F : List Nat} {w wr : World} {r : Res} {rs : List Res} (h : EF F w wr (r :: rs)) : r.P wr := h.hold r (by simp)
theorem EF.drop {F : List Nat} {w wr : World} {r : Res} {rs : List Res} (h : EF F w wr (r :: rs)) : EF F w wr rs :=
  ⟨h.fr, fun q hq => h.hold q (List.mem_cons_of_mem _ hq), fun q hq => h.low q (List.mem_cons_of_mem _ hq), (List.pairwise_cons.1 h.dis).2⟩
theorem EF.sub {F : List Nat} {w wr : World} {rs rs' : List Res} (h : EF F w wr rs) (hs : rs'.Sublist rs) : EF F w wr rs' :=
  ⟨h.fr, fun q hq => h.hold q (hs.subset hq), fun q hq => h.low q (hs.subset hq), h.dis.sublist hs⟩
theorem EF.join {F : List Nat} {w wr w1 : World} {r : Res} {rs ns : List Res} (h : EF F w wr (r :: rs)) (k : EF r.Z wr w1 ns) : EF F w w1 (ns ++ rs) := by
  have hd := List.pairwise_cons.1 h.dis
  have hl : ∀ x ∈ r.Z, x ∈ F ∨ w.heap.size ≤ x := h.low r (by simp)
  have hs := h.fr.size
  refine ⟨h.fr.trans k.fr (fun _ _ c => c) (fun x hx c => (hl x c).resolve_right (by omega)), ?_, ?_, ?_⟩
  · intro s hs
    rcases List.mem_append.1 hs with hs | hs
    · exact k.hold s hs
    · exact s.keep wr w1 r.Z (h.hold s (List.mem_cons_of_mem _ hs)) k.fr (fun x hx c => hd.1 s hs x c hx)
  · intro s hs' x hx
    rcases List.mem_append.1 hs' with hs' | hs'
    · rcases k.low s hs' x hx with c | c
      · exact hl x c
      · exact Or.inr (by omega)
    · exact h.low s (List.mem_cons_of_mem _ hs') x hx
  · refine List.pairwise_append.2 ⟨k.dis, hd.2, fun s hs t ht x hx c => ?_⟩
    rcases k.low s hs x hx with q | q
    · exact hd.1 t ht x q c
    · have := t.lt wr (h.hold t (List.mem_cons_of_mem _ ht)) x c; omega
theorem Env.join {w wr w1 : World} {r : Res} {rs ns : List Res} (h : Env w wr (r :: rs)) (k : EF r.Z wr w1 ns) : Env w w1 (ns ++ rs) := by
  have hd := List.pairwise_cons.1 h.dis
  have hl : ∀ x ∈ r.Z, w.heap.size ≤ x := h.low r (by simp)
  have hs := h.bel.size
  refine ⟨Fr.toBase h.bel k.fr hl, ?_, ?_, ?_⟩
  · intro s hs
    rcases List.mem_append.1 hs with hs | hs
    · exact k.hold s hs
    · exact s.keep wr w1 r.Z (h.hold s (List.mem_cons_of_mem _ hs)) k.fr (fun x hx c => hd.1 s hs x c hx)
  · intro s hs' x hx
    rcases List.mem_append.1 hs' with hs' | hs'
    · rcases k.low s hs' x hx with c | c
      · exact hl x c
      · omega
    · exact h.low s (List.mem_cons_of_mem _ hs') x hx
  · refine List.pairwise_append.2 ⟨k.dis, hd.2, fun s hs t ht x hx c => ?_⟩
    rcases k.low s hs x hx with q | q
    · exact hd.1 t ht x q c
    · have := t.lt wr (h.hold t (List.mem_cons_of_mem _ ht)) x c; omega
def resW (e : TypeId) (c : Nat) (v : Value) (n : Nat) (xs : List Value) : Res := ⟨v.ownBlock.toList, fun w => w.ownsRow 0 e c v n xs, fun _ _ _ h hf hd => own_keep h (fun k hk => hf.block k (World.ownsRow.lt h k hk).2 (hd k (by simpa using hk))), fun _ h x hx => (World.ownsRow.lt h x (by simpa using hx)).2⟩
def resC (k : Nat) (cs : Array Value) (t : TypeId) : Res := ⟨[k], fun w => w.heap[k]? = some (.cells cs t (0, 0)), fun w w' S h hf hd => (hf.block k (lt_of_blk h) (hd k (by simp))).trans h, fun w h x hx => by simp at hx; subst hx; exact lt_of_blk h⟩
theorem own_base {B B' : Nat} {w : World} {e : TypeId} {c : Nat} {v : Value} {n : Nat} {xs : List Value} (h : w.ownsRow B e c v n xs) (hb : B' ≤ B) : w.ownsRow B' e c v n xs := by
  refine ⟨h.1, ?_⟩
  rcases h.2 with q | ⟨g, cap, cur, h1, h2, h3⟩
  · exact Or.inl q
  · exact Or.inr ⟨g, cap, cur, h1, Nat.le_trans hb h2, h3⟩
theorem mv_grown {W W5 : World} {v v' : Value} {ob : Obj} (hg : (W.alloc ob).grownBy W5 v.ownBlock) (hat : v'.ownBlock = v.ownBlock ∨ v'.ownBlock = some (W.alloc ob).heap.size) : Mv W W5 v.ownBlock.toList v'.ownBlock.toList := by
  refine ⟨((Fr.refl v.ownBlock.toList W).alloc ob).tr (Fr.ofGrown hg), fun x hx => ?_⟩
  rcases hat with c | c
  · rw [c] at hx; exact Or.inl hx
  · rw [c] at hx; simp at hx; right; omega
theorem EF.grow {F : List Nat} {w W W5 : World} {e : TypeId} {c n n' : Nat} {v v' : Value} {xs xs' : List Value} {rs : List Res} {ob : Obj} (h : EF F w W (resW e c v n xs :: rs)) (hown : W5.ownsRow 0 e c v' n' xs') (hg : (W.alloc ob).grownBy W5 v.ownBlock) (hat : v'.ownBlock = v.ownBlock ∨ v'.ownBlock = some (W.alloc ob).heap.size) : EF F w W5 (resW e c v' n' xs' :: rs) :=
  h.step (r' := resW e c v' n' xs') (mv_grown hg hat) hown
theorem EF.poke {F : List Nat} {w W : World} {k i : Nat} {cs : Array Value} {t : TypeId} {rs : List Res} (h : EF F w W (resC k cs t :: rs)) (v : Value) : EF F w (W.setCell ⟨k, i, none⟩ v) (resC k (cs.setIfInBounds i v) t :: rs) :=
  h.step (r' := resC k (cs.setIfInBounds i v) t) ⟨(Fr.refl _ _).setCell (a := ⟨k, i, none⟩) (Or.inr (by simp [resC])) v, fun _ hx => Or.inl hx⟩ (poke_blk h.hd v)
theorem EF.term {F : List Nat} {w W W' : World} {b : Nat} {sv sv' : Value} {mb : Nat} {L L' : List Tm} {rs : List Res} (h : EF F w W (resS b sv mb L :: rs)) (s : SStep W W' b sv sv' mb L') : EF F w W' (resS b sv' mb L' :: rs) := h.step (r' := resS b sv' mb L') (go_S s) s.st
theorem EF.rw {F : List Nat} {w W W' : World} {b : Nat} {sv sv' : Value} {mb : Nat} {L L' : List Tm} {lv : Value} {acc : List Nat} {rs : List Res} (h : EF F w W (resS b sv mb L :: rs)) (k : RW W W' b sv sv' mb L' lv acc) : EF F w W' (resS b sv' mb L' :: resN lv acc :: rs) := by
  refine EF.join (ns := [resS b sv' mb L', resN lv acc]) h ⟨k.s.fr, ?_, ?_, ?_⟩
  · intro r hr
    simp at hr
    rcases hr with rfl | rfl
    · exact k.s.st
    · exact nrow_mono k.r (Nat.zero_le _)
  · intro r hr x hx
    simp at hr
    rcases hr with rfl | rfl
    · rcases (go_S k.s).place x hx with c | c
      · exact Or.inl c
      · exact Or.inr c
    · exact Or.inr (k.r.lt x (by simpa [resN] using hx)).1
  · refine List.Pairwise.cons (fun s hs x hx c => ?_) (by simp)
    simp at hs
    subst hs
    obtain ⟨cur, e⟩ := k.r.block (k := x) (by simpa [resN] using c)
    exact k.s.st.notin e (by decide) (by decide) hx
theorem EF.newC {F : List Nat} {w W : World} {rs : List Res} (h : EF F w W rs) (cs : Array Value) (t : TypeId) : EF F w (W.alloc (.cells cs t)) (resC W.heap.size cs t :: rs) :=
  h.add (resC W.heap.size cs t) (bwA' _ _) (heap_alloc_new _ _) (by intro x hx; simp [resC] at hx; omega)
theorem EF.nilW {F : List Nat} {w W : World} {rs : List Res} (h : EF F w W rs) (e : TypeId) (c : Nat) : EF F w W (resW e c (.slice none 0 0) 0 [] :: rs) :=
  h.add (resW e c (.slice none 0 0) 0 []) (Below.refl _ _) (World.ownsRow_nil _ _ _ _) (by intro x hx; simp [resW, Value.ownBlock] at hx)
def kyC (p : Int × Int) : List Value := [.int .i64 p.1, .int .i64 p.2]
def slC (q : Int × Int × Int) : List Value := [.int .i64 q.1, .int .i64 q.2.1, .int .i64 q.2.2]
def kysC (l : List (Int × Int)) : List Value := l.flatMap kyC
def slsC (l : List (Int × Int × Int)) : List Value := l.flatMap slC
theorem kysC_len (l : List (Int × Int)) : (kysC l).length = l.length * 2 := by
  induction l with
  | nil => rfl
  | cons t l ih => unfold kysC at ih ⊢; simp only [List.flatMap_cons, List.length_append, ih, List.length_cons]; simp [kyC]; omega
theorem kysC_snoc (l : List (Int × Int)) (p : Int × Int) : kysC (l ++ [p]) = kysC l ++ [.int .i64 p.1, .int .i64 p.2] := by simp [kysC, kyC]
theorem slsC_snoc (l : List (Int × Int × Int)) (p : Int × Int × Int) : slsC (l ++ [p]) = slsC l ++ [.int .i64 p.1, .int .i64 p.2.1, .int .i64 p.2.2] := by simp [slsC, slC]
theorem kysC_get {l : List (Int × Int)} {i : Nat} {p : Int × Int} (h : l[i]? = some p) : (kysC l)[i * 2]? = some (.int .i64 p.1) ∧ (kysC l)[i * 2 + 1]? = some (.int .i64 p.2) := by
  induction l generalizing i with
  | nil => simp at h
  | cons u l ih =>
    cases i with
    | zero => simp at h; subst h; simp [kysC, kyC]
    | succ i =>
      have := ih (i := i) (by simpa using h)
      have e0 : (i + 1) * 2 = i * 2 + 1 + 1 := by omega
      have e1 : (i + 1) * 2 + 1 = i * 2 + 1 + 1 + 1 := by omega
      unfold kysC at this ⊢
      rw [e0]
      simp only [List.flatMap_cons, kyC, List.cons_append, List.nil_append, List.getElem?_cons_succ]
      exact this
theorem slsC_get {l : List (Int × Int × Int)} {i : Nat} {p : Int × Int × Int} (h : l[i]? = some p) : (slsC l)[i * 3]? = some (.int .i64 p.1) ∧ (slsC l)[i * 3 + 1]? = some (.int .i64 p.2.1) ∧ (slsC l)[i * 3 + 2]? = some (.int .i64 p.2.2) := by
  induction l generalizing i with
  | nil => simp at h
  | cons u l ih =>
    cases i with
    | zero => simp at h; subst h; simp [slsC, slC]
    | succ i =>
      have := ih (i := i) (by simpa using h)
      have e0 : (i + 1) * 3 = i * 3 + 1 + 1 + 1 := by omega
      unfold slsC at this ⊢
      rw [e0]
      simp only [List.flatMap_cons, slC, List.cons_append, List.nil_append, List.getElem?_cons_succ]
      exact this
theorem infoKey : (Tryz.prog.info? 71).map (fun i => (i.zero, i.size, i.bytes)) = some (some (.agg #[.int .i64 0, .int .i64 0]), 2, 16) := by kernel_rfl
theorem infoSeal : (Tryz.prog.info? 76).map (fun i => (i.zero, i.size, i.bytes)) = some (some (.agg #[.int .i64 0, .int .i64 0, .int .i64 0]), 3, 24) := by kernel_rfl
theorem cells_new3 (w : World) (a b c : Value) (t : TypeId) : ∀ j u, [a, b, c][j]? = some u → (w.alloc (.cells #[a, b, c] t)).cell? ((⟨w.heap.size, 0, none⟩ : Addr).add j) = some u := by
  intro j u hj
  have e := heap_alloc_new w (.cells #[a, b, c] t)
  match j, hj with
  | 0, hj => simp at hj; subst hj; exact blk_cell (i := 0) e rfl
  | 1, hj => simp at hj; subst hj; exact blk_cell (i := 1) e rfl
  | 2, hj => simp at hj; subst hj; exact blk_cell (i := 2) e rfl
end Go.Proofs.YtpcpcgagiapinaaGreatDoor.Tn.Pa
