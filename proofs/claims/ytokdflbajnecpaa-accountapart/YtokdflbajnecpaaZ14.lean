/- Texts joined: NDdG NDdH NDdI. -/
import Derived.Test.YtokdflbajnecpaaZ13
import Derived.Lib.SliceRun
import Derived.Test.YtokdflbajnecpaaZ03
/- Contracts of Clone, New and Follows of package deduce. -/
namespace Go.Proofs.Ytokdflbajnecpaa.Tn
open Go.RowKit Go.Maps
theorem list_nil (b : Nat) (sv : Value) (mb : Nat) (L : List Tm) (a : Option Addr) (cap : Nat) (w : World) (h : St w b sv mb L) :
    Calls Try.prog 63 #[.pointer (some ⟨b, 0, none⟩), .slice a 0 cap] w fun e w' => e = .returned (.tuple #[.int .i64 0, .int .i64 0]) ∧ w' = w := by
  have K := missing_any b sv mb L w h
  clear h
  go_enter Try.func63, Try.ntmps63
  go_wp2_with fail
  refine K.mono ?_
  rintro e w ⟨rfl, rfl⟩
  go_wp2_with fail
  go_loopw [15] (fun iv wr => iv = .int .i64 0 ∧ wr = w) (fun _ _ => 0)
  case atStart => exact ⟨rfl, rfl⟩
  case round =>
    obtain ⟨rfl, hwr⟩ := hrel
    obtain rfl : w = wr := hwr.symm
    go_wp2_with fail
    go_ret2
    exact ⟨rfl, rfl⟩
theorem dmissing_any (b : Nat) (sv : Value) (mb : Nat) (L : List Tm) (w : World) (h : St w b sv mb L) :
    Calls Try.prog 55 #[.pointer (some ⟨b, 0, none⟩)] w fun e w' => e = .returned (.bool false) ∧ w' = w := by
  have K := list_nil b sv mb L none 0 w h
  clear h
  go_enter Try.func55, Try.ntmps55
  go_wp2_with fail
  refine K.mono ?_
  rintro e w ⟨rfl, rfl⟩
  go_wp2_with fail
  go_ret
  exact ⟨rfl, rfl⟩
theorem clone_any (v : Value) (l : List Nat) (w : World) (h : NIs w v (l.map fun (m : Nat) => (m : Int))) (hl : l.length ≤ 65536) :
    Calls Try.prog 58 #[v] w fun e w' => ∃ v', e = .returned v' ∧ NRow 0 w' v' l ∧ Below w.heap.size w w' ∧ ∀ k, v'.ownBlock = some k → w.heap.size ≤ k := by
  obtain ⟨j0, hj, hy0, hy1, hyb⟩ := info_parts Try.infoInt
  obtain ⟨a, cap, rfl, _, _, hc⟩ := h
  have hlen : (l.map fun (m : Nat) => (m : Int)).length = l.length := by simp
  rw [hlen]
  have hnil := fun (W : World) => Lib.run_eql_slice_nil (P := Try.prog) W 24 3 a l.length cap 0 0 Try.underlying24
  cases a with
  | none =>
    have hl0 : l = [] := by
      rcases hc with c | ⟨g, o, c, _⟩
      · simpa using c
      · cases c
    subst hl0
    clear hc
    simp only [List.length_nil, Option.isNone_none] at hnil ⊢
    go_enter Try.func58, Try.ntmps58
    go_wp2_with fail
    go_ret
    exact ⟨_, rfl, World.ownsRow_nil _ _ _ _, Below.refl _ _, by simp [Value.ownBlock]⟩
  | some ad =>
    have hcell : ∀ (W : World), Below w.heap.size w W → ∀ j u, (l.map (fun m => Value.int .i64 ((m : Nat) : Int)))[j]? = some u → W.cell? (ad.add j) = some u := by
      intro W hW j u hj
      rcases hc with c | ⟨g, o, c, hc⟩
      · have : l = [] := by simpa using c
        subst this; simp at hj
      · simp at c; subst c
        simp only [List.getElem?_map, Option.map_eq_some_iff] at hj
        obtain ⟨m, hm, rfl⟩ := hj
        have := hc j (m : Int) (by simp [hm])
        have e : (⟨g, o, none⟩ : Addr).add j = ⟨g, o + j, none⟩ := by unfold Addr.add; by_cases hz : j = 0 <;> simp [hz]
        rw [e, World.cell?_of_block (w := w) (hW.block _ (lt_of_cell this))]
        exact this
    have hrow := World.ownsRow_made (base := w.heap.size) (e := 3) (size := 1) w #[] 0 (Nat.le_refl _) (by unfold maxLen; omega) rfl
    have hone : ∀ u ∈ l.map (fun m => Value.int .i64 ((m : Nat) : Int)), u.oneCell' = true := by
      intro u hu; obtain ⟨m, _, rfl⟩ := List.mem_map.1 hu; rfl
    have HH := hide (And.intro hcell (And.intro hone hl))
    clear hc hcell hone
    go_enter Try.func58, Try.ntmps58
    go_wp2_with (at_builtin; refine wpList_append_own_at _ rfl (.tmp 5) (.tmp 6) 24 rfl w.heap.size 3 j0 (.int .i64 0) 1 8 Try.underlying24 hj hy0 hy1 hyb rfl (by decide) _ 0 [] rfl hrow ad l.length cap (l.map (fun m => Value.int .i64 ((m : Nat) : Int))) rfl (by simp) ((unhide HH).1 _ (bw_alloc _ _)) (unhide HH).2.1 ?c3 ?c4 ?c5 ?nx)
    case c3 => have := (unhide HH).2.2; unfold maxLen; omega
    case c4 => have := (unhide HH).2.2; omega
    case c5 => simp
    case nx =>
      intro v' w3 hown' hgrow _ hat
      have hb3 : Below w.heap.size w w3 := (bw_alloc w _).grown hgrow (by simp) (fun k hk => by simp [Value.ownBlock] at hk; omega)
      have hown2 : w3.ownsRow w.heap.size 3 1 v' l.length (l.map (fun m => Value.int .i64 ((m : Nat) : Int))) := by simpa using hown'
      have hlt := fun k hk => (World.ownsRow.lt hown2 k hk).1
      have hr0 : NRow 0 w3 v' l := by
        refine ⟨hown2.1, ?_⟩
        rcases hown2.2 with c | ⟨g, cp, cur, c1, _, c3⟩
        · exact Or.inl c
        · exact Or.inr ⟨g, cp, cur, c1, Nat.zero_le _, c3⟩
      clear hown' hgrow hat hown2
      go_wp2_with fail
      go_ret
      exact ⟨_, rfl, hr0, hb3, hlt⟩
def newE (L : List Tm) (l : List Int) : Int := if l.all (thr L.length) = true then 0 else 1
theorem newE_ok {L : List Tm} {l : List Int} (h : ∀ x ∈ l, thr L.length x = true) : newE L l = 0 := by
  unfold newE; rw [if_pos (List.all_eq_true.2 h)]
theorem newE_bad {L : List Tm} {l : List Int} {x : Int} (hx : x ∈ l) (h : thr L.length x = false) : newE L l = 1 := by
  unfold newE
  rw [if_neg]
  intro c
  have := List.all_eq_true.1 c x hx
  rw [h] at this; cases this
def NewP (w w' : World) (b : Nat) (L : List Tm) (l : List Int) (p : Option Addr) : Prop :=
  (newE L l = 1 ∧ p = none) ∨ (newE L l = 0 ∧ ∃ kb Z, p = some ⟨kb, 0, none⟩ ∧ KS w' kb b L (fun m => (m : Int) ∈ l) Z ∧ ∀ x ∈ Z, w.heap.size ≤ x)
theorem kn_start (w : World) (b : Nat) (c : Bool) (hc : c = true) : Kn ((((w.alloc (.cells #[.bool c] 4)).alloc (.cells #[.int .i64 0] 3)).alloc (.cells #[.int .i64 0, .int .i64 0] 94)).alloc (.cells #[.pointer (some ⟨b, 0, none⟩), .slice (some ⟨w.heap.size, 0, none⟩) 1 1, .slice (some ⟨w.heap.size + 1, 0, none⟩) 1 1, .slice (some ⟨w.heap.size + 1 + 1, 0, none⟩) 1 1] 97))
    (w.heap.size + 1 + 1 + 1) (.slice (some ⟨w.heap.size, 0, none⟩) 1 1) (.slice (some ⟨w.heap.size + 1, 0, none⟩) 1 1) (.slice (some ⟨w.heap.size + 1 + 1, 0, none⟩) 1 1) b [true] [0] [(0, 0)] := by
  subst hc
  have e1 : (w.alloc (.cells #[.bool true] 4)).heap.size = w.heap.size + 1 := by simp
  have e2 : ((w.alloc (.cells #[.bool true] 4)).alloc (.cells #[.int .i64 0] 3)).heap.size = w.heap.size + 1 + 1 := by simp
  have e3 : (((w.alloc (.cells #[.bool true] 4)).alloc (.cells #[.int .i64 0] 3)).alloc (.cells #[.int .i64 0, .int .i64 0] 94)).heap.size = w.heap.size + 1 + 1 + 1 := by simp
  refine ⟨by rw [← e3]; exact heap_alloc_new _ _, ⟨rfl, Or.inr ⟨_, 1, #[.bool true], rfl, Nat.zero_le _, ?_, Nat.le_refl _, by unfold maxLen; omega, rfl, rfl⟩⟩, ⟨rfl, Or.inr ⟨_, 1, #[.int .i64 0], rfl, Nat.zero_le _, ?_, Nat.le_refl _, by unfold maxLen; omega, rfl, rfl⟩⟩, ⟨rfl, Or.inr ⟨_, 1, #[.int .i64 0, .int .i64 0], rfl, Nat.zero_le _, ?_, Nat.le_refl _, by unfold maxLen; omega, rfl, rfl⟩⟩⟩
  · rw [Below.heap_alloc _ _ _ (by simp only [World.size_alloc]; omega), Below.heap_alloc _ _ _ (by simp only [World.size_alloc]; omega), Below.heap_alloc _ _ _ (by simp only [World.size_alloc]; omega)]; exact heap_alloc_new _ _
  · rw [Below.heap_alloc _ _ _ (by simp only [World.size_alloc]; omega), Below.heap_alloc _ _ _ (by simp only [World.size_alloc]; omega), ← e1]; exact heap_alloc_new _ _
  · rw [Below.heap_alloc _ _ _ (by simp only [World.size_alloc]; omega), ← e2]; exact heap_alloc_new _ _
set_option maxRecDepth 100000 in
set_option maxHeartbeats 8000000 in
theorem kNew_any (b : Nat) (sv : Value) (mb : Nat) (L : List Tm) (a : Option Addr) (cap : Nat) (l : List Int) (w : World) (hS : St w b sv mb L) (h : NIs w (.slice a l.length cap) l) (hl : l.length ≤ 65536) :
    Calls Try.prog 23 #[.pointer (some ⟨b, 0, none⟩), .slice a l.length cap] w fun e w' => ∃ p, e = .returned (.tuple #[.pointer p, .int .i64 (newE L l)]) ∧ Below w.heap.size w w' ∧ NewP w w' b L l p := by
  have K0 := dmissing_any b sv mb L w hS
  have hcell : ∀ i z, l[i]? = some z → ∃ g o, a = some ⟨g, o, none⟩ ∧ ∀ W, Below w.heap.size w W → W.cell? ⟨g, o + i, none⟩ = some (.int .i64 z) := by
    intro i z hz
    obtain ⟨a', cap', hv, _, _, hc⟩ := h
    cases hv
    rcases hc with c | ⟨g, o, rfl, hc⟩
    · rw [c] at hz; simp at hz
    · refine ⟨g, o, rfl, fun W hW => ?_⟩
      have := hc i z hz
      rw [World.cell?_of_block (w := w) (hW.block _ (lt_of_cell this))]; exact this
  obtain ⟨N, hN⟩ : ∃ N, N = l.length := ⟨_, rfl⟩
  rw [← hN]
  have hNb : (N : Int) ≤ 65536 := by omega
  obtain ⟨er, her⟩ : ∃ er, er = newE L l := ⟨_, rfl⟩
  rw [← her]
  have HI := hide (And.intro hS (And.intro h (And.intro hl (And.intro hcell (And.intro hN her)))))
  clear hS h hl hcell hN her
  go_enter Try.func23, Try.ntmps23
  go_wp2_with fail
  refine K0.mono ?_
  rintro e w ⟨rfl, rfl⟩
  clear K0
  go_wp2_with fail
  go_loopw [18] (fun iv wr => ∃ i : Nat, iv = .int .i64 (i : Int) ∧ i ≤ N ∧ Hid (Below w.heap.size w wr ∧ ∀ x ∈ l.take i, thr L.length x = true)) (fun iv _ => (N - intOf iv).toNat)
  case atStart => exact ⟨0, rfl, by omega, Below.refl _ _, by simp⟩
  case round =>
    obtain ⟨i, rfl, hi, HR⟩ := hrel
    by_cases hlt : i < N
    · obtain ⟨hS, h, hl, hcell, hN, her⟩ := unhide HI
      obtain ⟨z, hz⟩ : ∃ z, l[i]? = some z := ⟨_, List.getElem?_eq_getElem (by omega)⟩
      obtain ⟨g, o, rfl, hc⟩ := hcell i z hz
      have cz := hc wr (unhide HR).1
      have KG := get_any b sv mb L z wr (hS.bw (unhide HR).1)
      have hi1 : (i : Int) < (N : Int) := by omega
      cases hth : thr L.length z
      · rw [hth] at KG
        have HE : Hid (newE L l = 1 ∧ er = 1) := by
          have e := newE_bad (List.mem_of_getElem? hz) hth
          exact ⟨e, by rw [her, e]⟩
        generalize getT L z = t at *
        clear hS h hl hcell hN her hz hc hth HI
        go_wp2_with fail
        refine KG.mono ?_
        rintro e w1 ⟨rfl, b1⟩
        have b2 := bw_tr (unhide HR).1 (b1.alloc b1.size (.cells #[.int .u8 t.kd, .int .i64 t.n, .int .i64 t.a, .int .i64 t.b] 55))
        clear KG b1 cz
        go_wp2_with fail
        refine bodyPost_ret (v := .tuple #[.pointer none, .int .i64 1]) (by simp [results, Try.results23, go_sem]) rfl ⟨none, by rw [(unhide HE).2], b2, Or.inl ⟨(unhide HE).1, rfl⟩⟩
      · rw [hth] at KG
        have HT : Hid (∀ x ∈ l.take (i + 1), thr L.length x = true) := by
          intro x hx
          rw [List.take_add_one, hz] at hx
          rcases List.mem_append.1 hx with c | c
          · exact (unhide HR).2 x c
          · simp at c; rw [c]; exact hth
        generalize getT L z = t at *
        clear hS h hl hcell hN her hz hc hth
        go_wp2_with fail
        refine KG.mono ?_
        rintro e w1 ⟨rfl, b1⟩
        have b2 := bw_tr (unhide HR).1 (b1.alloc b1.size (.cells #[.int .u8 t.kd, .int .i64 t.n, .int .i64 t.a, .int .i64 t.b] 55))
        have HB := hide b2
        clear KG b1 cz b2
        go_wp2_with fail
        go_roundw
        case rel => exact ⟨i + 1, by go_num, by omega, unhide HB, unhide HT⟩
        case measure => simp only [intOf]; omega
    · obtain rfl : i = N := by omega
      obtain ⟨hS, h, hl, hcell, hN, her⟩ := unhide HI
      obtain ⟨hbr, hall⟩ := unhide HR
      rw [List.take_of_length_le (by omega)] at hall
      obtain ⟨nl, hnl⟩ : ∃ nl : List Nat, l = nl.map (fun (m : Nat) => (m : Int)) := by
        refine ⟨l.map Int.toNat, ?_⟩
        rw [List.map_map]
        conv => lhs; rw [← List.map_id l]
        exact List.map_congr_left fun x hx => by have := thr_iff.1 (hall x hx); simp; omega
      have hs1 := hS.bw hbr
      have b2 : Below wr.heap.size wr ((((wr.alloc (.cells #[.bool true] 4)).alloc (.cells #[.int .i64 0] 3)).alloc (.cells #[.int .i64 0, .int .i64 0] 94)).alloc (.cells #[.pointer (some ⟨b, 0, none⟩), .slice (some ⟨wr.heap.size, 0, none⟩) 1 1, .slice (some ⟨wr.heap.size + 1, 0, none⟩) 1 1, .slice (some ⟨wr.heap.size + 1 + 1, 0, none⟩) 1 1] 97)) :=
        bw_tr (bw_tr (bw_tr (bw_alloc _ _) (bw_alloc _ _)) (bw_alloc _ _)) (bw_alloc _ _)
      have hz0 : ∀ y ∈ kfoot (wr.heap.size + 1 + 1 + 1) (.slice (some ⟨wr.heap.size, 0, none⟩) 1 1) (.slice (some ⟨wr.heap.size + 1, 0, none⟩) 1 1) (.slice (some ⟨wr.heap.size + 1 + 1, 0, none⟩) 1 1), wr.heap.size ≤ y := by
        intro y hy
        rcases mem_kfoot.1 hy with c | c | c | c
        · omega
        · simp [Value.ownBlock] at c; omega
        · simp [Value.ownBlock] at c; omega
        · simp [Value.ownBlock] at c; omega
      have KR := read_any (wr.heap.size + 1 + 1 + 1) _ _ _ b [true] [0] [(0, 0)] sv mb L none1 _ (kn_start wr b true rfl) (lk_start L) (sm_start L) (hs1.bw b2) (fun y hy c => by have := hz0 y hy; have := hs1.lt y c; omega)
      have HJ := hide (And.intro hbr (And.intro hall (And.intro hnl (And.intro hs1 (And.intro b2 hz0)))))
      clear hS h hl hcell hN her hbr hall hnl hs1 b2 hz0 HR
      go_wp2_with fail
      refine KR.mono ?_
      rintro e w2 ⟨rfl, fv2, tv2, lv2, F2, fs2, ls2, k2, l2, s2, n2⟩
      clear KR
      have HK2 := hide (And.intro k2 (And.intro l2 (And.intro s2 n2)))
      have HB2 : Hid (Below wr.heap.size wr w2 ∧ ∀ y ∈ kfoot (wr.heap.size + 1 + 1 + 1) fv2 tv2 lv2, wr.heap.size ≤ y) := by
        obtain ⟨hbr, hall, hnl, hs1, b2, hz0⟩ := unhide HJ
        refine ⟨Fr.toBase b2 k2.mv.fr hz0, fun y hy => ?_⟩
        rcases k2.mv.place y hy with c | c
        · exact hz0 y c
        · have := b2.size; omega
      have KC : Calls Try.prog 58 #[.slice a i cap] w2 fun e w' => ∃ v', e = .returned v' ∧ NRow 0 w' v' nl ∧ Below w2.heap.size w2 w' ∧ ∀ k, v'.ownBlock = some k → w2.heap.size ≤ k := by
        obtain ⟨hS, h, hl, hcell, hN, her⟩ := unhide HI
        obtain ⟨hbr, hall, hnl, hs1, b2, hz0⟩ := unhide HJ
        have h2 := h.bw (bw_tr hbr (unhide HB2).1)
        rw [← hN] at h2
        refine clone_any _ nl w2 (by rw [← hnl]; exact h2) (by rw [hnl] at hl; simpa using hl)
      clear k2 l2 s2 n2
      go_wp2_with fail
      refine KC.mono ?_
      rintro e w3 ⟨v3, rfl, r3, b3, p3⟩
      obtain ⟨K', hK'⟩ : ∃ K' : Nat → Prop, K' = (fun (m : Nat) => (m : Int) ∈ l) := ⟨_, rfl⟩
      have KN : Calls Try.prog 57 #[.pointer (some ⟨wr.heap.size + 1 + 1 + 1, 0, none⟩), v3] w3 fun e w' => e = .returned (.tuple #[]) ∧ ∃ F' v' l', Le w3 w' (wr.heap.size + 1 + 1 + 1) b sv mb L fv2 tv2 lv2 v3 v' l' F' fs2 ls2 ∧ Lk L F' fs2 ls2 none2 0 ∧ Sm L K' F' [] none1 ∧ F'.length = F2.length := by
        obtain ⟨hS, h, hl, hcell, hN, her⟩ := unhide HI
        obtain ⟨hbr, hall, hnl, hs1, b2, hz0⟩ := unhide HJ
        obtain ⟨k2, l2, s2, n2⟩ := unhide HK2
        have k3 := k2.new b3
        have hln : nl.length ≤ 65536 := by rw [hnl] at hl; simpa using hl
        refine learn_any _ fv2 tv2 lv2 b F2 fs2 ls2 sv mb L K' v3 nl w3 k3.kn k3.st k3.dis l2 r3 (fun k hk => ?_) (s2.learn hS.good n2 (fun m hm => ?_) (fun m => ?_)) ?_
        · have := p3 k hk
          exact ⟨fun c => by have := k2.kn.lt _ c; omega, fun c => by have := k2.st.lt _ c; omega⟩
        · have := thr_iff.1 (hall (m : Int) (by rw [hnl]; exact List.mem_map.2 ⟨m, hm, rfl⟩)); omega
        · rw [hK', hnl]
          constructor
          · intro c
            obtain ⟨y, hy, e⟩ := List.mem_map.1 c
            exact Or.inr (by have : y = m := by omega
                             rw [← this]; exact hy)
          · rintro (c | c)
            · exact c.elim
            · exact List.mem_map.2 ⟨m, c, rfl⟩
        · have := l2.cap hS.len; omega
      have HE : Hid (∀ W F' v' l', Le w3 W (wr.heap.size + 1 + 1 + 1) b sv mb L fv2 tv2 lv2 v3 v' l' F' fs2 ls2 → Lk L F' fs2 ls2 none2 0 → Sm L K' F' [] none1 → er = 0 ∧ Below w.heap.size w W ∧ NewP w W b L l (some ⟨wr.heap.size + 1 + 1 + 1, 0, none⟩)) := by
        intro W F' v' l' e1 e2 e3
        obtain ⟨hS, h, hl, hcell, hN, her⟩ := unhide HI
        obtain ⟨hbr, hall, hnl, hs1, b2, hz0⟩ := unhide HJ
        have e0 := newE_ok hall
        have hsz := hbr.size
        have hsz2 := (unhide HB2).1.size
        refine ⟨by rw [her, e0], ?_, Or.inr ⟨e0, _, _, rfl, by rw [← hK']; exact e1.done e2 e3, fun y hy => by have := (unhide HB2).2 y hy; omega⟩⟩
        refine bw_tr hbr (Fr.toBase (bw_tr (unhide HB2).1 b3) e1.fr (fun y hy => ?_))
        rcases List.mem_append.1 hy with c | c
        · exact (unhide HB2).2 y c
        · have := p3 y (by simpa using c); omega
      clear KC r3 b3 p3 hK'
      go_wp2_with fail
      refine KN.mono ?_
      rintro e w4 ⟨rfl, F', v', l', e1, e2, e3, _⟩
      have HF := unhide HE _ _ _ _ e1 e2 e3
      clear KN e1 e2 e3
      go_wp2_with fail
      refine bodyPost_ret (v := .tuple #[.pointer (some ⟨wr.heap.size + 1 + 1 + 1, 0, none⟩), .int .i64 0]) (by simp [results, Try.results23, go_sem]) rfl ⟨_, by rw [HF.1], HF.2.1, HF.2.2⟩
end Go.Proofs.Ytokdflbajnecpaa.Tn

/- The contract of Follows; what is known beside its store and other things; the chapter's example. -/
namespace Go.Proofs.Ytokdflbajnecpaa.Tn
open Go.RowKit Go.Maps
end Go.Proofs.Ytokdflbajnecpaa.Tn

/- The chapter's example lives; what is known beside its store and other things, as the laws keep it. -/
namespace Go.Proofs.Ytokdflbajnecpaa.Tn
open Go.RowKit Go.Maps
def resR (rb : Nat) (rv : Value) (R : List Tm) : Res := ⟨rfoot rb rv, fun w => Rs w rb rv R, fun _ _ _ h hf hd => h.keep hf hd, fun _ h => h.lt⟩
theorem Env.ofTwo {w wr : World} {b : Nat} {sv : Value} {mb rb : Nat} {rv : Value} {L R : List Tm} (h : Two w wr b sv mb rb rv L R) : Env w wr [resS b sv mb L, resR rb rv R] := by
  refine ⟨h.bel, ?_, ?_, ?_⟩
  · intro r hr
    simp at hr
    rcases hr with rfl | rfl
    · exact h.st
    · exact h.rs
  · intro r hr
    simp at hr
    rcases hr with rfl | rfl
    · exact h.low
    · exact h.rlow
  · simp only [List.pairwise_cons, List.mem_singleton, forall_eq, List.not_mem_nil, false_imp_iff, implies_true, List.Pairwise.nil, and_self, and_true]
    exact h.dis
theorem env_has {w W : World} {kb b : Nat} {sv : Value} {mb : Nat} {L : List Tm} {K : Nat → Prop} {Z : List Nat} {rs : List Res} (h : Env w W (resK kb b L K Z :: resS b sv mb L :: rs)) (x : Int) :
    Calls Try.prog 24 #[.pointer (some ⟨kb, 0, none⟩), .int .i64 x] W fun e W' => e = .returned (.bool (hasB L K x)) ∧ ∃ Z', Env w W' (resK kb b L K Z' :: resS b sv mb L :: rs) := by
  refine (kHas_any kb b sv mb L K Z x W h.hd h.sd h.apart).mono ?_
  rintro e W' ⟨rfl, Z', k, m⟩
  exact ⟨rfl, Z', h.step (r' := resK kb b L K Z') m k⟩
theorem env_new {w W : World} {b : Nat} {sv : Value} {mb : Nat} {L : List Tm} {rs : List Res} (h : Env w W (resS b sv mb L :: rs)) (a : Option Addr) (cap : Nat) (l : List Int) (hv : NIs W (.slice a l.length cap) l) (hl : l.length ≤ 65536) :
    Calls Try.prog 23 #[.pointer (some ⟨b, 0, none⟩), .slice a l.length cap] W fun e W' => ∃ p, e = .returned (.tuple #[.pointer p, .int .i64 (newE L l)]) ∧ ((newE L l = 1 ∧ p = none ∧ Env w W' (resS b sv mb L :: rs)) ∨ (newE L l = 0 ∧ ∃ kb Z, p = some ⟨kb, 0, none⟩ ∧ Env w W' (resK kb b L (fun m => (m : Int) ∈ l) Z :: resS b sv mb L :: rs))) := by
  refine (kNew_any b sv mb L a cap l W h.hd hv hl).mono ?_
  rintro e W' ⟨p, rfl, hb, hp⟩
  refine ⟨p, rfl, ?_⟩
  rcases hp with ⟨e1, rfl⟩ | ⟨e1, kb, Z, rfl, hk, hz⟩
  · exact Or.inl ⟨e1, rfl, h.new hb⟩
  · exact Or.inr ⟨e1, kb, Z, rfl, h.add (resK kb b L _ Z) hb hk hz⟩
end Go.Proofs.Ytokdflbajnecpaa.Tn
