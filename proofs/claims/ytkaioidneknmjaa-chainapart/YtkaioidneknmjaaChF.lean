/- The contract of goOn. -/
import Derived.Test.YtkaioidneknmjaaChE
namespace Go.Proofs.Ytkaioidneknmjaa.Tn
open Go.RowKit Go.Maps

/-- The chain's store has taken a step: what is so then. -/
theorem CS.go {w : World × List Nat} {W W1 z : World} {c b : Nat} {sv : Value} {mb lm : Nat} {L : List Tm} {l : Lfs} {nx x q1 q2 lb M y : Nat} {a : Option Addr} {cap : Nat} (h : CS w W c b sv mb lm L l nx x) (hb : Below W.heap.size W W1)
    (k1 : W1.heap[q1]? = some (.cells #[.pointer (some ⟨c, 0, none⟩)] 41 (0, 0))) (k2 : W1.heap[q2]? = some (.cells #[.int .i64 (M : Int)] 3 (0, 0)))
    (s : StrP W1 z b sv mb (L, x) M a cap) (k3 : z.heap[lb]? = some (.cells (strC (.slice a M cap) y) 95 (0, 0))) : ∃ sv', GO w z c b sv' mb lm (wkS (L, x) M).1 l nx x q1 q2 lb M y a cap (wkK (L, x) M) := by
  obtain ⟨sv', s1, r⟩ := s
  have h0 := h.new hb
  have h1 := h0.stepS s1
  have b1 := kept_fr k1 h0.st s1.fr (by decide) (by decide)
  have b2 := kept_fr k2 h0.st s1.fr (by decide) (by decide)
  exact ⟨sv', ⟨h1.st, h1.cn.blk, h1.cn.map, h1.ap, h1.mv, b1, b2, k3, own_monoT r (Nat.zero_le _)⟩⟩
theorem StrP.alloc {w w' : World} {b : Nat} {sv : Value} {mb : Nat} {p : List Tm × Nat} {n : Nat} {a : Option Addr} {cap : Nat} (h : StrP w w' b sv mb p n a cap) (o : Obj) : StrP w (w'.alloc o) b sv mb p n a cap := by
  obtain ⟨sv', s, r⟩ := h
  exact ⟨sv', s.after (bwA' _ _), r.keep (fun k hk => Below.heap_alloc _ _ _ (r.lt k hk).2)⟩
theorem StrP.D {w w' : World} {b : Nat} {sv : Value} {mb : Nat} {p : List Tm × Nat} {n : Nat} {a : Option Addr} {cap : Nat} {L : List Tm} (h : StrP w w' b sv mb p n a cap) (hs : St w b sv mb L) {c q1 q2 lm nx x M : Nat}
    (k1 : w.heap[q1]? = some (.cells #[.pointer (some ⟨c, 0, none⟩)] 41 (0, 0))) (k2 : w.heap[q2]? = some (.cells #[.int .i64 (M : Int)] 3 (0, 0))) (k3 : w.heap[c]? = some (.cells (chC b lm nx x) 71 (0, 0))) :
    w'.cell? ⟨q1, 0, none⟩ = some (.pointer (some ⟨c, 0, none⟩)) ∧ w'.cell? ⟨c, 0, none⟩ = some (.pointer (some ⟨b, 0, none⟩)) ∧ w'.cell? ⟨q2, 0, none⟩ = some (.int .i64 (M : Int)) :=
  ⟨blk_cell (h.kept hs k1 (by decide) (by decide)) rfl, blk_cell (h.kept hs k3 (by decide) (by decide)) rfl, blk_cell (h.kept hs k2 (by decide) (by decide)) rfl⟩
theorem cell_al {z : World} {o : Obj} {ad : Addr} {v : Value} (h : z.cell? ad = some v) (hl : ad.block < z.heap.size) : (z.alloc o).cell? ad = some v := (World.cell?_of_block (Below.heap_alloc _ _ _ hl)).trans h
set_option maxRecDepth 100000 in
set_option maxHeartbeats 8000000 in
theorem goOn_any {w : World × List Nat} {W : World} {c b : Nat} {sv : Value} {mb lm : Nat} {L : List Tm} {l : Lfs} {nx x : Nat} (h : CS w W c b sv mb lm L l nx x) (hg : Gd (L, x)) (d : Nat) (hd : d ≤ 64) (hnx : nx ≤ 1000000000) (hL : L.length + 200 ≤ 1048575) (hll : l.length ≤ 100) :
    Calls Try.prog 34 #[.pointer (some ⟨c, 0, none⟩), .int .i64 ((nx + d : Nat) : Int)] W fun e W' => e = .returned (.tuple #[.int .i64 ((kyS (wkS (L, x) d)).2 : Nat), .int .i64 0]) ∧ ∃ sv', CS w W' c b sv' mb lm (wkS (L, x) (d + 1)).1 (l ++ nlf (L, x) nx d) (nx + d + 1) (wkS (L, x) (d + 1)).2 := by
  obtain ⟨M, hM⟩ : ∃ M, M = d + 1 := ⟨_, rfl⟩
  obtain ⟨W0, hW0⟩ : ∃ W0, W0 = (W.alloc (.cells #[.pointer (some ⟨c, 0, none⟩)] 41)).alloc (.cells #[.int .i64 (M : Int)] 3) := ⟨_, rfl⟩
  obtain ⟨y1, y2, x0⟩ := blk2c W (.cells #[.pointer (some ⟨c, 0, none⟩)] 41) (.cells #[.int .i64 (M : Int)] 3)
  rw [← hW0] at y1 y2 x0
  obtain ⟨q1, hq1⟩ : ∃ q, q = W.heap.size := ⟨_, rfl⟩
  obtain ⟨q2, hq2⟩ : ∃ q, q = W.heap.size + 1 := ⟨_, rfl⟩
  rw [← hq1] at y1
  rw [← hq2] at y2
  obtain ⟨Y, hY⟩ : ∃ Y : Nat, Y = (wkS (L, x) M).2 := ⟨_, rfl⟩
  have C0 : Hid (∀ W1, Below W0.heap.size W0 W1 → CS w W1 c b sv mb lm L l nx x ∧ W1.heap[q1]? = some (.cells #[.pointer (some ⟨c, 0, none⟩)] 41 (0, 0)) ∧ W1.heap[q2]? = some (.cells #[.int .i64 (M : Int)] 3 (0, 0)) ∧ Below W.heap.size W W1) := fun W1 hb => ⟨h.new (bw_tr x0 hb), kept_blk y1 hb, kept_blk y2 hb, bw_tr x0 hb⟩
  have KA : Hid (∀ W1, Below W0.heap.size W0 W1 → Calls Try.prog 50 #[.pointer (some ⟨b, 0, none⟩), .int .i64 (2 * (M : Int)), .func (.func 51) #[] #[.pointer (some ⟨q1, 0, none⟩), .pointer (some ⟨q2, 0, none⟩)]] W1 fun e w' => ∃ a cap, e = .returned (.tuple #[.agg #[.slice a M cap, .int .i64 (Y : Nat)], .int .i64 0]) ∧ StrP W0 w' b sv mb (L, x) M a cap ∧ ∀ (k : Nat) (cs : Array Value), W1.heap[k]? = some (.cells cs 95 (0, 0)) → w'.heap[k]? = some (.cells cs 95 (0, 0))) := fun W1 hb1 => by
    obtain ⟨c1, k1, k2, -⟩ := unhide C0 W1 hb1
    obtain ⟨c0, -⟩ := unhide C0 W0 (Below.refl _ _)
    rw [hY]
    refine (aonT (L, x) M c1.st (2 * (M : Int)) (by omega) (by simp only; omega) q1 q2 (fun W' hb => go1_any (L, x) M (c1.st.bw hb) hg (by omega) (by simp only; omega) q1 q2 c lm nx (kept_blk k1 hb) (kept_blk c1.cn.blk hb) (kept_blk k2 hb))).mono ?_
    rintro e w' ⟨a, cap, h1, h2⟩
    exact ⟨a, cap, h1, h2.later (SStep.same c0.st hb1) hb1.size, fun k cs e => h2.kept c1.st e (by decide) (by decide)⟩
  have HG : Hid (∀ z a cap lb, StrP W0 z b sv mb (L, x) M a cap → z.heap[lb]? = some (.cells #[.slice a M cap, .int .i64 (Y : Int)] 95 (0, 0)) → ∃ sv', GO w z c b sv' mb lm (wkS (L, x) M).1 (l ++ nlf (L, x) nx 0) nx x q1 q2 lb M Y a cap (wkK (L, x) M)) := fun z a cap lb s k3 => by
    obtain ⟨-, k1, k2, hW1⟩ := unhide C0 W0 (Below.refl _ _)
    have := h.go hW1 k1 k2 s k3
    rw [show l ++ nlf (L, x) nx 0 = l by simp [nlf]]
    exact this
  have HD : Hid (∀ z a cap, StrP W0 z b sv mb (L, x) M a cap → z.cell? ⟨q1, 0, none⟩ = some (.pointer (some ⟨c, 0, none⟩)) ∧ z.cell? ⟨c, 0, none⟩ = some (.pointer (some ⟨b, 0, none⟩)) ∧ z.cell? ⟨q2, 0, none⟩ = some (.int .i64 (M : Int))) := fun z a cap s => by
    obtain ⟨c1, k1, k2, -⟩ := unhide C0 W0 (Below.refl _ _)
    exact s.D c1.st k1 k2 c1.cn.blk
  have DD : Hid (∀ W1, Below W0.heap.size W0 W1 → W1.cell? ⟨q1, 0, none⟩ = some (.pointer (some ⟨c, 0, none⟩)) ∧ W1.cell? ⟨c, 0, none⟩ = some (.pointer (some ⟨b, 0, none⟩)) ∧ W1.cell? ⟨q2, 0, none⟩ = some (.int .i64 (M : Int))) := fun W1 hb => by
    obtain ⟨c1, k1, k2, -⟩ := unhide C0 W1 hb
    exact ⟨blk_cell k1 rfl, c1.cn.cells.1, blk_cell k2 rfl⟩
  have bA : Below W0.heap.size W0 W0.drew := (Below.refl _ _).drew
  have bB : Below W0.heap.size W0 (W0.alloc (.cells #[.slice none 0 0, .int .i64 0] 95)).drew := (bwA' _ _).drew
  have kB : (W0.alloc (.cells #[.slice none 0 0, .int .i64 0] 95)).drew.heap[W0.heap.size]? = some (.cells #[.slice none 0 0, .int .i64 0] 95 (0, 0)) := heap_alloc_new W0 _
  have D00 := unhide DD W0 (Below.refl _ _)
  have D0 := unhide DD _ bA
  have D0b := unhide DD _ bB
  have hsB : Hid (W0.heap.size ≤ W0.heap.size) := Nat.le_refl _
  have cW : (W.alloc (.cells #[.pointer (some ⟨c, 0, none⟩)] 41)).cell? ⟨c, 2, none⟩ = some (.int .i64 (nx : Int)) := cell_al h.cn.cells.2.2.1 (lt_of_blk h.cn.blk)
  have HLF := hide (And.intro h.cn.lf (And.intro hM (And.intro hll hY)))
  obtain ⟨n, hn⟩ : ∃ n, n = nx + d := ⟨_, rfl⟩
  rw [← hn]
  have e1 : (n : Int) - (nx : Int) = (d : Int) := by omega
  have e2 : (d : Int) + 1 = (M : Int) := by omega
  have e3 : (M : Int) - 1 = (d : Int) := by omega
  have e4 : (d : Int) ≤ 64 := by omega
  have e5 : (nx : Int) ≤ 1000000000 := by omega
  have e6 : (n : Int) ≤ 1000000064 := by omega
  have e7 : (0 : Int) ≤ (n : Int) := by omega
  have HW := hide (And.intro hW0 (And.intro hq1 hq2))
  have HNN := hide hn
  clear h hg hd hnx hL hll hM hW0 y1 y2 x0 hq1 hq2 C0 hn hY
  go_enter Try.func34, Try.ntmps34
  go_upto_region 2 with fail
  rw [← (unhide HW).1, ← (unhide HW).2.2, ← (unhide HW).2.1]
  have hw2 : IntKind.i64.wrap (2 * (M : Int)) = 2 * (M : Int) := by rw [IntKind.wrap_i64]; omega
  clear cW
  go_cut [7, 8] from 18 to 28 (fun s7 s8 wx => ∃ lb a cap sv1, s7 = .pointer (some ⟨lb, 0, none⟩) ∧ s8 = .int .i64 0 ∧ Hid (GO w wx c b sv1 mb lm (wkS (L, x) M).1 (l ++ nlf (L, x) nx 0) nx x q1 q2 lb M Y a cap (wkK (L, x) M)))
  case first =>
    first
    | go_region_held3 (fun w' : World => w'.cell? ⟨q1, 0, none⟩ = some (.pointer (some ⟨c, 0, none⟩)) ∧ w'.cell? ⟨c, 0, none⟩ = some (.pointer (some ⟨b, 0, none⟩)) ∧ w'.cell? ⟨q2, 0, none⟩ = some (.int .i64 (M : Int))) (first | with_reducible exact D00 | with_reducible exact D0 | with_reducible exact D0b | with_reducible exact D1 | with_reducible exact D2 | with_reducible exact D3) (first
        | (go_at_call 50; first
          | (with_reducible refine (unhide KA _ bA).mono ?_; rintro e z1 ⟨a, cap, rfl, s1, -⟩; have D1 := unhide HD _ _ _ s1; have s2 := s1.alloc (.cells #[.slice a M cap, .int .i64 (Y : Int)] 95); have D2 := unhide HD _ _ _ s2; have D3 := unhide HD _ _ _ (s1.alloc (.cells #[.slice none 0 0, .int .i64 0] 95)); obtain ⟨sv1, G1⟩ := unhide HG _ _ _ z1.heap.size s2 (heap_alloc_new _ _))
          | (with_reducible refine (unhide KA _ bB).mono ?_; rintro e z1 ⟨a, cap, rfl, s1, kp⟩; have D1 := unhide HD _ _ _ s1; have k1 := kp _ _ kB; obtain ⟨s2, k2, o2⟩ := s1.put k1 (unhide hsB) (.slice a M cap) (.int .i64 (Y : Int)); have f0 : z1.cell? ⟨W0.heap.size, 0, none⟩ = some (.slice none 0 0) := blk_cell k1 rfl; have f1 : z1.cell? ⟨W0.heap.size, 1, none⟩ = some (.int .i64 0) := blk_cell k1 rfl; have fz := fun j => blk_froz (i := j) k1; have D2 := unhide HD _ _ _ s2; obtain ⟨sv1, G1⟩ := unhide HG _ _ _ W0.heap.size s2 k2)
          | fail)
        | fail)
    | fail
    all_goals
      go_wp2_with fail
      go_meet
      case rel => exact ⟨_, a, cap, sv1, rfl, rfl, G1⟩
  case rest =>
  obtain ⟨lb, a, cap, sv1, rfl, rfl, HG1⟩ := hcut
  clear D00 D0 D0b bA bB kB KA HG HD DD hsB hw2 HW
  obtain ⟨g, cap', hae, hgl, hcap, -⟩ := own_open (unhide HG1).row (by rw [wkK_len, (unhide HLF).2.1]; omega)
  rw [wkK_len] at hae hcap
  simp only [Value.slice.injEq] at hae
  obtain ⟨ha1, -, ha2⟩ := hae
  subst ha1
  subst ha2
  have hdM : d ≤ M := by rw [(unhide HLF).2.1]; omega
  have l0 : wc.cell? ⟨lb, 0, none⟩ = some (.slice (some ⟨g, 0, none⟩) M cap) := blk_cell (unhide HG1).b3 rfl
  have m0 : wc.cell? ⟨q2, 0, none⟩ = some (.int .i64 (M : Int)) := blk_cell (unhide HG1).b2 rfl
  have hsl := slice_upto wc g M cap d hdM hcap
  have HGI : Hid (∀ i, i < M → ∀ W', NRow 0 W' (.slice (some ⟨g, 0, none⟩) M cap) (wkK (L, x) M) → W'.cell? ⟨g, i, none⟩ = some (.int .i64 ((kyS (wkS (L, x) i)).2 : Nat))) := fun i hi W' hr => hr.at rfl (wkK_get (L, x) M i hi)
  clear hgl hcap hdM
  obtain ⟨LL, hLL⟩ : ∃ LL, LL = (wkS (L, x) M).1 := ⟨_, rfl⟩
  rw [← hLL] at HG1
  have HLL := hide hLL
  clear hLL
  go_wp2_with fail
  go_loopw [38] (fun iv wr => ∃ i : Nat, iv = .int .i64 (i : Int) ∧ i ≤ d ∧ Hid (GO w wr c b sv1 mb lm LL (l ++ nlf (L, x) nx i) nx x q1 q2 lb M Y (some ⟨g, 0, none⟩) cap (wkK (L, x) M))) (fun iv _ => (d - intOf iv).toNat)
  case atStart => exact ⟨0, rfl, by omega, HG1⟩
  case round =>
    clear HG1 l0 m0 hsl
    obtain ⟨i, rfl, hi, HR⟩ := hrel
    by_cases hlt : i < d
    · obtain ⟨hlf, hM, hll, hY⟩ := unhide HLF
      have ck := unhide HGI i (by omega) wr (unhide HR).row
      obtain ⟨m, hm⟩ : ∃ m, m = nx + i := ⟨_, rfl⟩
      obtain ⟨k, hk⟩ : ∃ k : Nat, k = (kyS (wkS (L, x) i)).2 := ⟨_, rfl⟩
      rw [← hk] at ck
      have hG0 := (unhide HR).drew
      have hlfi := lf_nlf (p := (L, x)) hlf i
      obtain ⟨W4, r4, n4, g4⟩ := hG0.map.store (by rw [List.length_append, nlf_len]; omega) m k (fun p hp => by rw [hm]; exact hlfi.lt p hp) ⟨by omega, by omega⟩
      have hG4 := hG0.upd n4 g4
      rw [List.append_assoc, show nlf (L, x) nx i ++ [(m, k)] = nlf (L, x) nx (i + 1) by rw [hm, hk]; rfl] at hG4
      have HS0 : Hid (wr.cell? ⟨q1, 0, none⟩ = some (.pointer (some ⟨c, 0, none⟩)) ∧ wr.cell? ⟨c, 1, none⟩ = some (.map (some lm)) ∧ wr.cell? ⟨c, 2, none⟩ = some (.int .i64 (nx : Int))) := (unhide HR).cells
      have HS1 : Hid (wr.drew.cell? ⟨q1, 0, none⟩ = some (.pointer (some ⟨c, 0, none⟩)) ∧ wr.drew.cell? ⟨c, 1, none⟩ = some (.map (some lm)) ∧ wr.drew.cell? ⟨c, 2, none⟩ = some (.int .i64 (nx : Int))) := hG0.cells
      have HS4 : Hid (W4.cell? ⟨q1, 0, none⟩ = some (.pointer (some ⟨c, 0, none⟩)) ∧ W4.cell? ⟨c, 1, none⟩ = some (.map (some lm)) ∧ W4.cell? ⟨c, 2, none⟩ = some (.int .i64 (nx : Int))) := hG4.cells
      have HG4 := hide hG4
      have em : (nx : Int) + (i : Int) = (m : Int) := by omega
      have em2 : IntKind.i64.wrap ((nx : Int) + (i : Int)) = (m : Int) := by rw [IntKind.wrap_i64]; omega
      have em3 : IntKind.i64.wrap (m : Int) = (m : Int) := by rw [IntKind.wrap_i64]; omega
      have q1' : (i : Int) < (d : Int) := by omega
      have q0' : (0 : Int) ≤ (i : Int) := by omega
      have HMm := hide hm
      clear hm hk hlf hM hll hY hG0 hlfi n4 g4 hG4 HR HLF
      go_upto_region 8 with fail
      go_region_held3 (fun w' : World => w'.cell? ⟨q1, 0, none⟩ = some (.pointer (some ⟨c, 0, none⟩)) ∧ w'.cell? ⟨c, 1, none⟩ = some (.map (some lm)) ∧ w'.cell? ⟨c, 2, none⟩ = some (.int .i64 (nx : Int))) (first | exact unhide HS0 | exact unhide HS1 | exact unhide HS4) (fail)
      clear r4 HS0 HS1 HS4 em em2 em3 ck
      go_wp2_with fail
      go_roundw
      case rel => exact ⟨i + 1, by go_num, by omega, HG4⟩
      case measure => simp only [intOf]; omega
    · obtain rfl : i = d := by omega
      clear hlt hi
      obtain ⟨hlf, hM, -, hY⟩ := unhide HLF
      obtain ⟨n1, hn1⟩ : ∃ n1, n1 = n + 1 := ⟨_, rfl⟩
      have hG0 := (unhide HR).drew
      have hGa0 := (unhide HR).poke 2 (.int .i64 (n1 : Int)) (nx' := n1) (x' := x) rfl
      have hGa := hGa0.drew
      have hGab := (hGa0.poke 3 (.int .i64 (Y : Int)) (nx' := n1) (x' := Y) rfl).drew
      have hGb0 := (unhide HR).poke 3 (.int .i64 (Y : Int)) (nx' := nx) (x' := Y) rfl
      have hGb := hGb0.drew
      have hGba := (hGb0.poke 2 (.int .i64 (n1 : Int)) (nx' := n1) (x' := Y) rfl).drew
      have HS : Hid (∀ X0 NX0 W nx x, GO w W c b sv1 mb lm LL (l ++ nlf (L, X0) NX0 i) nx x q1 q2 lb M Y (some ⟨g, 0, none⟩) cap (wkK (L, X0) M) → W.cell? ⟨q1, 0, none⟩ = some (.pointer (some ⟨c, 0, none⟩)) ∧ W.cell? ⟨lb, 1, none⟩ = some (.int .i64 (Y : Int))) := fun _ _ W nx x h => ⟨blk_cell h.b1 rfl, blk_cell h.b3 rfl⟩
      have s0 := unhide HS _ _ _ _ _ (unhide HR)
      have s1 := unhide HS _ _ _ _ _ hG0
      have s2 := unhide HS _ _ _ _ _ hGa
      have s3 := unhide HS _ _ _ _ _ hGab
      have s4 := unhide HS _ _ _ _ _ hGb
      have s5 := unhide HS _ _ _ _ _ hGba
      have d2 : wr.drew.cell? ⟨c, 2, none⟩ = some (.int .i64 (nx : Int)) := blk_cell hG0.blk rfl
      have d3 : wr.drew.cell? ⟨c, 3, none⟩ = some (.int .i64 (x : Int)) := blk_cell hG0.blk rfl
      have d4 : (wr.setCell ⟨c, 2, none⟩ (.int .i64 (n1 : Int))).drew.cell? ⟨c, 3, none⟩ = some (.int .i64 (x : Int)) := blk_cell hGa.blk rfl
      have d5 : (wr.setCell ⟨c, 3, none⟩ (.int .i64 (Y : Int))).drew.cell? ⟨c, 2, none⟩ = some (.int .i64 (nx : Int)) := blk_cell hGb.blk rfl
      have f0 := fun j => blk_froz (i := j) hG0.blk
      have f1 := fun j => blk_froz (i := j) hGa.blk
      have f2 := fun j => blk_froz (i := j) hGb.blk
      have hn1e : (n : Int) + 1 = (n1 : Int) := by omega
      have hn1w : IntKind.i64.wrap (n1 : Int) = (n1 : Int) := by rw [IntKind.wrap_i64]; omega
      have HFin : Hid (∀ W, GO w W c b sv1 mb lm LL (l ++ nlf (L, x) nx i) n1 Y q1 q2 lb M Y (some ⟨g, 0, none⟩) cap (wkK (L, x) M) → (W.cell? ⟨lb, 0, none⟩ = some (.slice (some ⟨g, 0, none⟩) M cap) ∧ W.cell? ⟨q2, 0, none⟩ = some (.int .i64 (M : Int)) ∧ W.cell? ⟨g, i, none⟩ = some (.int .i64 ((kyS (wkS (L, x) i)).2 : Nat))) ∧ CS w W c b sv1 mb lm (wkS (L, x) (i + 1)).1 (l ++ nlf (L, x) nx i) (n + 1) (wkS (L, x) (i + 1)).2) := fun W hW => by
        refine ⟨⟨blk_cell hW.b3 rfl, blk_cell hW.b2 rfl, unhide HGI i (by omega) W hW.row⟩, ?_⟩
        have e1 : n1 = nx + i + 1 := by rw [hn1, unhide HNN]
        have hc := hW.cs (by rw [e1]; exact (lf_nlf (p := (L, x)) hlf i).mono (by omega))
        rw [hn1, hY, unhide HLL, hM] at hc
        exact hc
      have HA := hide hGab
      have HBb := hide hGba
      have hMi : (i : Int) < (M : Int) := by omega
      have hM65 : (M : Int) ≤ 65 := by omega
      have hi0 : (0 : Int) ≤ (i : Int) := by omega
      clear hlf hM hY hG0 hGa hGab hGb hGba hGa0 hGb0 HR HS hn1 HLF HGI HLL HNN
      go_upto_region 10 with fail
      go_cut [] from 55 to 64 (fun wx => Hid (GO w wx c b sv1 mb lm LL (l ++ nlf (L, x) nx i) n1 Y q1 q2 lb M Y (some ⟨g, 0, none⟩) cap (wkK (L, x) M)))
      case first =>
        go_region_held3 (fun w' : World => w'.cell? ⟨q1, 0, none⟩ = some (.pointer (some ⟨c, 0, none⟩)) ∧ w'.cell? ⟨lb, 1, none⟩ = some (.int .i64 (Y : Int))) (first | with_reducible exact s0 | with_reducible exact s1 | with_reducible exact s2 | with_reducible exact s3 | with_reducible exact s4 | with_reducible exact s5) (fail)
        all_goals
          go_wp2_with fail
          go_meet
          case rel => first | exact HA | exact HBb
      case rest =>
      obtain ⟨⟨c0, c1, c2⟩, hcs⟩ := unhide HFin _ (unhide hcut)
      have HCS := hide hcs
      clear hcs hcut HFin HA HBb s0 s1 s2 s3 s4 s5 d2 d3 d4 d5 f0 f1 f2
      obtain ⟨kk, hkk⟩ : ∃ kk : Nat, kk = (kyS (wkS (L, x) i)).2 := ⟨_, rfl⟩
      rw [← hkk] at c2
      have HKK := hide hkk
      clear hkk
      go_wp2
      go_ret2
      exact ⟨by rw [← unhide HKK]; rfl, sv1, unhide HCS⟩
end Go.Proofs.Ytkaioidneknmjaa.Tn
