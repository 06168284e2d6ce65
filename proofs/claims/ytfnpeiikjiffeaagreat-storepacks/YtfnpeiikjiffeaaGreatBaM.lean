/- Texts joined: StG StH. -/
import Derived.Test.YtfnpeiikjiffeaaGreatStF
/- A Store beside a disk; missing, Get, Names, Seq, Change. -/
namespace Go.Proofs.YtfnpeiikjiffeaaGreat
open Go.RowKit Go.Maps

theorem Env.perm {w W : World} {rs rs' : List Res} (h : Env w W rs) (hp : rs.Perm rs') : Env w W rs' := by
  refine ⟨h.bel, fun r hr => h.hold r (hp.mem_iff.2 hr), fun r hr => h.low r (hp.mem_iff.2 hr), ?_⟩
  exact (hp.pairwise_iff (fun {a b} hab x hx c => hab x c hx)).1 h.dis
theorem ED.perm {w W : World} {d : Nat} {S : DS} {rs rs' : List Res} (h : ED w W d S rs) (hp : rs.Perm rs') : ED w W d S rs' := by
  obtain ⟨Z, h⟩ := h
  exact ⟨Z, h.perm (hp.cons _)⟩
theorem ED.addR {w W W' : World} {d : Nat} {S : DS} {rs : List Res} (h : ED w W d S rs) (r : Res) (hb : Below W.heap.size W W') (hP : r.P W') (hn : ∀ x ∈ r.Z, W.heap.size ≤ x) : ED w W' d S (r :: rs) := by
  obtain ⟨Z, h⟩ := h
  exact ⟨Z, (h.add r hb hP hn).swap⟩
theorem ED.hold {w W : World} {d : Nat} {S : DS} {rs : List Res} (h : ED w W d S rs) {r : Res} (hr : r ∈ rs) : r.P W := by
  obtain ⟨Z, h⟩ := h
  exact h.hold r (List.mem_cons_of_mem _ hr)
def sR (sb jb mb : Nat) (dn : Bool) : Res := resBs [(sb, sc jb mb dn)]
theorem sR_solid (sb jb mb : Nat) (dn : Bool) : Solid (sR sb jb mb dn) := solid_Bs (by intro p hp; simp at hp; subst hp; rfl)
/-- A Store at sb: of the number n, its journal's text t, its pairs m. -/
def ES (w W : World) (d : Nat) (S : DS) (sb n : Nat) (t : ByteArray) (m : MM) (dn lost : Bool) (rs : List Res) : Prop := ∃ jb mb, ED w W d S (jr jb d n t lost :: sR sb jb mb dn :: resM mb m 256 :: rs)
theorem ES.bel {w W : World} {d : Nat} {S : DS} {sb n : Nat} {t : ByteArray} {m : MM} {dn lost : Bool} {rs : List Res} (h : ES w W d S sb n t m dn lost rs) : Below w.heap.size w W := by obtain ⟨jb, mb, h⟩ := h; exact h.bel
theorem ES.new {w W W' : World} {d : Nat} {S : DS} {sb n : Nat} {t : ByteArray} {m : MM} {dn lost : Bool} {rs : List Res} (h : ES w W d S sb n t m dn lost rs) (hb : Below W.heap.size W W') : ES w W' d S sb n t m dn lost rs := by obtain ⟨jb, mb, h⟩ := h; exact ⟨jb, mb, h.new hb⟩
theorem ES.ed {w W : World} {d : Nat} {S : DS} {sb n : Nat} {t : ByteArray} {m : MM} {dn lost : Bool} {rs : List Res} (h : ES w W d S sb n t m dn lost rs) : ED w W d S rs := by obtain ⟨jb, mb, h⟩ := h; exact h.drop1.drop1.drop1
theorem ES.blk {w W : World} {d : Nat} {S : DS} {jb mb sb n : Nat} {t : ByteArray} {m : MM} {dn lost : Bool} {rs : List Res} (h : ED w W d S (jr jb d n t lost :: sR sb jb mb dn :: resM mb m 256 :: rs)) : W.heap[sb]? = some (sc jb mb dn) ∧ PMap W mb m 256 := by
  refine ⟨?_, h.hold (r := resM mb m 256) (by simp)⟩
  have : (sR sb jb mb dn).P W := h.hold (by simp)
  exact this (sb, sc jb mb dn) (by simp)
theorem smiss_at (W : World) (sb jb : Nat) (c0 : W.cell? ⟨sb, 0, none⟩ = some (.pointer (some ⟨jb, 0, none⟩))) : Calls Tryz.prog 42 #[.pointer (some ⟨sb, 0, none⟩)] W fun e W' => e = .returned (.bool false) ∧ W' = W := by
  go_enter Tryz.func42, Tryz.ntmps42
  go_wp2
  go_ret
  exact ⟨rfl, rfl⟩
theorem smiss_nil (W : World) : Calls Tryz.prog 42 #[.pointer none] W fun e W' => e = .returned (.bool true) ∧ W' = W := by
  go_enter Tryz.func42, Tryz.ntmps42
  go_wp2
  go_ret
  exact ⟨rfl, rfl⟩
theorem smiss_zero (W : World) (sb : Nat) (c0 : W.cell? ⟨sb, 0, none⟩ = some (.pointer none)) : Calls Tryz.prog 42 #[.pointer (some ⟨sb, 0, none⟩)] W fun e W' => e = .returned (.bool true) ∧ W' = W := by
  go_enter Tryz.func42, Tryz.ntmps42
  go_wp2
  go_ret
  exact ⟨rfl, rfl⟩
theorem sget_any {w W : World} {d : Nat} {S : DS} {sb n : Nat} {t : ByteArray} {m : MM} {dn lost : Bool} {rs : List Res} (h : ES w W d S sb n t m dn lost rs) (k : ByteArray) (hk : k.size ≤ 140737488355328) :
    Calls Tryz.prog 22 #[.pointer (some ⟨sb, 0, none⟩), .string k] W fun e W' => e = .returned (.tuple #[.string (m.at k).t, .bool (m k).isSome]) ∧ Below W.heap.size W W' := by
  obtain ⟨jb, mb, h⟩ := h
  obtain ⟨h1, h2⟩ := ES.blk h
  obtain ⟨c0, c1, -, -⟩ := sc_cells h1
  have KM := hide (smiss_at W sb jb c0)
  have lk := h2.lookOk hk
  unfold pairV at lk
  generalize m.at k = p at *
  generalize (m k).isSome = z at *
  clear h h1 h2
  go_enter Tryz.func22, Tryz.ntmps22
  go_wp2_with (first | (go_at_call 42; refine (unhide KM).mono ?_; rintro e w1 ⟨rfl, rfl⟩))
  go_ret2
  exact ⟨rfl, (Below.refl _ _).alloc (Nat.le_refl _) _⟩
theorem snames_any {w W : World} {d : Nat} {S : DS} {sb n : Nat} {t : ByteArray} {m : MM} {dn lost : Bool} {rs : List Res} (h : ES w W d S sb n t m dn lost rs) :
    Calls Tryz.prog 38 #[.pointer (some ⟨sb, 0, none⟩)] W fun e W' => ∃ v ns, e = .returned v ∧ Nm m ns ∧ ns.length ≤ 256 ∧ SRow W' v ns ∧ (∀ k, v.ownBlock = some k → W.heap.size ≤ k) ∧ Below W.heap.size W W' := by
  obtain ⟨jb, mb, h⟩ := h
  obtain ⟨h1, h2⟩ := ES.blk h
  obtain ⟨c0, c1, -, -⟩ := sc_cells h1
  have KM := hide (smiss_at W sb jb c0)
  have KI := hide (inOrder_any h2 (by omega))
  obtain ⟨ns0, hn0, hl0⟩ := h2.names
  have HN := hide (And.intro hn0 hl0)
  clear h h1 h2 hn0 hl0
  go_enter Tryz.func38, Tryz.ntmps38
  go_wp2_with (first | (go_at_call 42; refine (unhide KM).mono ?_; rintro e w1 ⟨rfl, rfl⟩))
  refine (unhide KI).mono ?_
  rintro e W1 ⟨v, ns, rfl, r1, r2, r3, r4⟩
  have HR := hide (And.intro r1 (And.intro r2 (And.intro r3 r4)))
  clear r1 r2 r3 r4 KI
  go_wp2_with fail
  go_ret
  obtain ⟨r1, r2, r3, r4⟩ := unhide HR
  exact ⟨v, ns, rfl, r1, by rw [r1.uniq (unhide HN).1]; exact (unhide HN).2, r2, r3, r4⟩
theorem sseq_any {w W : World} {d : Nat} {S : DS} {sb n : Nat} {t : ByteArray} {m : MM} {dn lost : Bool} {rs : List Res} (h : ES w W d S sb n t m dn lost rs) :
    Calls Tryz.prog 21 #[.pointer (some ⟨sb, 0, none⟩)] W fun e W' => e = .returned (.int .i64 (n : Int)) ∧ W' = W := by
  obtain ⟨jb, mb, h⟩ := h
  obtain ⟨h1, h2⟩ := ES.blk h
  obtain ⟨c0, c1, -, -⟩ := sc_cells h1
  have KM := hide (smiss_at W sb jb c0)
  have KS := hide (jseq_any h)
  clear h h1 h2
  go_enter Tryz.func21, Tryz.ntmps21
  go_wp2_with (first | (go_at_call 42; refine (unhide KM).mono ?_; rintro e w1 ⟨rfl, rfl⟩) | (go_at_call 49; refine (unhide KS).mono ?_; rintro e w1 ⟨rfl, rfl⟩))
  go_ret
  exact ⟨rfl, rfl⟩
/-- A change that is taken where there is room. -/
def Okay (m : MM) (l : List PP) (rm : Nat) : Prop := chgE [] l = 0 ∧ ∃ ns, Nm (m.chg l) ns ∧ ns.length ≤ 256 ∧ (packT (m.chg l) ns).size ≤ rm
theorem sR_set {w W : World} {d : Nat} {S : DS} {rs : List Res} {sb jb mb : Nat} {dn : Bool} (h : ED w W d S (sR sb jb mb dn :: rs)) (k : Nat) (v : Value) {mb' : Nat} {dn' : Bool} (hv : Obj.cells ((#[.pointer (some ⟨jb, 0, none⟩), .map (some mb), .bool dn] : Array Value).setIfInBounds k v) 84 (0, 0) = sc jb mb' dn') : ED w (W.setCell ⟨sb, k, none⟩ v) d S (sR sb jb mb' dn' :: rs) := by
  refine ED.setBs h rfl ((Fr.refl _ W).setCell (Or.inr (by simp)) _) ?_
  intro p hp; simp at hp; subst hp
  have hb := ED.bs h (sb, sc jb mb dn) (by simp)
  rw [← hv]; exact setc_blk hb
end Go.Proofs.YtfnpeiikjiffeaaGreat

/- The contract of Change. -/
namespace Go.Proofs.YtfnpeiikjiffeaaGreat
open Go.RowKit Go.Maps

theorem jr_front {w W : World} {d : Nat} {S : DS} {j s m1 m2 : Res} {rs : List Res} (h : ED w W d S (j :: s :: m1 :: m2 :: rs)) : ED w W d S (s :: j :: m1 :: m2 :: rs) := h.perm (List.Perm.swap _ _ _)
theorem es_old {w W : World} {d : Nat} {S : DS} {jb mb nb sb n : Nat} {t : ByteArray} {m m' : MM} {dn lost : Bool} {rs : List Res} (h : ED w W d S (sR sb jb mb dn :: jr jb d n t lost :: resM mb m 256 :: resM nb m' 256 :: rs)) : ES w W d S sb n t m dn lost rs := by
  refine ⟨jb, mb, ?_⟩
  have h1 : ED w W d S (resM nb m' 256 :: jr jb d n t lost :: sR sb jb mb dn :: resM mb m 256 :: rs) := h.perm (by
    refine List.Perm.trans (List.Perm.swap _ _ _) ?_
    refine List.Perm.symm ?_
    refine (List.Perm.swap _ _ _).trans (List.Perm.cons _ ?_)
    exact (List.Perm.swap _ _ _).trans (List.Perm.cons _ (List.Perm.swap _ _ _)))
  exact h1.drop1
theorem es_next {w W : World} {d : Nat} {S : DS} {jb mb nb sb n : Nat} {t : ByteArray} {m m' : MM} {dn lost : Bool} {rs : List Res} (h : ED w W d S (sR sb jb nb dn :: jr jb d n t lost :: resM mb m 256 :: resM nb m' 256 :: rs)) : ES w W d S sb n t m' dn lost rs := by
  refine ⟨jb, nb, ?_⟩
  have h1 : ED w W d S (resM mb m 256 :: jr jb d n t lost :: sR sb jb nb dn :: resM nb m' 256 :: rs) := h.perm (by
    refine List.Perm.trans (List.Perm.swap _ _ _) ?_
    refine List.Perm.symm ?_
    refine (List.Perm.swap _ _ _).trans (List.Perm.cons _ ?_)
    exact List.Perm.swap _ _ _)
  exact h1.drop1
set_option maxRecDepth 100000 in
set_option maxHeartbeats 8000000 in
theorem change_any {w W : World} {d : Nat} {S : DS} {sb n : Nat} {t : ByteArray} {m : MM} {rs : List Res} (h : ES w W d S sb n t m false false rs) (hu : S.up = true) (h4 : 4 ≤ S.N) (hf : Fits m) (hsol : ∀ r ∈ rs, Solid r) {a : Option Addr} {cap : Nat} {l : List PP} (hl : PrsAt W a l) (hlen : l.length ≤ 262144)
    {P0 : ByteArray → DS → Prop} {P6 : DS → Prop}
    (hput : ∀ ns, Nm (m.chg l) ns → ns.length ≤ 256 → (packT (m.chg l) ns).size ≤ room6 S → ∀ jb rs' W', (∀ r ∈ rs', Solid r) → ED w W' d S (jr jb d n t false :: rs') → Calls Tryz.prog 70 #[.pointer (some ⟨jb, 0, none⟩), .string (packT (m.chg l) ns)] W' fun e W'' => ∃ x, e = .returned (.int .i64 x) ∧ ((x = 0 ∧ ∃ S', P0 (packT (m.chg l) ns) S' ∧ ED w W'' d S' (jr jb d (n + 1) (packT (m.chg l) ns) false :: rs')) ∨ (x = 6 ∧ ∃ S', P6 S' ∧ ED w W'' d S' (jr jb d n t true :: rs')))) :
    Calls Tryz.prog 15 #[.pointer (some ⟨sb, 0, none⟩), .slice a l.length cap] W fun e W' => ∃ x, e = .returned (.int .i64 x) ∧
      ((¬ Okay m l (room6 S) ∧ x ≠ 0 ∧ (chgE [] l ≠ 0 → x = chgE [] l) ∧ x ≠ 6 ∧ ES w W' d S sb n t m false false rs) ∨ (Okay m l (room6 S) ∧ x = 0 ∧ ∃ S' ns, Nm (m.chg l) ns ∧ ns.length ≤ 256 ∧ (packT (m.chg l) ns).size ≤ room6 S ∧ P0 (packT (m.chg l) ns) S' ∧ ES w W' d S' sb (n + 1) (packT (m.chg l) ns) (m.chg l) false false rs) ∨
        (Okay m l (room6 S) ∧ x = 6 ∧ ∃ S' ns, Nm (m.chg l) ns ∧ ns.length ≤ 256 ∧ P6 S' ∧ ES w W' d S' sb n t m true true rs)) := by
  obtain ⟨jb, mb, h⟩ := h
  obtain ⟨h1, h2⟩ := ES.blk h
  obtain ⟨c0, c1, c2, -⟩ := sc_cells h1
  have KM := hide (smiss_at W sb jb c0)
  have KC := hide (changed_any (cap := cap) h1 h2 hl hlen)
  have HE := hide (And.intro h (And.intro hu (And.intro h4 (And.intro hf hsol))))
  have HPut := hide hput
  have HLong : Hid (chgE [] l = 0 → Fits (m.chg l)) := fun c => hf.chg (fun p hp => ((chgE_iff.1 c).1 p hp).1)
  clear h h1 h2 c0 c1 c2 hu h4 hf hsol hl hlen hput
  obtain ⟨L, hL⟩ : ∃ L, L = l.length := ⟨_, rfl⟩
  rw [← hL] at KC ⊢
  clear hL
  go_enter Tryz.func15, Tryz.ntmps15
  go_wp2_with (first | (go_at_call 42; refine (unhide KM).mono ?_; rintro e w1 ⟨rfl, rfl⟩))
  refine (unhide KC).mono ?_
  clear KC KM
  rintro e W1 ⟨b1, ⟨hE, rfl⟩ | ⟨hE, ns, hN, ⟨hbig, rfl⟩ | ⟨hns, nb, rfl, PM, hnb⟩⟩⟩
  · have E1 : ES w W1 d S sb n t m false false rs := ⟨jb, mb, (unhide HE).1.new b1⟩
    have HB : Hid (¬ Okay m l (room6 S)) := fun c => hE c.1
    have HE1 := hide E1
    clear E1 b1 HPut HLong HE
    rcases chgE_vals [] l with c | c | c | c
    · exact absurd c hE
    all_goals
      have HC := hide c
      rw [c]
      clear c hE
      go_wp2_with fail
      go_ret
      exact ⟨_, rfl, Or.inl ⟨unhide HB, by decide, fun _ => (unhide HC).symm, by decide, unhide HE1⟩⟩
  · have E1 : ES w W1 d S sb n t m false false rs := ⟨jb, mb, (unhide HE).1.new b1⟩
    have HB : Hid (¬ Okay m l (room6 S)) := fun c => by
      obtain ⟨ns', q1, q2, q3⟩ := c.2
      rw [q1.uniq hN] at q2; omega
    have HE1 := hide E1
    have HC := hide hE
    clear E1 b1 HPut HLong HE hE hN hbig
    go_wp2_with fail
    go_ret
    exact ⟨_, rfl, Or.inl ⟨unhide HB, by decide, fun c => absurd (unhide HC) c, by decide, unhide HE1⟩⟩
  · obtain ⟨h, hu, h4, hf, hsol⟩ := unhide HE
    have E1 : ED w W1 d S (resM nb (m.chg l) 256 :: jr jb d n t false :: sR sb jb mb false :: resM mb m 256 :: rs) := h.addR (resM nb (m.chg l) 256) b1 PM (fun x hx => by simp [resM] at hx; subst hx; exact hnb)
    have E2 : ED w W1 d S (jr jb d n t false :: sR sb jb mb false :: resM mb m 256 :: resM nb (m.chg l) 256 :: rs) := E1.perm ((List.Perm.swap _ _ _).trans (List.Perm.cons _ ((List.Perm.swap _ _ _).trans (List.Perm.cons _ (List.Perm.swap _ _ _)))))
    have s1 : W1.heap[sb]? = some (sc jb mb false) := (b1.block _ (lt_of_blk (ES.blk h).1)).trans (ES.blk h).1
    have hsol2 : ∀ r ∈ sR sb jb mb false :: resM mb m 256 :: resM nb (m.chg l) 256 :: rs, Solid r := by
      intro r hr
      simp only [List.mem_cons] at hr
      rcases hr with rfl | rfl | rfl | hr
      · exact sR_solid _ _ _ _
      · exact solid_M _ _ _
      · exact solid_M _ _ _
      · exact hsol r hr
    have KP := hide (sput_go (R := fun x W'' => (x = 5 ∧ room6 S < (packT (m.chg l) ns).size ∧ ED w W'' d S (jr jb d n t false :: sR sb jb mb false :: resM mb m 256 :: resM nb (m.chg l) 256 :: rs)) ∨ (x = 0 ∧ (packT (m.chg l) ns).size ≤ room6 S ∧ ∃ S', P0 (packT (m.chg l) ns) S' ∧ ED w W'' d S' (jr jb d (n + 1) (packT (m.chg l) ns) false :: sR sb jb mb false :: resM mb m 256 :: resM nb (m.chg l) 256 :: rs)) ∨ (x = 6 ∧ (packT (m.chg l) ns).size ≤ room6 S ∧ ∃ S', P6 S' ∧ ED w W'' d S' (jr jb d n t true :: sR sb jb mb false :: resM mb m 256 :: resM nb (m.chg l) 256 :: rs))) E2 hu h4 s1 PM hN (unhide HLong hE) hns
      (fun q W' q1 _ => Or.inl ⟨rfl, q, q1⟩) (fun q W' q1 _ => (unhide HPut ns hN hns q jb _ W' hsol2 q1).mono (by
        rintro e W'' ⟨x, rfl, ⟨rfl, S', p1, p2⟩ | ⟨rfl, S', p1, p2⟩⟩
        · exact ⟨0, rfl, Or.inr (Or.inl ⟨rfl, q, S', p1, p2⟩)⟩
        · exact ⟨6, rfl, Or.inr (Or.inr ⟨rfl, q, S', p1, p2⟩)⟩)))
    have HN := hide (And.intro hE (And.intro hN hns))
    clear h hu h4 hf hsol E1 E2 s1 hsol2 HE HPut HLong hE hN hns b1 PM hnb
    go_wp2_with fail
    refine (unhide KP).mono ?_
    clear KP
    rintro e W2 ⟨x, rfl, ⟨rfl, hsz, E2⟩ | ⟨rfl, hsz, S', p0, E2⟩ | ⟨rfl, hsz, S', p6, E2⟩⟩
    · have hb : W2.heap[sb]? = some (sc jb mb false) := (E2.hold (r := sR sb jb mb false) (by simp)) (sb, sc jb mb false) (by simp)
      obtain ⟨c0, c1, c2, c3⟩ := sc_cells hb
      have j2 := c3 2
      have HF : Hid (ES w (W2.setCell ⟨sb, 2, none⟩ (.bool false)) d S sb n t m false false rs) := es_old (sR_set (jr_front E2) 2 (.bool false) rfl)
      have HB : Hid (¬ Okay m l (room6 S)) := fun c => by
        obtain ⟨ns', q1, q2, q3⟩ := c.2
        rw [q1.uniq (unhide HN).2.1] at q3; omega
      clear E2 hb c0 c1 c3 hsz
      go_wp2_with fail
      go_ret
      exact ⟨_, rfl, Or.inl ⟨unhide HB, by decide, fun c => absurd (unhide HN).1 c, by decide, unhide HF⟩⟩
    · have hb : W2.heap[sb]? = some (sc jb mb false) := (E2.hold (r := sR sb jb mb false) (by simp)) (sb, sc jb mb false) (by simp)
      obtain ⟨c0, c1, c2, c3⟩ := sc_cells hb
      have j1 := c3 1
      have HF : Hid (ES w (W2.setCell ⟨sb, 1, none⟩ (.map (some nb))) d S' sb (n + 1) (packT (m.chg l) ns) (m.chg l) false false rs) := es_next (sR_set (jr_front E2) 1 (.map (some nb)) rfl)
      have HB : Hid (Okay m l (room6 S) ∧ (packT (m.chg l) ns).size ≤ room6 S ∧ P0 (packT (m.chg l) ns) S') := ⟨⟨(unhide HN).1, ns, (unhide HN).2.1, (unhide HN).2.2, hsz⟩, hsz, p0⟩
      clear E2 hb c0 c2 c3 hsz p0
      go_wp2_with fail
      go_ret
      exact ⟨_, rfl, Or.inr (Or.inl ⟨(unhide HB).1, rfl, S', ns, (unhide HN).2.1, (unhide HN).2.2, (unhide HB).2.1, (unhide HB).2.2, unhide HF⟩)⟩
    · have hb : W2.heap[sb]? = some (sc jb mb false) := (E2.hold (r := sR sb jb mb false) (by simp)) (sb, sc jb mb false) (by simp)
      obtain ⟨c0, c1, c2, c3⟩ := sc_cells hb
      have j2 := c3 2
      have HF : Hid (ES w (W2.setCell ⟨sb, 2, none⟩ (.bool true)) d S' sb n t m true true rs) := es_old (sR_set (jr_front E2) 2 (.bool true) rfl)
      have HB : Hid (Okay m l (room6 S) ∧ P6 S') := ⟨⟨(unhide HN).1, ns, (unhide HN).2.1, (unhide HN).2.2, hsz⟩, p6⟩
      clear E2 hb c0 c1 c3 hsz p6
      go_wp2_with fail
      go_ret
      exact ⟨_, rfl, Or.inr (Or.inr ⟨(unhide HB).1, rfl, S', ns, (unhide HN).2.1, (unhide HN).2.2, (unhide HB).2, unhide HF⟩)⟩
end Go.Proofs.YtfnpeiikjiffeaaGreat
