/- Texts joined: QuOnA QuOnB QuOnC QuOnD. -/
import Derived.Deep.AppendSrc
import Derived.Laws.AppendOwn
import Derived.Test.YtgiicendejgklaaZ31
/- A row of one's own that may begin within its block, and what is appended to it. No walk is in this text. -/
namespace Go.Proofs.Ytgiicendejgklaa
open Go.RowKit Go.Maps
def RowW (t : TypeId) (sz B : Nat) (w : World) (v : Value) (n : Nat) (cs : List Value) (gg : Option Nat) : Prop :=
  cs.length = n * sz ∧ ((gg = none ∧ n = 0 ∧ v = .slice none 0 0) ∨ ∃ g o c cur, gg = some g ∧ B ≤ g ∧ v = .slice (some ⟨g, o, none⟩) n c ∧ n ≤ c ∧ c ≤ maxLen ∧ w.heap[g]? = some (.cells cur t (0, 0)) ∧ o + c * sz ≤ cur.size ∧ ∀ (j : Nat) (u : Value), cs[j]? = some u → cur[o + j]? = some u)
structure Kp (gg : Option Nat) (w w' : World) : Prop where
  os : w'.os = w.os
  tape : w'.tape = w.tape
  output : w'.output = w.output
  size : w.heap.size ≤ w'.heap.size
  block : ∀ k, k < w.heap.size → gg ≠ some k → w'.heap[k]? = w.heap[k]?
theorem Kp.refl (gg : Option Nat) (w : World) : Kp gg w w := ⟨rfl, rfl, rfl, Nat.le_refl _, fun _ _ _ => rfl⟩
theorem Kp.bw {gg : Option Nat} {w w' : World} (h : Below w.heap.size w w') : Kp gg w w' := ⟨h.os, h.tape, h.output, h.size, fun k hk _ => h.block k hk⟩
theorem RowW.nil (t : TypeId) (sz B : Nat) (w : World) : RowW t sz B w (.slice none 0 0) 0 [] none := ⟨by simp, Or.inl ⟨rfl, rfl, rfl⟩⟩
theorem RowW.lt {t : TypeId} {sz B : Nat} {w : World} {v : Value} {n : Nat} {cs : List Value} {gg : Option Nat} (h : RowW t sz B w v n cs gg) : ∀ k, gg = some k → B ≤ k ∧ k < w.heap.size := fun k hk => by
  rcases h.2 with ⟨c, _⟩ | ⟨g, o, c, cur, e, hB, _, _, _, hg, _⟩
  · rw [c] at hk; cases hk
  · rw [e] at hk; simp only [Option.some.injEq] at hk; subst hk; exact ⟨hB, lt_of_blk hg⟩
theorem RowW.keep {t : TypeId} {sz B : Nat} {w w' : World} {v : Value} {n : Nat} {cs : List Value} {gg : Option Nat} (h : RowW t sz B w v n cs gg) (hk : ∀ k, gg = some k → w'.heap[k]? = w.heap[k]?) : RowW t sz B w' v n cs gg := by
  refine ⟨h.1, h.2.imp id ?_⟩
  rintro ⟨g, o, c, cur, e, hB, hv, h1, h2, hg, h3⟩
  exact ⟨g, o, c, cur, e, hB, hv, h1, h2, by rw [hk g e]; exact hg, h3⟩
theorem RowW.bw {t : TypeId} {sz B : Nat} {w w' : World} {v : Value} {n : Nat} {cs : List Value} {gg : Option Nat} (h : RowW t sz B w v n cs gg) (hb : Below w.heap.size w w') : RowW t sz B w' v n cs gg :=
  h.keep (fun k hk => hb.block k (h.lt k hk).2)
theorem RowW.slice {t : TypeId} {sz B : Nat} {w : World} {v : Value} {n : Nat} {cs : List Value} {gg : Option Nat} (h : RowW t sz B w v n cs gg) : ∃ a c, v = .slice a n c := by
  rcases h.2 with ⟨_, hn, hv⟩ | ⟨g, o, c, cur, _, _, hv, _⟩
  · subst hn; exact ⟨none, 0, hv⟩
  · exact ⟨_, _, hv⟩
theorem rdl_src {α ξ : Type} {K : EK α ξ} {w : World} {v : Value} {l : List α} {xs : List ξ} {tx : TypeId} (h : RdL K w v l xs) (hu : Try.prog.underlying tx = some (.slice K.t)) : Src Try.prog K.c tx v l.length (cellK K l xs) w := by
  obtain ⟨ad, cap, hv, hc⟩ := h.form
  have hone : ∀ u ∈ cellK K l xs, u.oneCell' = true := cellK_one h.xl h.el
  have hlen : (cellK K l xs).length = l.length * K.c := cellK_len (K := K) h.xl
  rw [hv]
  cases ad with
  | none =>
    rcases hc with e | ⟨g, o, e, _⟩
    · subst e
      have : cellK K [] xs = [] := List.eq_nil_of_length_eq_zero (by rw [hlen]; simp)
      rw [this]
      exact Src.ofNil w hu cap
    · cases e
  | some a =>
    refine Src.ofSlice w hu a l.length cap _ hlen (fun j u hj => ?_) hone
    rcases hc with e | ⟨g, o, e, hc⟩
    · subst e
      have : cellK K [] xs = [] := List.eq_nil_of_length_eq_zero (by rw [hlen]; simp)
      rw [this] at hj; cases hj
    · simp only [Option.some.injEq] at e
      subst e
      rw [Addr.add_lit]
      exact hc j u hj
theorem RowW.app {B : Nat} {w : World} {v x : Value} {n m : Nat} {cs news : List Value} {gg : Option Nat} {t tx ty e : TypeId} {i : TypeInfo} {z : Value} {sz bytes : Nat} (h : RowW e sz B w v n cs gg) (ht : Try.prog.underlying t = some (.slice e)) (hi : Try.prog.info? e = some i) (hz : i.zero = some z)
    (hsize : i.size = sz) (hby : i.bytes = bytes) (hzs : z.cells.size = sz) (hs : Src Try.prog sz tx x m news w) (h63 : n + m ≤ maxLen) (hbytes : (n + m) * bytes ≤ 140737488355328) (hB : B ≤ w.heap.size) :
    ∃ v' w', (Builtin.append_ #[t, tx] ty #[v, x]).run Try.prog w = .ok v' w' ∧ ∃ gg', RowW e sz B w' v' (n + m) (cs ++ news) gg' ∧ Kp gg w w' ∧ (gg' = gg ∨ ∀ k, gg' = some k → w.heap.size ≤ k) := by
  subst hsize hby
  have hnl := hs.newsLen
  have hlen : (cs ++ news).length = (n + m) * i.size := by rw [List.length_append, h.1, hnl, Nat.add_mul]
  have hsmall : n + m ≤ 9223372036854775807 := by unfold maxLen at h63; omega
  have grown : ∀ old, old < n + m → RowW e i.size B (w.drew.alloc (.cells ((cs ++ news).toArray ++ Builtin.zeroCells z.cells (grownCap w (n + m) old e - (n + m))) e)) (.slice (some ⟨w.heap.size, 0, none⟩) (n + m) (grownCap w (n + m) old e)) (n + m) (cs ++ news) (some w.heap.size) := fun old ho => by
    have hge := grownCap_ge w (n + m) old e
    have hcm : grownCap w (n + m) old e ≤ maxLen := grownCap_le_maxLen w (n + m) old e h63
    refine ⟨hlen, Or.inr ⟨w.heap.size, 0, _, _, rfl, hB, rfl, hge, hcm, heap_alloc_new w.drew _, ?_, fun j u hj => ?_⟩⟩
    · have hb : (Builtin.zeroCells z.cells (grownCap w (n + m) old e - (n + m))).size = (grownCap w (n + m) old e - (n + m)) * i.size := by rw [size_zeroCells, hzs]
      rw [Array.size_append, List.size_toArray, hlen, hb, ← Nat.add_mul, Nat.zero_add]
      exact Nat.mul_le_mul_right _ (by omega)
    · have hj1 := (List.getElem?_eq_some_iff.1 hj).1
      rw [Nat.zero_add, Array.getElem?_append_left (by simpa using hj1)]
      simpa using hj
  have kgrown : ∀ o, Kp gg w (w.drew.alloc o) := fun o => ⟨rfl, rfl, rfl, by simp, fun k hk _ => heap_alloc_old w.drew _ hk⟩
  rcases h.2 with ⟨rfl, h0, rfl⟩ | ⟨g, o, c, cur, rfl, hg0, rfl, hnc, hcm, hg, hsz, hcur⟩
  · subst h0
    have hcs : cs = [] := List.eq_nil_of_length_eq_zero (by rw [h.1]; simp)
    subst hcs
    rcases Nat.eq_zero_or_pos m with hm | hm
    · subst hm
      have hnews : news = [] := List.eq_nil_of_length_eq_zero (by rw [hnl]; simp)
      subst hnews
      refine ⟨.slice none 0 0, w, ?_, none, h, Kp.refl _ _, Or.inl rfl⟩
      rcases hs.kind with ⟨e', hk⟩ | hk <;> simp [Builtin.append_, run_underlying ht, run_underlying hk, sizeOf, typeInfo, hi, hs.len, hs.cells]
    · have hr := run_append_grow_src (P := Try.prog) (w := w) t tx ty e i z ht hi hz none 0 0 [] (run_firstCells_none w.drew i.size 0 0 0) x m news hs (by omega) (by omega) (growslice_fits (by omega) hbytes)
      exact ⟨_, _, hr, _, grown 0 (by omega), kgrown _, Or.inr (fun k hk => by simp only [Option.some.injEq] at hk; omega)⟩
  · by_cases hroom : n + m ≤ c
    · have hmul : (n + m) * i.size ≤ c * i.size := Nat.mul_le_mul_right _ hroom
      rw [Nat.add_mul] at hmul
      have hfit : o + n * i.size + news.length ≤ cur.size := by rw [hnl]; omega
      have hr := run_append_room_src (P := Try.prog) (w := w) t tx ty e i ht hi g o n c x m news hs hroom
        (fun j hj => by rw [blk_c hg (Array.getElem?_eq_getElem (show o + n * i.size + j < cur.size by omega))]; rfl) (fun j hj => froz_b' hg)
      rw [setCells_pokesQ] at hr
      refine ⟨_, _, hr, some g, ⟨hlen, Or.inr ⟨g, o, c, _, rfl, hg0, rfl, hroom, hcm, pokes_at news w _ cur hg, by rw [pk_size]; exact hsz, fun j u hj => ?_⟩⟩, ?_, Or.inl rfl⟩
      · rw [pk_get news cur _ hfit]
        by_cases hj1 : j < cs.length
        · rw [List.getElem?_append_left hj1] at hj
          rw [if_neg (by rw [h.1] at hj1; omega)]
          exact hcur j u hj
        · rw [List.getElem?_append_right (by omega)] at hj
          have hj2 := (List.getElem?_eq_some_iff.1 hj).1
          rw [h.1] at hj hj2 hj1
          rw [if_pos (by omega), show o + j - (o + n * i.size) = j - n * i.size by omega]
          exact hj
      · have hf := pokes_fr news w (o + n * i.size) (Fr.refl [g] w)
        exact ⟨hf.os, hf.tape, hf.output, hf.size, fun k hk hne => hf.block k hk (by simp; exact fun c => hne (by rw [c]))⟩
    · have hold : (Builtin.firstCells i.size n (.slice (some ⟨g, o, none⟩) n c)).run Try.prog w.drew = .ok cs.toArray w.drew := run_firstCells_some w.drew i.size n ⟨g, o, none⟩ n c cs h.1 (fun j u hj => by
        rw [Addr.add_lit]
        exact blk_c (W := w.drew) hg (hcur j u hj))
      have hr := run_append_grow_src (P := Try.prog) (w := w) t tx ty e i z ht hi hz (some ⟨g, o, none⟩) n c cs hold x m news hs (by omega) (by omega) (growslice_fits (by omega) hbytes)
      exact ⟨_, _, hr, _, grown c (by omega), kgrown _, Or.inr (fun k hk => by simp only [Option.some.injEq] at hk; omega)⟩
theorem wpList_appW {ops : Array Oper} {rest : List Oper} {o : Oper} {a : Act} {w : World} {Q : Exit → Act → World → Prop} (hgd : o.guard = none) (s x : Operand) (t tx : TypeId)
    (ho : o.op = .call { callee := .builtin .append, args := #[s, x], argTypes := #[t, tx] }) {B n m : Nat} {v xv : Value} {cs news : List Value} {gg : Option Nat} {e : TypeId} {i : TypeInfo} {z : Value} {sz bytes : Nat}
    (hv : a.eval s = v) (h : RowW e sz B w v n cs gg) (ht : Try.prog.underlying t = some (.slice e)) (hi : Try.prog.info? e = some i) (hz : i.zero = some z)
    (hsize : i.size = sz) (hby : i.bytes = bytes) (hzs : z.cells.size = sz) (hx : a.eval x = xv) (hs : Src Try.prog sz tx xv m news w) (h63 : n + m ≤ maxLen) (hbytes : (n + m) * bytes ≤ 140737488355328) (hB : B ≤ w.heap.size)
    (hK : ∀ v' w' gg', RowW e sz B w' v' (n + m) (cs ++ news) gg' → Kp gg w w' → (gg' = gg ∨ ∀ k, gg' = some k → w.heap.size ≤ k) → wpList Try.prog ops Q rest (a.put o.dst v') w') : wpList Try.prog ops Q (o :: rest) a w := by
  refine wpList_plain hgd fun K hK' => ?_
  obtain ⟨v', w', hrun, gg', r1, r2, r3⟩ := h.app (ty := o.type) ht hi hz hsize hby hzs hs h63 hbytes hB
  unfold Oper.wp
  simp [execOp, ho, resolve, invoke, builtin, hv, hx, hrun, Result.andThen]
  exact hK' _ _ (hK v' w' gg' r1 r2 r3)
theorem step_appW {ops : Array Oper} {o : Oper} {a : Act} {w : World} {K : Act → World → Prop} {Q : Exit → Act → World → Prop} {E : Prop} (hgd : o.guard = none) (s x : Operand) (t tx : TypeId)
    (ho : o.op = .call { callee := .builtin .append, args := #[s, x], argTypes := #[t, tx] }) {B n m : Nat} {v xv : Value} {cs news : List Value} {gg : Option Nat} {e : TypeId} {i : TypeInfo} {z : Value} {sz bytes : Nat}
    (hv : a.eval s = v) (h : RowW e sz B w v n cs gg) (ht : Try.prog.underlying t = some (.slice e)) (hi : Try.prog.info? e = some i) (hz : i.zero = some z)
    (hsize : i.size = sz) (hby : i.bytes = bytes) (hzs : z.cells.size = sz) (hx : a.eval x = xv) (hs : Src Try.prog sz tx xv m news w) (h63 : n + m ≤ maxLen) (hbytes : (n + m) * bytes ≤ 140737488355328) (hB : B ≤ w.heap.size)
    (hK : ∀ v' w' gg', RowW e sz B w' v' (n + m) (cs ++ news) gg' → Kp gg w w' → (gg' = gg ∨ ∀ k, gg' = some k → w.heap.size ≤ k) → K (a.put o.dst v') w') : if Region.wanted o (yielded ops a.tmps) = true then Oper.wp Try.prog o a w K Q else E := by
  have hw : Region.wanted o (yielded ops a.tmps) = true := by simp [Region.wanted, hgd]
  rw [if_pos hw]
  obtain ⟨v', w', hrun, gg', r1, r2, r3⟩ := h.app (ty := o.type) ht hi hz hsize hby hzs hs h63 hbytes hB
  unfold Oper.wp
  simp [execOp, ho, resolve, invoke, builtin, hv, hx, hrun, Result.andThen]
  exact hK v' w' gg' r1 r2 r3
end Go.Proofs.Ytgiicendejgklaa

/- QueueOnce: feeds of a kind and a number alone read in every world; rows of these; what one link sends. No walk is in this text. -/
namespace Go.Proofs.Ytgiicendejgklaa
open Go.RowKit Go.Maps
theorem ri_any0 {c : Nat} {w : World} {v : Value} (h : RI c w v []) (W : World) : RI c W v [] := by
  obtain ⟨a, cap, hv, _⟩ := h.form
  exact ⟨h.len, h.fit, a, cap, hv, Or.inl rfl⟩
theorem nums_any0 {w : World} {v : Value} (h : Nums w v []) (W : World) : Nums W v [] := by
  rcases h with h | ⟨g, o, cap, hv, h1, h2, _⟩
  · exact Or.inl h
  · exact Or.inr ⟨g, o, cap, hv, h1, h2, by simp⟩
theorem trd_any0 {w : World} {v : Value} (h : Trd w v []) (W : World) : Trd W v [] := by
  refine ⟨h.len, h.unl, Or.inl ⟨rfl, ?_⟩⟩
  rcases h.form with ⟨_, c⟩ | ⟨b, o, c, hv, _⟩
  · exact c
  · exact ⟨_, _, hv⟩
theorem cm00_any {w : World} {x : Cv} (h : CmR w cm00 x) (W : World) : CmR W cm00 x :=
  ⟨ri_any0 h.adds W, nums_any0 h.rem W, h.rlen, ri_any0 h.seals W, ri_any0 h.joins W, trd_any0 h.next W⟩
theorem fdK_any {w : World} {k t : Int} {x : Fx} (h : FdR w (fdK k t) x) (W : World) : FdR W (fdK k t) x :=
  ⟨cm00_any h.c W, ⟨cm00_any h.m.c W, trd_any0 h.m.t W⟩⟩
def DP (s : Nat) : Pt := ⟨0, 1, false, (s : Int), fdK 4 (s : Int)⟩
def AP (e : Nat) : Pt := ⟨1, 0, true, (e : Int), fdK 0 0⟩
def OkP (np e0 : Nat) (p : Pt) : Prop := (∃ s, p = DP s ∧ s < np) ∨ (∃ e, p = AP e ∧ e ≤ e0 ∧ 0 < np)
theorem OkP.mono {np e0 np' e0' : Nat} {p : Pt} (h : OkP np e0 p) (h1 : np ≤ np') (h2 : e0 ≤ e0') : OkP np' e0' p := by
  rcases h with ⟨s, e, hs⟩ | ⟨e, he, h3, h4⟩
  · exact Or.inl ⟨s, e, by omega⟩
  · exact Or.inr ⟨e, he, by omega, by omega⟩
theorem OkP.any {np e0 : Nat} {p : Pt} {w : World} {x : Fx} (h : OkP np e0 p) (hr : FdR w p.fd x) (W : World) : FdR W p.fd x ∧ SmF p.fd := by
  rcases h with ⟨s, rfl, _⟩ | ⟨e, rfl, _⟩
  · exact ⟨fdK_any hr W, fdK_s _ _⟩
  · exact ⟨fdK_any hr W, fdK_s _ _⟩
structure WayC (np e0 : Nat) (ps : List Pt) (xs : List Fx) : Prop where
  xl : xs.length = ps.length
  ok : ∀ p ∈ ps, OkP np e0 p
  rd : ∀ (i : Nat) p x, ps[i]? = some p → xs[i]? = some x → ∀ W, FdR W p.fd x ∧ SmF p.fd
theorem WayC.nil (np e0 : Nat) : WayC np e0 [] [] := ⟨rfl, by simp, by simp⟩
theorem WayC.mono {np e0 np' e0' : Nat} {ps : List Pt} {xs : List Fx} (h : WayC np e0 ps xs) (h1 : np ≤ np') (h2 : e0 ≤ e0') : WayC np' e0' ps xs := ⟨h.xl, fun p hp => (h.ok p hp).mono h1 h2, h.rd⟩
theorem WayC.app {np e0 : Nat} {ps ps' : List Pt} {xs xs' : List Fx} (h : WayC np e0 ps xs) (h' : WayC np e0 ps' xs') : WayC np e0 (ps ++ ps') (xs ++ xs') := by
  refine ⟨by simp [h.xl, h'.xl], fun p hp => ?_, fun i p x hp hx => ?_⟩
  · rcases List.mem_append.1 hp with c | c
    · exact h.ok p c
    · exact h'.ok p c
  · by_cases c : i < ps.length
    · rw [List.getElem?_append_left c] at hp
      rw [List.getElem?_append_left (by rw [h.xl]; exact c)] at hx
      exact h.rd i p x hp hx
    · rw [List.getElem?_append_right (by omega)] at hp
      rw [List.getElem?_append_right (by rw [h.xl]; omega), h.xl] at hx
      exact h'.rd _ p x hp hx
theorem WayC.take {np e0 : Nat} {ps : List Pt} {xs : List Fx} (h : WayC np e0 ps xs) (k : Nat) : WayC np e0 (ps.take k) (xs.take k) := by
  refine ⟨by simp [h.xl], fun p hp => h.ok p (List.mem_of_mem_take hp), fun i p x hp hx => ?_⟩
  have hi : i < k := by
    have := (List.getElem?_eq_some_iff.1 hp).1
    rw [List.length_take] at this; omega
  rw [List.getElem?_take_of_lt hi] at hp hx
  exact h.rd i p x hp hx
theorem WayC.drop {np e0 : Nat} {ps : List Pt} {xs : List Fx} (h : WayC np e0 ps xs) (k : Nat) : WayC np e0 (ps.drop k) (xs.drop k) := by
  refine ⟨by simp [h.xl], fun p hp => h.ok p (List.mem_of_mem_drop hp), fun i p x hp hx => ?_⟩
  rw [List.getElem?_drop] at hp hx
  exact h.rd _ p x hp hx
theorem WayC.of {np e0 : Nat} {ps : List Pt} {xs : List Fx} {w : World} {v : Value} (h : RdL kPk w v ps xs) (ho : ∀ p ∈ ps, OkP np e0 p) : WayC np e0 ps xs :=
  ⟨h.xl, ho, fun i p x hp hx W => (ho p (List.mem_of_getElem? hp)).any (h.el i p x hp hx).1 W⟩
def fds (a d : Nat) : List Fd := (List.range d).map (fun i => fdK 4 ((a + i : Nat) : Int))
theorem fds_len (a d : Nat) : (fds a d).length = d := by simp [fds]
theorem fds_app (a d e : Nat) : fds a d ++ fds (a + d) e = fds a (d + e) := by
  unfold fds
  rw [List.range_add, List.map_append, List.map_map]
  congr 1
  apply List.map_congr_left
  intro i _
  simp [Nat.add_assoc]
theorem fds_get {a d i : Nat} (h : i < d) : (fds a d)[i]? = some (fdK 4 ((a + i : Nat) : Int)) := by
  unfold fds
  rw [List.getElem?_map, List.getElem?_range h]; rfl
def hq (np a : Nat) : Lk := ⟨1, (np : Int), fds a (np - a), 0, []⟩
theorem hq_ql (np a : Nat) : (hq np a).q.length = np - a := fds_len _ _
theorem fds_tell {a d : Nat} : ∀ f ∈ fds a d, tellP f := by
  intro f hf
  unfold fds at hf
  obtain ⟨i, _, rfl⟩ := List.mem_map.1 hf
  exact tell_4 _
theorem hq_ok {np a : Nat} (h : np ≤ 60) : okLs [hq np a] := by
  have hl := hq_ql np a
  refine ok_one ⟨by show (0 : Int) ≤ 1; decide, by show (1 : Int) < 4; decide⟩ ⟨by show (np : Int) ≤ _; omega, by omega, by rw [hl]; show ((np - a : Nat) : Int) ≤ (np : Int); omega, fds_tell⟩ (exp_0 rfl rfl)
theorem hq_push {np a : Nat} (h : a ≤ np) : { hq np a with q := (hq np a).q ++ [fdK 4 (np : Int)], nx := (hq np a).nx + 1 } = hq (np + 1) a := by
  have e1 : fds a (np - a) ++ [fdK 4 (np : Int)] = fds a (np + 1 - a) := by
    have e2 : [fdK 4 (np : Int)] = fds (a + (np - a)) 1 := by
      unfold fds
      simp [show a + (np - a) = np by omega]
    rw [e2, fds_app]
    congr 1; omega
  show Lk.mk 1 ((np : Int) + 1) (fds a (np - a) ++ [fdK 4 (np : Int)]) 0 [] = Lk.mk 1 (((np + 1 : Nat) : Int)) (fds a (np + 1 - a)) 0 []
  rw [e1, Int.natCast_add]; rfl
theorem hq_ack {np a e : Nat} (h : a ≤ np) : ackL (hq np a) (e : Int) = hq np (max a e) := by
  have hl := hq_ql np a
  have e1 : ((e : Int) - ((np : Int) - ((np - a : Nat) : Int))).toNat = e - a := by omega
  show Lk.mk 1 (np : Int) ((hq np a).q.drop ((e : Int) - ((np : Int) - ((hq np a).q.length : Int))).toNat) 0 [] = Lk.mk 1 (np : Int) (fds (max a e) (np - max a e)) 0 []
  rw [hl, e1]
  congr 1
  show (fds a (np - a)).drop (e - a) = _
  apply List.ext_getElem?
  intro i
  rw [List.getElem?_drop]
  by_cases c : i < np - max a e
  · rw [fds_get c, fds_get (by omega)]
    congr 3; omega
  · rw [List.getElem?_eq_none (by rw [fds_len]; omega), List.getElem?_eq_none (by rw [fds_len]; omega)]
def dps (a d : Nat) : List Pt := (List.range d).map (fun i => DP (a + i))
theorem dps_len (a d : Nat) : (dps a d).length = d := by simp [dps]
theorem dps_get {a d i : Nat} (h : i < d) : (dps a d)[i]? = some (DP (a + i)) := by
  unfold dps
  rw [List.getElem?_map, List.getElem?_range h]; rfl
theorem dps_ok {np a e0 : Nat} : ∀ p ∈ dps a (np - a), OkP np e0 p := by
  intro p hp
  unfold dps at hp
  obtain ⟨i, hi, rfl⟩ := List.mem_map.1 hp
  have := List.mem_range.1 hi
  exact Or.inl ⟨_, rfl, by omega⟩
theorem hq_snd {np a : Nat} (h : a ≤ np) : sndL 0 [hq np a] = dps a (np - a) := by
  have hl := hq_ql np a
  have hk : ∀ i, i < np - a → sndK 0 (hq np a) i = some (DP (a + i)) := fun i hi => by
    unfold sndK
    rw [hl]
    show ((fds a (np - a))[i]?).map _ = _
    rw [fds_get hi]
    show some (Pt.mk 0 1 false ((np : Int) - ((np - a : Nat) : Int) + (i : Int)) (fdK 4 ((a + i : Nat) : Int))) = some (Pt.mk 0 1 false ((a + i : Nat) : Int) (fdK 4 ((a + i : Nat) : Int)))
    rw [show (np : Int) - ((np - a : Nat) : Int) + (i : Int) = ((a + i : Nat) : Int) by omega]
  have hs : ∀ d, d ≤ np - a → sndT 0 (hq np a) d = dps a d := by
    intro d
    induction d with
    | zero => intro _; rfl
    | succ d ih =>
      intro hd
      unfold sndT dps at ih ⊢
      rw [List.range_succ, List.filterMap_append, List.map_append, ih (by omega)]
      simp [hk d (by omega)]
  unfold sndL
  simp only [List.flatMap_cons, List.flatMap_nil, List.append_nil]
  rw [hl, hs _ (Nat.le_refl _)]
def HL {α ξ : Type} (K : EK α ξ) (wr : World) (v : Value) (l : List α) (gs : List (Option Nat)) : Prop :=
  ∃ xs Bh wh, RdA K Bh wh v l xs ∧ Abv Bh wh wr ∧ ∀ g ∈ gs, ∀ k, g = some k → k < Bh ∨ wh.heap.size ≤ k
theorem HL.rd {α ξ : Type} {K : EK α ξ} {wr : World} {v : Value} {l : List α} {gs : List (Option Nat)} (h : HL K wr v l gs) : ∃ xs, RdL K wr v l xs := by
  obtain ⟨xs, Bh, wh, h1, h2, _⟩ := h
  exact ⟨xs, h1 _ h2⟩
theorem HL.kp {α ξ : Type} {K : EK α ξ} {wr W : World} {v : Value} {l : List α} {gs : List (Option Nat)} (h : HL K wr v l gs) {g : Option Nat} (hg : g = none ∨ g ∈ gs) (hk : Kp g wr W) : HL K W v l gs := by
  obtain ⟨xs, Bh, wh, h1, h2, h3⟩ := h
  refine ⟨xs, Bh, wh, h1, ⟨Nat.le_trans h2.size hk.size, fun k k1 k2 => ?_⟩, h3⟩
  rw [hk.block k (Nat.lt_of_lt_of_le k2 h2.size) (fun c => ?_)]
  · exact h2.block k k1 k2
  · rcases hg with e | e
    · rw [e] at c; cases c
    · rcases h3 g e k c with d | d <;> omega
theorem HL.bw {α ξ : Type} {K : EK α ξ} {wr W : World} {v : Value} {l : List α} {gs : List (Option Nat)} (h : HL K wr v l gs) (hb : Below wr.heap.size wr W) : HL K W v l gs := h.kp (g := none) (Or.inl rfl) (Kp.bw hb)
theorem HL.sub {α ξ : Type} {K : EK α ξ} {wr : World} {v : Value} {l : List α} {gs gs' : List (Option Nat)} (h : HL K wr v l gs) (hs : ∀ g ∈ gs', g ∈ gs ∨ ∀ k, g = some k → wr.heap.size ≤ k) : HL K wr v l gs' := by
  obtain ⟨xs, Bh, wh, h1, h2, h3⟩ := h
  refine ⟨xs, Bh, wh, h1, h2, fun g hg k hk => ?_⟩
  rcases hs g hg with c | c
  · exact h3 g c k hk
  · right; exact Nat.le_trans h2.size (c k hk)
theorem HL.of {α ξ : Type} {K : EK α ξ} {w w' : World} {v : Value} {l : List α} {xs : List ξ} {gs : List (Option Nat)} (h : RdA K w.heap.size w' v l xs) (hg : ∀ g ∈ gs, ∀ k, g = some k → k < w.heap.size) : HL K w' v l gs :=
  ⟨xs, _, _, h, Abv.refl _ _, fun g h1 k h2 => Or.inl (hg g h1 k h2)⟩
theorem HL.nil {α ξ : Type} (K : EK α ξ) (w : World) (gs : List (Option Nat)) : HL K w (.slice none 0 0) [] gs :=
  ⟨[], w.heap.size, w, fun _ _ => rdl_nil _ _, Abv.refl _ _, fun _ _ k _ => by omega⟩
end Go.Proofs.Ytgiicendejgklaa

/- QueueOnce: what stands between two rounds; the calls. No walk is in this text. -/
namespace Go.Proofs.Ytgiicendejgklaa
open Go.RowKit Go.Maps
def HereP (wr : World) (hv : Value) (np a : Nat) (gs : List (Option Nat)) : Prop := ∃ L, HL kLk wr hv L gs ∧ ((L = [] ∧ np = 0) ∨ L = [hq np a])
def ThereP (wr : World) (tv : Value) (met : Nat → Bool) (e0 : Nat) (gs : List (Option Nat)) : Prop := ∃ L, HL kLk wr tv L gs ∧ ((L = [] ∧ e0 = 0 ∧ ∀ i, met i = false) ∨ ∃ q, L = [q] ∧ OInv met q e0)
theorem HereP.map {wr W : World} {hv : Value} {np a : Nat} {gs gs' : List (Option Nat)} (h : HereP wr hv np a gs) (f : ∀ L, HL kLk wr hv L gs → HL kLk W hv L gs') : HereP W hv np a gs' := by
  obtain ⟨L, h1, h2⟩ := h
  exact ⟨L, f L h1, h2⟩
theorem ThereP.map {wr W : World} {tv : Value} {met : Nat → Bool} {e0 : Nat} {gs gs' : List (Option Nat)} (h : ThereP wr tv met e0 gs) (f : ∀ L, HL kLk wr tv L gs → HL kLk W tv L gs') : ThereP W tv met e0 gs' := by
  obtain ⟨L, h1, h2⟩ := h
  exact ⟨L, f L h1, h2⟩
structure QC (w wr : World) (hv tv lv : Value) (np a e0 d : Nat) (gw gt : Option Nat) : Prop where
  bel : Below w.heap.size w wr
  n60 : np ≤ 60
  ae : a ≤ e0
  en : e0 ≤ np
  gwb : ∀ k, gw = some k → w.heap.size ≤ k ∧ k < wr.heap.size
  ex : ∃ met fs, (∀ i, met i = true → i < np) ∧ HereP wr hv np a [gw, gt] ∧ ThereP wr tv met e0 [gw, gt] ∧ RowW 43 53 w.heap.size wr lv d (cellK kFd (fds 0 d) fs) gt ∧ fs.length = d ∧ (∀ k, gt = some k → gw ≠ some k)
theorem QC.start (w : World) : QC w w (.slice none 0 0) (.slice none 0 0) (.slice none 0 0) 0 0 0 0 none none := by
  refine ⟨Below.refl _ _, by omega, by omega, by omega, by simp, fun _ => false, [], by simp, ⟨[], HL.nil _ _ _, Or.inl ⟨rfl, rfl⟩⟩, ⟨[], HL.nil _ _ _, Or.inl ⟨rfl, rfl, fun _ => rfl⟩⟩, ?_, rfl, by simp⟩
  exact RowW.nil _ _ _ _
theorem Kp.bel {w wr W : World} {g : Option Nat} (h : Below w.heap.size w wr) (hk : Kp g wr W) (hg : ∀ k, g = some k → w.heap.size ≤ k) : Below w.heap.size w W :=
  ⟨by rw [hk.os, h.os], by rw [hk.tape, h.tape], by rw [hk.output, h.output], Nat.le_trans h.size hk.size, fun k k1 => by
    rw [hk.block k (Nat.lt_of_lt_of_le k1 h.size) (fun c => by have := hg k c; omega)]
    exact h.block k k1⟩
theorem QC.mut {w wr W : World} {hv tv lv : Value} {np a e0 d : Nat} {gw gw' gt : Option Nat} (h : QC w wr hv tv lv np a e0 d gw gt) (hk : Kp gw wr W) (hg : gw' = gw ∨ ∀ k, gw' = some k → wr.heap.size ≤ k) (hb : ∀ k, gw' = some k → w.heap.size ≤ k ∧ k < W.heap.size) : QC w W hv tv lv np a e0 d gw' gt := by
  obtain ⟨bel, n60, ae, en, gwb, met, fs, e1, e2, e3, e4, e5, e6⟩ := h
  have hsub : ∀ g ∈ [gw', gt], g ∈ [gw, gt] ∨ ∀ k, g = some k → wr.heap.size ≤ k := fun g hg1 => by
    simp only [List.mem_cons, List.not_mem_nil, or_false] at hg1 ⊢
    rcases hg1 with c | c
    · rcases hg with d | d
      · left; left; rw [c, d]
      · right; intro k hk1; exact d k (by rw [← c, hk1])
    · left; right; exact c
  have hmv : ∀ {v : Value} (L : List Lk), HL kLk wr v L [gw, gt] → HL kLk W v L [gw', gt] := fun L h1 => by
    have h2 := h1.kp (Or.inr (by simp)) hk
    obtain ⟨xs, Bh, wh, a1, a2, a3⟩ := h1
    refine ⟨xs, Bh, wh, a1, ?_, fun g hg1 k hk1 => ?_⟩
    · refine ⟨Nat.le_trans a2.size hk.size, fun k k1 k2 => ?_⟩
      rw [hk.block k (Nat.lt_of_lt_of_le k2 a2.size) (fun c => by rcases a3 gw (by simp) k c with d | d <;> omega)]
      exact a2.block k k1 k2
    · rcases hsub g hg1 with c | c
      · exact a3 g c k hk1
      · right; exact Nat.le_trans a2.size (c k hk1)
  refine ⟨Kp.bel bel hk (fun k hk1 => (gwb k hk1).1), n60, ae, en, hb, met, fs, e1, e2.map hmv, e3.map hmv, ?_, e5, fun k hk1 c => ?_⟩
  · exact e4.keep (fun k hk1 => hk.block k (e4.lt k hk1).2 (fun c => e6 k hk1 c))
  · rcases hg with d | d
    · exact e6 k hk1 (by rw [← d]; exact c)
    · have := d k c; have := (e4.lt k hk1).2; omega
theorem QC.bw {w wr W : World} {hv tv lv : Value} {np a e0 d : Nat} {gw gt : Option Nat} (h : QC w wr hv tv lv np a e0 d gw gt) (hb : Below wr.heap.size wr W) : QC w W hv tv lv np a e0 d gw gt := by
  obtain ⟨bel, n60, ae, en, gwb, met, fs, e1, e2, e3, e4, e5, e6⟩ := h
  exact ⟨bw_tr bel hb, n60, ae, en, fun k hk => ⟨(gwb k hk).1, Nat.lt_of_lt_of_le (gwb k hk).2 hb.size⟩, met, fs, e1, e2.map (fun L h1 => h1.bw hb), e3.map (fun L h1 => h1.bw hb), e4.bw hb, e5, e6⟩
theorem QC.quit {w wr : World} {hv tv lv : Value} {np a e0 d : Nat} {gw gt : Option Nat} (h : QC w wr hv tv lv np a e0 d gw gt) : QC w wr hv tv lv np a e0 d none gt := by
  obtain ⟨bel, n60, ae, en, gwb, met, fs, e1, e2, e3, e4, e5, e6⟩ := h
  have hs : ∀ g ∈ [none, gt], g ∈ [gw, gt] ∨ ∀ k, g = some k → wr.heap.size ≤ k := fun g hg => by
    simp only [List.mem_cons, List.not_mem_nil, or_false] at hg ⊢
    rcases hg with c | c
    · right; intro k hk; rw [c] at hk; cases hk
    · left; right; exact c
  exact ⟨bel, n60, ae, en, by simp, met, fs, e1, e2.map (fun L h1 => h1.sub hs), e3.map (fun L h1 => h1.sub hs), e4, e5, by simp⟩
theorem QC.told {w wr : World} {hv tv lv : Value} {np a e0 d : Nat} {gw gt : Option Nat} (h : QC w wr hv tv lv np a e0 d gw gt) : ∃ fs, RowW 43 53 w.heap.size wr lv d (cellK kFd (fds 0 d) fs) gt ∧ fs.length = d ∧ (∀ k, gt = some k → gw ≠ some k) ∧
    ∀ (m : Nat) (fs2 : List Fx) lv' W gt', fs2.length = m → RowW 43 53 w.heap.size W lv' (d + m) (cellK kFd (fds 0 d) fs ++ cellK kFd (fds d m) fs2) gt' → Kp gt wr W → (gt' = gt ∨ ∀ k, gt' = some k → wr.heap.size ≤ k) → QC w W hv tv lv' np a e0 (d + m) gw gt' := by
  obtain ⟨bel, n60, ae, en, gwb, met, fs, e1, e2, e3, e4, e5, e6⟩ := h
  refine ⟨fs, e4, e5, e6, fun m fs2 lv' W gt' hm hr hk hg => ?_⟩
  have hsub : ∀ g ∈ [gw, gt'], g ∈ [gw, gt] ∨ ∀ k, g = some k → wr.heap.size ≤ k := fun g hg1 => by
    simp only [List.mem_cons, List.not_mem_nil, or_false] at hg1 ⊢
    rcases hg1 with c | c
    · left; left; exact c
    · rcases hg with d | d
      · left; right; rw [c, d]
      · right; intro k hk1; exact d k (by rw [← c, hk1])
  have hmv : ∀ {v : Value} (L : List Lk), HL kLk wr v L [gw, gt] → HL kLk W v L [gw, gt'] := fun L h1 => by
    obtain ⟨xs, Bh, wh, a1, a2, a3⟩ := h1
    refine ⟨xs, Bh, wh, a1, ?_, fun g hg1 k hk1 => ?_⟩
    · refine ⟨Nat.le_trans a2.size hk.size, fun k k1 k2 => ?_⟩
      rw [hk.block k (Nat.lt_of_lt_of_le k2 a2.size) (fun c => by rcases a3 gt (by simp) k c with d | d <;> omega)]
      exact a2.block k k1 k2
    · rcases hsub g hg1 with c | c
      · exact a3 g c k hk1
      · right; exact Nat.le_trans a2.size (c k hk1)
  refine ⟨Kp.bel bel hk (fun k hk1 => (e4.lt k hk1).1), n60, ae, en, fun k hk1 => ⟨(gwb k hk1).1, Nat.lt_of_lt_of_le (gwb k hk1).2 hk.size⟩, met, fs ++ fs2, e1, e2.map hmv, e3.map hmv, ?_, by simp [e5, hm], fun k hk1 c => ?_⟩
  · have e : cellK kFd (fds 0 d) fs ++ cellK kFd (fds d m) fs2 = cellK kFd (fds 0 (d + m)) (fs ++ fs2) := by
      have e7 : fds 0 d ++ fds d m = fds 0 (d + m) := by have := fds_app 0 d m; rw [Nat.zero_add] at this; exact this
      rw [← e7]
      unfold cellK rowsK
      rw [List.zipWith_append (by rw [fds_len, e5]), List.flatten_append]
    rw [← e]; exact hr
  · rcases hg with d | d
    · exact e6 k (by rw [← d]; exact hk1) c
    · have := d k hk1; have := (gwb k c).2; omega
theorem QC.push {w wr : World} {hv tv lv : Value} {np a e0 d : Nat} {gw gt : Option Nat} (h : QC w wr hv tv lv np a e0 d gw gt) (hn : np < 60) {y : Fx} (hy : FdR wr (fdK 4 (np : Int)) y) :
    Calls Try.prog 11 #[hv, .int .i64 1, .agg (fdC (fdK 4 (np : Int)) y).toArray] wr fun e w' => ∃ v', e = .returned (.tuple #[v', .int .i64 0]) ∧ Hid (QC w w' v' tv lv (np + 1) a e0 d gw gt ∧ Below wr.heap.size wr w') := by
  obtain ⟨bel, n60, ae, en, gwb, met, fs, e1, ⟨L, hL, hl⟩, e3, e4, e5, e6⟩ := h
  obtain ⟨xs, hr⟩ := hL.rd
  have hlen : L.length ≤ 1000000 := by rcases hl with ⟨rfl, _⟩ | rfl <;> simp
  refine (push_any hr hlen hy (fdK_s _ _) 1).mono ?_
  rintro e w' ⟨v', er, rfl, b, hc⟩
  have hok : okLs L := by
    rcases hl with ⟨rfl, _⟩ | rfl
    · exact ok_nil
    · exact hq_ok n60
  have htl : tellP (fdK 4 (np : Int)) := tell_4 _
  rcases hc with ⟨_, hno, _⟩ | ⟨_, _, _, k, L', q, hk, hq1, hc⟩
  · exact absurd ⟨hok, htl, by decide, by decide⟩ hno
  have hLk : k = 0 ∧ q.q.length = np - a ∧ q.nx = (np : Int) ∧ L' = [q] ∧ { q with q := q.q ++ [fdK 4 (np : Int)], nx := q.nx + 1 } = hq (np + 1) a := by
    rcases hl with ⟨rfl, h0⟩ | rfl
    · obtain ⟨rfl, rfl⟩ := hk.none
      simp only [List.getElem?_cons_zero, Option.some.injEq] at hq1
      subst hq1; subst h0
      have ha0 : a = 0 := by omega
      subst ha0
      exact ⟨rfl, rfl, rfl, rfl, rfl⟩
    · obtain ⟨rfl, rfl⟩ := Lnk.one (q := hq np a) hk
      simp only [List.getElem?_cons_zero, Option.some.injEq] at hq1
      subst hq1
      exact ⟨rfl, hq_ql np a, rfl, rfl, hq_push (by omega)⟩
  obtain ⟨rfl, k1, k2, rfl, k3⟩ := hLk
  rcases hc with ⟨_, hf, _⟩ | ⟨rfl, _, _, xs', ho⟩
  · rw [k1, k2] at hf; omega
  have k4 : [q].set 0 { q with q := q.q ++ [fdK 4 (np : Int)], nx := q.nx + 1 } = [hq (np + 1) a] := by
    simp only [List.set_cons_zero]; rw [k3]
  rw [k4] at ho
  have hrda : RdA kLk wr.heap.size w' v' [hq (np + 1) a] xs' := OwL.lka ho (fun b hb => by
    simp only [List.mem_singleton] at hb; subst hb
    refine ⟨by rw [hq_ql]; omega, by show 0 ≤ _; omega, fun f hf => ?_, by intro e he; cases he⟩
    unfold hq fds at hf
    obtain ⟨i, _, rfl⟩ := List.mem_map.1 hf
    exact fdK_s _ _)
  refine ⟨v', rfl, ⟨bw_tr bel b, by omega, ae, by omega, fun k hk => ⟨(gwb k hk).1, Nat.lt_of_lt_of_le (gwb k hk).2 b.size⟩, met, fs, fun i hi => (by have := e1 i hi; omega), ⟨_, HL.of hrda ?_, Or.inr rfl⟩, e3.map (fun L h1 => h1.bw b), e4.bw b, e5, e6⟩, b⟩
  intro g hg k hk
  simp only [List.mem_cons, List.not_mem_nil, or_false] at hg
  rcases hg with rfl | rfl
  · exact (gwb k hk).2
  · exact (e4.lt k hk).2
theorem QC.sent {w wr : World} {hv tv lv : Value} {np a e0 d : Nat} {gw gt : Option Nat} (h : QC w wr hv tv lv np a e0 d gw gt) :
    Calls Try.prog 16 #[hv, .int .i64 0] wr fun e w' => ∃ ad c xs, e = .returned (.tuple #[.slice ad (np - a) c, .int .i64 0]) ∧ Hid (QC w w' hv tv lv np a e0 d gw gt ∧ Below wr.heap.size wr w' ∧ RdA kPk wr.heap.size w' (.slice ad (np - a) c) (dps a (np - a)) xs) := by
  have hB := fun W hb => h.bw (W := W) hb
  obtain ⟨bel, n60, ae, en, gwb, met, fs, e1, ⟨L, hL, hl⟩, e3, e4, e5, e6⟩ := h
  obtain ⟨xs, hr⟩ := hL.rd
  have hlen : L.length ≤ 1000000 := by rcases hl with ⟨rfl, _⟩ | rfl <;> simp
  refine (sends_any hr hlen 0).mono ?_
  rintro e w' ⟨v', er, rfl, b, hc⟩
  have hok : okLs L := by
    rcases hl with ⟨rfl, _⟩ | rfl
    · exact ok_nil
    · exact hq_ok n60
  have hsn : sndL 0 L = dps a (np - a) := by
    rcases hl with ⟨rfl, h0⟩ | rfl
    · subst h0; rw [Nat.zero_sub]; rfl
    · exact hq_snd (by omega)
  rcases hc with ⟨_, hno, _⟩ | ⟨rfl, _, _, xs', ho⟩
  · exact absurd ⟨hok, by decide, by decide⟩ hno
  rw [hsn] at ho
  have hrda : RdA kPk wr.heap.size w' v' (dps a (np - a)) xs' := fun w2 h2 => by
    refine OwL.rd (OwL.keep ho (fun k hk => h2.block k (ho.lt k hk).1 (ho.lt k hk).2)) (fun i p x hp _ hoo => ?_)
    have hs : SmF p.fd := by
      unfold dps at hp
      have := List.mem_of_getElem? hp
      obtain ⟨i, _, rfl⟩ := List.mem_map.1 this
      exact fdK_s _ _
    exact ⟨OF.rd hoo hs, hs⟩
  obtain ⟨ad, c, rfl⟩ := rdl_slice hrda.rd
  rw [dps_len] at hrda ⊢
  exact ⟨ad, c, xs', rfl, hB _ b, b, hrda⟩
theorem QC.take {w wr : World} {hv tv lv : Value} {np a e0 d : Nat} {gw gt : Option Nat} (h : QC w wr hv tv lv np a e0 d gw gt) {s : Nat} (hs : s < np) {y : Fx} (hy : FdR wr (DP s).fd y) :
    Calls Try.prog 12 #[tv, .agg (ptC (DP s) y).toArray] wr fun e w' => ∃ v' tad tc bad bc D tx bx, e = .returned (.tuple #[v', .slice tad D tc, .slice bad 1 bc, .int .i64 0]) ∧ e0 + D ≤ np ∧
      Hid (QC w w' hv v' lv np a (e0 + D) d gw gt ∧ Below wr.heap.size wr w' ∧ RdA kFd wr.heap.size w' (.slice tad D tc) (fds e0 D) tx ∧ RdA kPk wr.heap.size w' (.slice bad 1 bc) [AP (e0 + D)] bx ∧ (s ≤ e0 → s < e0 + D)) := by
  obtain ⟨bel, n60, ae, en, gwb, met, fs, e1, e2, ⟨L, hL, hl⟩, e4, e5, e6⟩ := h
  obtain ⟨xs, hr⟩ := hL.rd
  have hlen : L.length ≤ 1000000 := by rcases hl with ⟨rfl, _⟩ | ⟨q, rfl, _⟩ <;> simp
  refine (take_any hr hlen hy (fdK_s _ _)).mono ?_
  rintro e w' ⟨v', tv', bv, er, rfl, b, hc⟩
  have hok : okLs L := by
    rcases hl with ⟨rfl, _⟩ | ⟨q, rfl, hq⟩
    · exact ok_nil
    · exact hq.ok
  have htk : TakenP (DP s) := order_taken (by omega)
  have hLq : ∀ k L' q, Lnk L 0 k L' → L'[k]? = some q → k = 0 ∧ L' = [q] ∧ OInv met q e0 := fun k L' q hk hq => by
    rcases hl with ⟨rfl, h0, hf⟩ | ⟨q0, rfl, hi⟩
    · obtain ⟨rfl, rfl⟩ := hk.none
      simp only [List.getElem?_cons_zero, Option.some.injEq] at hq
      subst hq; subst h0
      exact ⟨rfl, rfl, OInv.start met hf⟩
    · have hk : Lnk [q0] q0.pe k L' := by rw [hi.pe]; exact hk
      obtain ⟨rfl, rfl⟩ := hk.one
      simp only [List.getElem?_cons_zero, Option.some.injEq] at hq
      subst hq
      exact ⟨rfl, rfl, hi⟩
  rcases hc with ⟨_, hno, _⟩ | ⟨rfl, _, _, k, L', q, hk, hq, hrr⟩
  · rcases hno with hno | ⟨_, _, hk, _⟩
    · exact absurd ⟨hok, htk⟩ hno
    · cases hk
  rcases hrr with ⟨hk, _⟩ | ⟨_, q', T, xs', tx, bx, ht, h1, h2, h3⟩
  · cases hk
  obtain ⟨rfl, rfl, hi⟩ := hLq k L' q hk hq
  obtain ⟨E, hle, hi1, hlen1, hT⟩ := hi.turn (met' := fun i => decide (i = s) || met i) (by omega) (fun i => by simp) ht
  obtain ⟨D, rfl⟩ : ∃ D, E = e0 + D := ⟨E - e0, by omega⟩
  have hTe : T = fds e0 D := by
    have hTl : T.length = D := by omega
    apply List.ext_getElem?
    intro i
    by_cases c : i < D
    · rw [fds_get c, List.getElem?_eq_getElem (by omega)]
      rw [hT i _ (List.getElem?_eq_getElem (by omega))]
    · rw [List.getElem?_eq_none (by omega), List.getElem?_eq_none (by rw [fds_len]; omega)]
  subst hTe
  obtain ⟨tad, tc, rfl⟩ := rdl_slice h2.rd
  obtain ⟨bad, bc, rfl⟩ := rdl_slice h3.rd
  have hbk : (⟨(DP s).tu, (DP s).fr, true, q'.ex, fdK 0 0⟩ : Pt) = AP (e0 + D) := by rw [hi1.ex]; rfl
  rw [hbk] at h3
  rw [fds_len] at h2 ⊢
  have hmet : ∀ i, (decide (i = s) || met i) = true → i < np := fun i hi2 => by
    simp only [Bool.or_eq_true, decide_eq_true_iff] at hi2
    rcases hi2 with c | c
    · omega
    · exact e1 i c
  have hEn : e0 + D ≤ np := by
    rcases Nat.eq_zero_or_pos (e0 + D) with c | c
    · omega
    · have := hmet (e0 + D - 1) (hi1.lo (e0 + D - 1) (by omega)); omega
  refine ⟨v', tad, tc, bad, bc, D, tx, bx, rfl, hEn, ⟨bw_tr bel b, n60, by omega, hEn, fun k hk => ⟨(gwb k hk).1, Nat.lt_of_lt_of_le (gwb k hk).2 b.size⟩, _, fs, hmet, e2.map (fun L h1 => h1.bw b), ⟨_, HL.of h1 ?_, Or.inr ⟨q', rfl, hi1⟩⟩, e4.bw b, e5, e6⟩, b, h2, h3, fun hse => ?_⟩
  · intro g hg k hk
    simp only [List.mem_cons, List.not_mem_nil, or_false] at hg
    rcases hg with rfl | rfl
    · exact (gwb k hk).2
    · exact (e4.lt k hk).2
  · rcases Nat.lt_or_ge s (e0 + D) with c | c
    · exact c
    · have hsE : e0 + D = s := by omega
      have h9 : (decide (e0 + D = s) || met (e0 + D)) = false := hi1.at0
      rw [hsE] at h9
      simp at h9
theorem QC.hear {w wr : World} {hv tv lv : Value} {np a e0 d : Nat} {gw gt : Option Nat} (h : QC w wr hv tv lv np a e0 d gw gt) {s : Nat} (hs : s ≤ e0) (hn : 0 < np) {y : Fx} (hy : FdR wr (AP s).fd y) :
    Calls Try.prog 12 #[hv, .agg (ptC (AP s) y).toArray] wr fun e w' => ∃ v', e = .returned (.tuple #[v', .slice none 0 0, .slice none 0 0, .int .i64 0]) ∧ Hid (QC w w' v' tv lv np (max a s) e0 d gw gt ∧ Below wr.heap.size wr w') := by
  obtain ⟨bel, n60, ae, en, gwb, met, fs, e1, ⟨L, hL, hl⟩, e3, e4, e5, e6⟩ := h
  obtain ⟨xs, hr⟩ := hL.rd
  have hL1 : L = [hq np a] := by
    rcases hl with ⟨_, h0⟩ | h1
    · omega
    · exact h1
  subst hL1
  refine (take_any hr (by simp) hy (fdK_s _ _)).mono ?_
  rintro e w' ⟨v', tv', bv, er, rfl, b, hc⟩
  have htk : TakenP (AP s) := ⟨⟨by show (0 : Int) ≤ 1; decide, by show (1 : Int) < 4; decide⟩, ⟨by show (0 : Int) ≤ 0; decide, by show (0 : Int) < 4; decide⟩, by show (0 : Int) ≤ (s : Int); omega, Or.inl ⟨rfl, by show (s : Int) ≤ 1099511627776; omega⟩⟩
  have hLq : ∀ k L' q, Lnk [hq np a] 1 k L' → L'[k]? = some q → k = 0 ∧ L' = [hq np a] ∧ q = hq np a := fun k L' q hk hq1 => by
    obtain ⟨rfl, rfl⟩ := Lnk.one (q := hq np a) hk
    simp only [List.getElem?_cons_zero, Option.some.injEq] at hq1
    exact ⟨rfl, rfl, hq1.symm⟩
  rcases hc with ⟨_, hno, _⟩ | ⟨rfl, _, _, k, L', q, hk, hq1, hrr⟩
  · rcases hno with hno | ⟨_, _, _, k, L', q, hk, hq1, hnx⟩
    · exact absurd ⟨hq_ok n60, htk⟩ hno
    · obtain ⟨rfl, rfl, rfl⟩ := hLq k L' q hk hq1
      have hnx : (np : Int) < (s : Int) := hnx
      omega
  obtain ⟨rfl, rfl, rfl⟩ := hLq k L' q hk hq1
  rcases hrr with ⟨_, _, rfl, rfl, xs', h1⟩ | ⟨hk, _⟩
  · have h2 : [hq np a].set 0 (ackL (hq np a) (AP s).sq) = [hq np (max a s)] := by
      simp only [List.set_cons_zero]
      have := hq_ack (np := np) (a := a) (e := s) (by omega)
      rw [← this]; rfl
    rw [h2] at h1
    refine ⟨v', rfl, ⟨bw_tr bel b, n60, by omega, en, fun k hk => ⟨(gwb k hk).1, Nat.lt_of_lt_of_le (gwb k hk).2 b.size⟩, met, fs, e1, ⟨_, HL.of h1 ?_, Or.inr rfl⟩, e3.map (fun L h1 => h1.bw b), e4.bw b, e5, e6⟩, b⟩
    intro g hg k hk
    simp only [List.mem_cons, List.not_mem_nil, or_false] at hg
    rcases hg with rfl | rfl
    · exact (gwb k hk).2
    · exact (e4.lt k hk).2
  · cases hk
theorem QC.gtb {w wr : World} {hv tv lv : Value} {np a e0 d : Nat} {gw gt : Option Nat} (h : QC w wr hv tv lv np a e0 d gw gt) : ∀ k, gt = some k → k < wr.heap.size := by
  obtain ⟨fs, r, _⟩ := h.told
  exact fun k hk => (r.lt k hk).2
end Go.Proofs.Ytgiicendejgklaa

/- QueueOnce: what stands between two rounds, with what is on the way. No walk is in this text. -/
namespace Go.Proofs.Ytgiicendejgklaa
open Go.RowKit Go.Maps
def QW (w wr : World) (wv : Value) (np e0 n : Nat) (gw : Option Nat) : Prop := ∃ ps xs, ps.length = n ∧ RowW 45 57 w.heap.size wr wv n (cellK kPk ps xs) gw ∧ WayC np e0 ps xs
def QS (w wr : World) (hv tv wv lv : Value) (np a e0 d n : Nat) : Prop := ∃ gw gt, QC w wr hv tv lv np a e0 d gw gt ∧ QW w wr wv np e0 n gw
theorem QW.bw {w wr W : World} {wv : Value} {np e0 n : Nat} {gw : Option Nat} (h : QW w wr wv np e0 n gw) (hb : Below wr.heap.size wr W) : QW w W wv np e0 n gw := by
  obtain ⟨ps, xs, h1, h2, h3⟩ := h
  exact ⟨ps, xs, h1, h2.bw hb, h3⟩
theorem QW.mono {w wr : World} {wv : Value} {np e0 np' e0' n : Nat} {gw : Option Nat} (h : QW w wr wv np e0 n gw) (h1 : np ≤ np') (h2 : e0 ≤ e0') : QW w wr wv np' e0' n gw := by
  obtain ⟨ps, xs, a1, a2, a3⟩ := h
  exact ⟨ps, xs, a1, a2, a3.mono h1 h2⟩
theorem QS.start (w : World) : QS w w (.slice none 0 0) (.slice none 0 0) (.slice none 0 0) (.slice none 0 0) 0 0 0 0 0 :=
  ⟨none, none, QC.start w, [], [], rfl, RowW.nil _ _ _ _, WayC.nil _ _⟩
theorem QS.bel {w wr : World} {hv tv wv lv : Value} {np a e0 d n : Nat} (h : QS w wr hv tv wv lv np a e0 d n) : Below w.heap.size w wr ∧ np ≤ 60 ∧ a ≤ e0 ∧ e0 ≤ np := by
  obtain ⟨gw, gt, h1, _⟩ := h
  exact ⟨h1.bel, h1.n60, h1.ae, h1.en⟩
theorem QS.bw {w wr W : World} {hv tv wv lv : Value} {np a e0 d n : Nat} (h : QS w wr hv tv wv lv np a e0 d n) (hb : Below wr.heap.size wr W) : QS w W hv tv wv lv np a e0 d n := by
  obtain ⟨gw, gt, h1, h2⟩ := h
  exact ⟨gw, gt, h1.bw hb, h2.bw hb⟩
theorem QS.slice {w wr : World} {hv tv wv lv : Value} {np a e0 d n : Nat} (h : QS w wr hv tv wv lv np a e0 d n) : (∃ ad c, wv = .slice ad n c) ∧ (∃ ad c, lv = .slice ad d c) ∧ (0 < n → ∃ g o c, wv = .slice (some ⟨g, o, none⟩) n c ∧ n ≤ c ∧ c ≤ maxLen) := by
  obtain ⟨gw, gt, h1, ps, xs, e1, e2, e3⟩ := h
  obtain ⟨fs, r, _⟩ := h1.told
  refine ⟨e2.slice, r.slice, fun hn => ?_⟩
  rcases e2.2 with ⟨_, h0, _⟩ | ⟨g, o, c, cur, _, _, hv, k1, k2, _⟩
  · omega
  · exact ⟨g, o, c, hv, k1, k2⟩
theorem QS.push {w wr : World} {hv tv wv lv : Value} {np a e0 d n : Nat} (h : QS w wr hv tv wv lv np a e0 d n) (hn : np < 60) {y : Fx} (hy : FdR wr (fdK 4 (np : Int)) y) :
    Calls Try.prog 11 #[hv, .int .i64 1, .agg (fdC (fdK 4 (np : Int)) y).toArray] wr fun e w' => ∃ v', e = .returned (.tuple #[v', .int .i64 0]) ∧ Hid (QS w w' v' tv wv lv (np + 1) a e0 d n) := by
  obtain ⟨gw, gt, h1, h2⟩ := h
  refine (h1.push hn hy).mono ?_
  rintro e w' ⟨v', rfl, k1, k2⟩
  exact ⟨v', rfl, gw, gt, k1, (h2.bw k2).mono (by omega) (Nat.le_refl _)⟩
theorem QS.sent {w wr : World} {hv tv wv lv : Value} {np a e0 d n : Nat} (h : QS w wr hv tv wv lv np a e0 d n) :
    Calls Try.prog 16 #[hv, .int .i64 0] wr fun e w' => ∃ ad c xs, e = .returned (.tuple #[.slice ad (np - a) c, .int .i64 0]) ∧ Hid (QS w w' hv tv wv lv np a e0 d n ∧ RdA kPk wr.heap.size w' (.slice ad (np - a) c) (dps a (np - a)) xs) := by
  obtain ⟨gw, gt, h1, h2⟩ := h
  refine h1.sent.mono ?_
  rintro e w' ⟨ad, c, xs, rfl, k1, k2, k3⟩
  exact ⟨ad, c, xs, rfl, ⟨gw, gt, k1, h2.bw k2⟩, k3⟩
theorem QS.way {w wr : World} {hv tv wv lv : Value} {np a e0 d n : Nat} (h : QS w wr hv tv wv lv np a e0 d n) : ∃ gw cs, RowW 45 57 w.heap.size wr wv n cs gw ∧ w.heap.size ≤ wr.heap.size ∧
    ∀ m ps2 xs2 wv' W gw', ps2.length = m → WayC np e0 ps2 xs2 → RowW 45 57 w.heap.size W wv' (n + m) (cs ++ cellK kPk ps2 xs2) gw' → Kp gw wr W → (gw' = gw ∨ ∀ k, gw' = some k → wr.heap.size ≤ k) → QS w W hv tv wv' lv np a e0 d (n + m) := by
  obtain ⟨gw, gt, h1, ps, xs, e1, e2, e3⟩ := h
  refine ⟨gw, _, e2, h1.bel.size, fun m ps2 xs2 wv' W gw' hm hw hr hk hg => ⟨gw', gt, h1.mut hk hg (fun k hk1 => hr.lt k hk1), ps ++ ps2, xs ++ xs2, by rw [List.length_append, e1, hm], ?_, e3.app hw⟩⟩
  have e : cellK kPk ps xs ++ cellK kPk ps2 xs2 = cellK kPk (ps ++ ps2) (xs ++ xs2) := by
    unfold cellK rowsK
    rw [List.zipWith_append e3.xl.symm, List.flatten_append]
  rw [← e]; exact hr
theorem drop_cells {l : List Pt} {xs : List Fx} (hl : xs.length = l.length) {m : Nat} (hm : m ≤ l.length) : (cellK kPk l xs).drop (m * 57) = cellK kPk (l.drop m) (xs.drop m) := cellK_drop (K := kPk) hl hm
theorem take_cells {l : List Pt} {xs : List Fx} (hx : xs.length = l.length) (k : Nat) (hk : k ≤ l.length) : (cellK kPk l xs).take (k * 57) = cellK kPk (l.take k) (xs.take k) := by
  have e : cellK kPk l xs = cellK kPk (l.take k) (xs.take k) ++ cellK kPk (l.drop k) (xs.drop k) := by
    unfold cellK rowsK
    rw [← List.flatten_append, ← List.zipWith_append (by simp [hx]), List.take_append_drop, List.take_append_drop]
  have e2 : (cellK kPk (l.take k) (xs.take k)).length = k * 57 := by
    have := cellK_len (K := kPk) (l := l.take k) (xs := xs.take k) (by simp [hx])
    rw [this, List.length_take, Nat.min_eq_left hk]; rfl
  rw [e, List.take_left' e2]
theorem QS.trim {w wr : World} {hv tv lv : Value} {np a e0 d n g o c : Nat} (h : QS w wr hv tv (.slice (some ⟨g, o, none⟩) n c) lv np a e0 d n) {lo : Nat} (hlo : lo < n) : QS w wr hv tv (.slice (some ⟨g, o + lo * 57, none⟩) (n - lo) (c - lo)) lv np a e0 d (n - lo) := by
  obtain ⟨gw, gt, h1, ps, xs, e1, e2, e3⟩ := h
  refine ⟨gw, gt, h1, ps.drop lo, xs.drop lo, by rw [List.length_drop, e1], ?_, e3.drop lo⟩
  have hd := drop_cells e3.xl (m := lo) (by omega)
  rw [← hd]
  refine ⟨by rw [List.length_drop, e2.1, Nat.sub_mul], Or.inr ?_⟩
  rcases e2.2 with ⟨_, h0, _⟩ | ⟨g', o', c', cur, rfl, hB, hv', k1, k2, hg, k3, k4⟩
  · omega
  simp only [Value.slice.injEq, Option.some.injEq, Addr.mk.injEq, and_true, true_and] at hv'
  obtain ⟨⟨rfl, rfl⟩, rfl⟩ := hv'
  have hcc : lo * 57 + (c - lo) * 57 = c * 57 := by rw [← Nat.add_mul]; congr 1; omega
  refine ⟨g, o + lo * 57, c - lo, cur, rfl, hB, rfl, by omega, by omega, hg, by omega, fun j u hj => ?_⟩
  rw [List.getElem?_drop] at hj
  have := k4 _ u hj
  rw [Nat.add_assoc]; exact this
theorem QS.at {w wr : World} {hv tv wv lv : Value} {np a e0 d n : Nat} (h : QS w wr hv tv wv lv np a e0 d n) {i : Nat} (hi : i < n) :
    ∃ p x g o c, wv = .slice (some ⟨g, o, none⟩) n c ∧ n ≤ c ∧ wr.rangeAt g (o + i * 57) (ptC p x) ∧ OkP np e0 p ∧ ∀ W, FdR W p.fd x := by
  obtain ⟨gw, gt, h1, ps, xs, e1, e2, e3⟩ := h
  rcases e2.2 with ⟨_, h0, _⟩ | ⟨g, o, c, cur, _, _, rfl, k1, k2, hg, k3, k4⟩
  · omega
  have hx : i < xs.length := by rw [e3.xl, e1]; exact hi
  have hp1 := List.getElem?_eq_getElem (show i < ps.length by omega)
  have hx1 := List.getElem?_eq_getElem hx
  refine ⟨ps[i], xs[i], g, o, c, rfl, k1, fun j u hj => ?_, e3.ok _ (List.getElem_mem _), fun W => (e3.rd i _ _ hp1 hx1 W).1⟩
  have hj2 : (kPk.C ps[i] xs[i])[j]? = some u := hj
  have := cellK_get (K := kPk) hp1 hx1 hj2
  have h4 := k4 _ u this
  have h5 := blk_c hg h4
  rw [Nat.add_assoc]; exact h5
theorem QS.hear {w wr : World} {hv tv wv lv : Value} {np a e0 d n : Nat} (h : QS w wr hv tv wv lv np a e0 d n) {s : Nat} (hs : s ≤ e0) (hn : 0 < np) {y : Fx} (hy : FdR wr (AP s).fd y) :
    Calls Try.prog 12 #[hv, .agg (ptC (AP s) y).toArray] wr fun e w' => ∃ v', e = .returned (.tuple #[v', .slice none 0 0, .slice none 0 0, .int .i64 0]) ∧ Hid (QS w w' v' tv wv lv np (max a s) e0 d n) := by
  obtain ⟨gw, gt, h1, h2⟩ := h
  refine (h1.hear hs hn hy).mono ?_
  rintro e w' ⟨v', rfl, k1, k2⟩
  exact ⟨v', rfl, gw, gt, k1, h2.bw k2⟩
theorem RowW.mono {t : TypeId} {sz B B' : Nat} {w : World} {v : Value} {n : Nat} {cs : List Value} {gg : Option Nat} (h : RowW t sz B w v n cs gg) (hB : B' ≤ B) : RowW t sz B' w v n cs gg := by
  refine ⟨h.1, h.2.imp id ?_⟩
  rintro ⟨g, o, c, cur, e, h0, hv, h1⟩
  exact ⟨g, o, c, cur, e, Nat.le_trans hB h0, hv, h1⟩
theorem QS.cut {w wr : World} {hv tv lv : Value} {np a e0 d n g o c : Nat} (h : QS w wr hv tv (.slice (some ⟨g, o, none⟩) n c) lv np a e0 d n) {k : Nat} (hk : k < n) (hu : Try.prog.underlying 53 = some (.slice 45)) :
    ∃ C1 C2, (∀ W, (∀ z, z < wr.heap.size → W.heap[z]? = wr.heap[z]?) → Src Try.prog 57 53 (.slice (some ⟨g, o, none⟩) k c) k C1 W ∧ Src Try.prog 57 53 (.slice (if c = k + 1 then some ⟨g, o, none⟩ else some ⟨g, o + (k + 1) * 57, none⟩) (n - (k + 1)) (c - (k + 1))) (n - (k + 1)) C2 W) ∧
      ∀ W wv' gw', Below wr.heap.size wr W → RowW 45 57 wr.heap.size W wv' (k + (n - (k + 1))) (C1 ++ C2) gw' → QS w W hv tv wv' lv np a e0 d (k + (n - (k + 1))) := by
  obtain ⟨gw, gt, h1, ps, xs, e1, e2, e3⟩ := h
  have t1 := take_cells e3.xl k (by omega)
  have t2 := drop_cells e3.xl (m := k + 1) (by omega)
  have hone : ∀ u ∈ cellK kPk ps xs, u.oneCell' = true := cellK_one (K := kPk) (w := wr) e3.xl (fun i p x hp hx => e3.rd i p x hp hx wr)
  rcases e2.2 with ⟨_, h0, _⟩ | ⟨g', o', c', cur, hgw, hB, hv', k1, k2, hg, k3, k4⟩
  · omega
  simp only [Value.slice.injEq, Option.some.injEq, Addr.mk.injEq, and_true, true_and] at hv'
  obtain ⟨⟨rfl, rfl⟩, rfl⟩ := hv'
  have hlen : (cellK kPk ps xs).length = n * 57 := e2.1
  have hm1 : k * 57 ≤ n * 57 := Nat.mul_le_mul_right _ (by omega)
  have hm2 : (k + 1) * 57 ≤ n * 57 := Nat.mul_le_mul_right _ (by omega)
  refine ⟨(cellK kPk ps xs).take (k * 57), (cellK kPk ps xs).drop ((k + 1) * 57), fun W hW => ⟨?_, ?_⟩, fun W wv' gw' hb hr => ?_⟩
  · refine Src.ofSlice W hu ⟨g, o, none⟩ k c _ (by rw [List.length_take, hlen, Nat.min_eq_left hm1]) (fun j u hj => ?_) (fun u hu => hone u (List.mem_of_mem_take hu))
    rw [Addr.add_lit]
    have hj2 : (cellK kPk ps xs)[j]? = some u := by
      have := (List.getElem?_eq_some_iff.1 hj).1
      rw [List.length_take] at this
      rw [List.getElem?_take_of_lt (by omega)] at hj; exact hj
    have h4 := k4 _ u hj2
    exact blk_c (by rw [hW g (lt_of_blk hg)]; exact hg) h4
  · have hl2 : ((cellK kPk ps xs).drop ((k + 1) * 57)).length = (n - (k + 1)) * 57 := by rw [List.length_drop, hlen, Nat.sub_mul]
    by_cases hc : c = k + 1
    · rw [if_pos hc]
      have h0 : n - (k + 1) = 0 := by omega
      have hnil : (cellK kPk ps xs).drop ((k + 1) * 57) = [] := List.eq_nil_of_length_eq_zero (by rw [hl2, h0, Nat.zero_mul])
      exact Src.ofSlice W hu ⟨g, o, none⟩ _ _ _ hl2 (fun j u hj => by rw [hnil] at hj; cases hj) (fun u hu => hone u (List.mem_of_mem_drop hu))
    · rw [if_neg hc]
      refine Src.ofSlice W hu ⟨g, o + (k + 1) * 57, none⟩ _ _ _ hl2 (fun j u hj => ?_) (fun u hu => hone u (List.mem_of_mem_drop hu))
      rw [Addr.add_lit]
      rw [List.getElem?_drop] at hj
      have h4 := k4 _ u hj
      have h5 := blk_c (W := W) (by rw [hW g (lt_of_blk hg)]; exact hg) h4
      show W.cell? ⟨g, o + (k + 1) * 57 + j, none⟩ = some u
      rw [Nat.add_assoc]; exact h5
  · have hlt := fun z hz => hr.lt z hz
    have hB2 : w.heap.size ≤ wr.heap.size := h1.bel.size
    refine ⟨gw', gt, h1.mut (Kp.bw hb) (Or.inr (fun z hz => (hlt z hz).1)) (fun z hz => ⟨Nat.le_trans hB2 (hlt z hz).1, (hlt z hz).2⟩), ps.take k ++ ps.drop (k + 1), xs.take k ++ xs.drop (k + 1), by rw [List.length_append, List.length_take, List.length_drop, e1]; omega, ?_, (e3.take k).app (e3.drop (k + 1))⟩
    have e : (cellK kPk ps xs).take (k * 57) ++ (cellK kPk ps xs).drop ((k + 1) * 57) = cellK kPk (ps.take k ++ ps.drop (k + 1)) (xs.take k ++ xs.drop (k + 1)) := by
      rw [t1, t2]
      unfold cellK rowsK
      rw [List.zipWith_append (by simp [e3.xl]), List.flatten_append]
    rw [← e]
    exact hr.mono hB2
theorem RowW.new0 {wr W : World} {b : Nat} (hb : wr.heap.size ≤ b) (h : W.heap[b]? = some (.cells #[] 45 (0, 0))) : RowW 45 57 wr.heap.size W (.slice (some ⟨b, 0, none⟩) 0 0) 0 [] (some b) :=
  ⟨by simp, Or.inr ⟨b, 0, 0, #[], rfl, hb, rfl, Nat.le_refl _, by unfold maxLen; omega, h, by simp, by simp⟩⟩
theorem QS.add {w wr : World} {hv tv wv lv v2 : Value} {np a e0 d n m : Nat} {ps2 : List Pt} {xs2 : List Fx} (h : QS w wr hv tv wv lv np a e0 d n) (hr : RdL kPk wr v2 ps2 xs2) (hok : ∀ p ∈ ps2, OkP np e0 p) (hm : ps2.length = m) (hu : Try.prog.underlying 53 = some (.slice 45)) :
    ∃ gw cs news, RowW 45 57 w.heap.size wr wv n cs gw ∧ w.heap.size ≤ wr.heap.size ∧ Src Try.prog 57 53 v2 m news wr ∧
      ∀ wv' W gw', RowW 45 57 w.heap.size W wv' (n + m) (cs ++ news) gw' → Kp gw wr W → (gw' = gw ∨ ∀ k, gw' = some k → wr.heap.size ≤ k) → QS w W hv tv wv' lv np a e0 d (n + m) := by
  obtain ⟨gw, cs, r1, r2, r3⟩ := h.way
  refine ⟨gw, cs, cellK kPk ps2 xs2, r1, r2, ?_, fun wv' W gw' k1 k2 k3 => r3 m ps2 xs2 wv' W gw' hm (WayC.of hr hok) k1 k2 k3⟩
  rw [← hm]
  exact rdl_src hr hu
end Go.Proofs.Ytgiicendejgklaa
