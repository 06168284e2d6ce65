/- Texts joined: QuTk QuTp QuTm QuSd QuSe. -/
import Derived.Test.YtgiicendejgklaaQuAk
import Derived.Test.YtgiicendejgklaaQuRf
import Derived.Test.YtgiicendejgklaaZ22
import Derived.Test.YtgiicendejgklaaZ26
import Derived.Deep.RegionHeld3
/- Links, read anew behind what one of them was turned to. No walk is in this text. -/
namespace Go.Proofs.Ytgiicendejgklaa
open Go.RowKit Go.Maps
theorem lk_block {B g n c : Nat} {w : World} {l : List Lk} {xs : List Lx} (ho : OwL kLk B w (.slice (some ⟨g, 0, none⟩) n c) l xs) : ∃ LC : Array Value, w.heap[g]? = some (.cells LC 73 (0, 0)) ∧ ∀ (i : Nat) b x j u, l[i]? = some b → xs[i]? = some x → (lkC b x.qv x.ev)[j]? = some u → LC[i * 5 + j]? = some u := by
  obtain ⟨hl, hr⟩ := ho.row
  rcases hr with ⟨q, _⟩ | ⟨g_, c_, cur, hv, hB, hblk, hnc, hcm, hsz, htk⟩
  · cases q
  simp only [Value.slice.injEq, Option.some.injEq, Addr.mk.injEq, and_true] at hv
  obtain ⟨rfl, h2⟩ := hv
  refine ⟨cur, hblk, fun i b x j u hb hx hu => ?_⟩
  have h3 := cellK_get (K := kLk) hb hx hu
  rw [← htk, List.getElem?_take] at h3
  split at h3
  · have h4 : cur[i * kLk.c + j]? = some u := by simpa using h3
    exact h4
  · cases h3
theorem OwL.relk {B g n c k : Nat} {w w' : World} {l : List Lk} {xs : List Lx} {q : Lk} {x : Lx} {LC LC' : Array Value} (ho : OwL kLk B w (.slice (some ⟨g, 0, none⟩) n c) l xs) (hn : n = l.length) (hs : ∀ b ∈ l, SmL b) (hk : k < l.length)
    (hb : ∀ (i : Nat) b x j u, l[i]? = some b → xs[i]? = some x → (lkC b x.qv x.ev)[j]? = some u → LC[i * 5 + j]? = some u) (hb' : w'.heap[g]? = some (.cells LC' 73 (0, 0)))
    (hin : ∀ j u, (lkC q x.qv x.ev)[j]? = some u → LC'[k * 5 + j]? = some u) (hout : ∀ m, (m < k * 5 ∨ k * 5 + 5 ≤ m) → LC'[m]? = LC[m]?) (hR : LkR w' q x) (hS : SmL q) (hfr : ∀ (i : Nat) y, i ≠ k → xs[i]? = some y → ∀ z ∈ lxZ y, w'.heap[z]? = w.heap[z]?) :
    RdL kLk w' (.slice (some ⟨g, 0, none⟩) n c) (l.set k q) (xs.set k x) := by
  have hxk : k < xs.length := by rw [ho.xl]; exact hk
  refine ⟨by simp [ho.xl], fun i a y ha hy => ?_, some ⟨g, 0, none⟩, c, by rw [hn]; simp, Or.inr ⟨g, 0, rfl, fun j u hj => ?_⟩⟩
  · by_cases e : k = i
    · subst e
      rw [List.getElem?_set_self hk] at ha; rw [List.getElem?_set_self hxk] at hy
      cases ha; cases hy
      exact ⟨hR, hS⟩
    · rw [List.getElem?_set_ne e] at ha hy
      have sm := hs a (List.mem_of_getElem? ha)
      exact ⟨OL.rd (OL.keep (ho.el i a y ha hy) (hfr i y (Ne.symm e) hy)) sm, sm⟩
  · obtain ⟨i, j', a, y, rfl, hj', ha, hy, hu⟩ := cellK_inv (K := kLk) (by simp [ho.xl]) hj
    have hj5 : j' < 5 := hj'
    rw [Nat.zero_add]
    refine blk_c hb' ?_
    show LC'[i * 5 + j']? = some u
    by_cases e : k = i
    · subst e
      rw [List.getElem?_set_self hk] at ha; rw [List.getElem?_set_self hxk] at hy
      cases ha; cases hy
      exact hin j' u hu
    · rw [List.getElem?_set_ne e] at ha hy
      rw [hout _ (by omega)]
      exact hb i a y j' u ha hy hu
theorem nlk_sm (p : Int) : SmL (nlk p) := ⟨by simp [nlk], by simp [nlk], by simp [nlk], by simp [nlk]⟩
theorem Lnk.sm {l L : List Lk} {p : Int} {k : Nat} (h : Lnk l p k L) (hs : ∀ b ∈ l, SmL b) : ∀ b ∈ L, SmL b := by
  intro b hb
  rcases h.2 with ⟨rfl, _⟩ | ⟨rfl, _⟩
  · exact hs b hb
  · rcases ins_mem hb with q | q
    · rw [q]; exact nlk_sm p
    · exact hs b q
theorem RdL.sms {w : World} {v : Value} {l : List Lk} {xs : List Lx} (h : RdL kLk w v l xs) : ∀ b ∈ l, SmL b := by
  intro b hb
  obtain ⟨i, hi, e⟩ := List.getElem_of_mem hb
  have hx : i < xs.length := by rw [h.xl]; exact hi
  have hb2 : l[i]? = some b := by rw [← e]; exact List.getElem?_eq_getElem hi
  exact (h.el i b _ hb2 (List.getElem?_eq_getElem hx)).2
end Go.Proofs.Ytgiicendejgklaa

/- What Take answers, plainly; feeds with nothing in them. No walk is in this text. mkQuTa.py writes it. -/
namespace Go.Proofs.Ytgiicendejgklaa
open Go.RowKit Go.Maps
def ml00 : Ml := ⟨0, cm00, 0, 0, 0, 0, 0, 0, 0, [], 0, 0, 0, 0, 0, 0⟩
def mx00 : Mx := ⟨cv00, [], .slice none 0 0, []⟩
def fdK (k t : Int) : Fd := ⟨k, t, 0, cm00, ml00, 0, 0, 0, 0, 0⟩
def fx00 : Fx := ⟨cv00, [], mx00⟩
theorem fdK_r (w : World) (k t : Int) : FdR w (fdK k t) fx00 :=
  ⟨cm00_r w, cm00_r w, ⟨by show ([] : List Nd).length ≤ _; simp, (by intro n hn; cases hn), Or.inl ⟨rfl, none, 0, rfl⟩⟩⟩
theorem cm00_s : SmC cm00 := by
  constructor <;> first | (simp [cm00]) | (intro x hx; simp [cm00] at hx)
theorem fdK_s (k t : Int) : SmF (fdK k t) := by
  refine ⟨cm00_s, ⟨cm00_s, by simp [fdK, ml00], (by intro n hn; cases hn), ?_⟩, ?_⟩
  · intro z hz; simp [fdK, ml00] at hz; omega
  · intro z hz; simp [fdK] at hz; omega
def TurnP (q : Lk) (e : Er) (q' : Lk) (T : List Fd) : Prop :=
  (¬ WantP q e.sq ∧ q' = q ∧ T = []) ∨ (WantP q e.sq ∧ ∃ j, j ≤ q.ea.length ∧ (insAt q.ea j e).Pairwise (fun a b => a.sq < b.sq) ∧
    q' = { q with ex := (runE (fun a : Er => a.sq) q.ex (insAt q.ea j e)).2.1, ea := (runE (fun a : Er => a.sq) q.ex (insAt q.ea j e)).2.2 } ∧ T = (runE (fun a : Er => a.sq) q.ex (insAt q.ea j e)).1.map (fun a => a.fd))
def ackL (q : Lk) (sq : Int) : Lk := { q with q := q.q.drop (sq - (q.nx - (q.q.length : Int))).toNat }
def TakeQ (w w' : World) (l : List Lk) (p : Pt) (e : Ending) : Prop := ∃ v' tv bv er, e = .returned (.tuple #[v', tv, bv, .int .i64 er]) ∧ Below w.heap.size w w' ∧
  ((er = 1 ∧ (¬ (okLs l ∧ TakenP p) ∨ (okLs l ∧ TakenP p ∧ p.ack = true ∧ ∃ k L q, Lnk l p.fr k L ∧ L[k]? = some q ∧ q.nx < p.sq)) ∧ v' = .slice none 0 0 ∧ tv = .slice none 0 0 ∧ bv = .slice none 0 0) ∨
  (er = 0 ∧ okLs l ∧ TakenP p ∧ ∃ k L q, Lnk l p.fr k L ∧ L[k]? = some q ∧
    ((p.ack = true ∧ p.sq ≤ q.nx ∧ tv = .slice none 0 0 ∧ bv = .slice none 0 0 ∧ ∃ xs', RdA kLk w.heap.size w' v' (L.set k (ackL q p.sq)) xs') ∨
     (p.ack = false ∧ ∃ q' T xs' tx bx, TurnP q ⟨p.sq, p.fd⟩ q' T ∧ RdA kLk w.heap.size w' v' (L.set k q') xs' ∧ RdA kFd w.heap.size w' tv T tx ∧ RdA kPk w.heap.size w' bv [⟨p.tu, p.fr, true, q'.ex, fdK 0 0⟩] bx))))
theorem results_tmp4 {fn : Func} {t u v s : Tmp} (h : fn.results = #[.tmp t, .tmp u, .tmp v, .tmp s]) (tmps : Array Value) (P : Program) (w : World) :
    (results fn tmps).run P w = .ok (.tuple #[tmps.getD t undef, tmps.getD u undef, tmps.getD v undef, tmps.getD s undef]) w := by
  simp [results, h]
theorem step_buildS {P : Program} {ops : Array Oper} {o : Oper} {a : Act} {w : World} {K : Act → World → Prop} {Q : Exit → Act → World → Prop} {E : Prop} (hg : o.guard = none) (t : TypeId) (parts : Array (Nat × Operand)) (ho : o.op = .build t parts) (cells : Array Value)
    (hf : P.built t (parts.map fun (i, x) => (i, a.eval x)).toList = some cells) (h : K (a.put o.dst (.agg cells)) w) : if Region.wanted o (yielded ops a.tmps) = true then Oper.wp P o a w K Q else E := by
  have hw : Region.wanted o (yielded ops a.tmps) = true := by simp [Region.wanted, hg]
  rw [if_pos hw]
  refine wp_build t parts ho (by rw [hf]; rfl) ?_
  rw [hf]
  exact h
theorem exec_build {P : Program} {rho : Operand → Value} {o : Oper} {t : TypeId} {parts : Array (Nat × Operand)} {cells : Array Value} (ho : o.op = .build t parts) (hf : P.built t (parts.map fun (i, x) => (i, rho x)).toList = some cells) (w : World) : (execOp rho o).run P w = .ok (.value (.agg cells)) w := by
  unfold execOp
  simp only [ho, Sem.run_bind, run_build w t _ cells hf, Result.andThen_ok]
  rfl
theorem built_early (s : Int) (f : Fd) (x : Fx) : Try.prog.built 87 [(0, .int .i64 s), (1, .agg (fdC f x).toArray)] = some (erC ⟨s, f⟩ x).toArray := by kernel_rfl
theorem built_back (a b s : Int) : Try.prog.built 45 [(0, .int .i64 a), (1, .int .i64 b), (2, .bool true), (3, .int .i64 s)] = some (ptC ⟨a, b, true, s, fdK 0 0⟩ fx00).toArray := by kernel_rfl
theorem built_sent (a b s : Int) (f : Fd) (x : Fx) : Try.prog.built 45 [(0, .int .i64 a), (1, .int .i64 b), (3, .int .i64 s), (4, .agg (fdC f x).toArray)] = some (ptC ⟨a, b, false, s, f⟩ x).toArray := by kernel_rfl
theorem infoKPacket : (Try.prog.info? 45).map (fun i => (i.zero, i.size, i.bytes)) = some (some (.agg pt0), 57, 632) := by kernel_rfl
theorem infoPkS : (Try.prog.info? 45).map (·.size) = some 57 := by kernel_rfl
end Go.Proofs.Ytgiicendejgklaa

/- What the links, read anew, are behind an acknowledgement or something that came. No walk is in this text. mkQuTa.py writes it. -/
namespace Go.Proofs.Ytgiicendejgklaa
open Go.RowKit Go.Maps
theorem fr_bel {S : List Nat} {m : Nat} {w w1 w2 : World} (h : Below m w w1) (hf : Fr S w1 w2) (hs : ∀ k ∈ S, m ≤ k) (hm : m ≤ w1.heap.size) : Below m w w2 :=
  ⟨hf.os.trans h.os, hf.tape.trans h.tape, hf.output.trans h.output, Nat.le_trans h.size hf.size, fun k hk => by rw [hf.block k (by omega) (fun q => by have := hs k q; omega), h.block k hk]⟩
theorem lk_set2 {LC : Array Value} {o i : Nat} {u : Value} {C : List Value} {l : Lk} {x : Lx} (h : ∀ j u, (lkC l x.qv x.ev)[j]? = some u → LC[o + j]? = some u) (hi : i < 5) (hC : C = (lkC l x.qv x.ev).set i u) : ∀ j z, C[j]? = some z → (LC.setIfInBounds (o + i) u)[o + j]? = some z := by
  intro j z hz
  have h5 : (lkC l x.qv x.ev).length = 5 := rfl
  have hlt : o + i < LC.size := by
    have := h i _ (List.getElem?_eq_getElem (show i < (lkC l x.qv x.ev).length by rw [h5]; exact hi))
    exact (Array.getElem?_eq_some_iff.1 this).1
  rw [hC] at hz
  rw [set_get hlt]
  by_cases e : i = j
  · subst e
    rw [List.getElem?_set_self (by rw [h5]; exact hi)] at hz
    rw [if_pos rfl]; exact hz
  · rw [List.getElem?_set_ne e] at hz
    rw [if_neg (by omega)]
    exact h j z hz
theorem OwL.acked {B g n c k m : Nat} {w w' : World} {l : List Lk} {xs : List Lx} {q : Lk} {x : Lx} {LC : Array Value} {qv : Value} (ho : OwL kLk B w (.slice (some ⟨g, 0, none⟩) n c) l xs) (hn : n = l.length) (hs : ∀ b ∈ l, SmL b) (hq : l[k]? = some q) (hx : xs[k]? = some x)
    (hb : ∀ (i : Nat) b x j u, l[i]? = some b → xs[i]? = some x → (lkC b x.qv x.ev)[j]? = some u → LC[i * 5 + j]? = some u)
    (h1 : w'.heap[g]? = some (.cells (LC.setIfInBounds (k * 5 + 2) qv) 73 (0, 0))) (h2 : RdA kFd B w' qv (q.q.drop m) (x.qx.drop m)) (h3 : Fr (g :: x.qv.ownBlock.toList) w w') :
    RdA kLk B w' (.slice (some ⟨g, 0, none⟩) n c) (l.set k { q with q := q.q.drop m }) (xs.set k { x with qv := qv, qx := x.qx.drop m }) := by
  intro w2 hw2
  have hk := (List.getElem?_eq_some_iff.1 hq).1
  have hgo : (Value.slice (some ⟨g, 0, none⟩) n c).ownBlock = some g := rfl
  have hck : OL B w q x := ho.el k q _ hq hx
  have sm := hs q (List.mem_of_getElem? hq)
  have hgB := (World.ownsRow.lt ho.row g hgo).1
  have kp : ∀ z, B ≤ z → z < w.heap.size → z ≠ g → x.qv.ownBlock ≠ some z → w2.heap[z]? = w.heap[z]? := fun z hB hz h4 h5 => by
    rw [hw2.block z hB (Nat.lt_of_lt_of_le hz h3.size), h3.block z hz (by simp only [List.mem_cons, Option.mem_toList, not_or]; exact ⟨h4, h5⟩)]
  have h1' : w2.heap[g]? = some (.cells (LC.setIfInBounds (k * 5 + 2) qv) 73 (0, 0)) := by rw [hw2.block g hgB (lt_of_blk h1)]; exact h1
  refine ho.relk (q := { q with q := q.q.drop m }) (x := { x with qv := qv, qx := x.qx.drop m }) hn hs hk hb h1' (lk_set2 (fun j u hj => hb k q x j u hq hx hj) (by decide) rfl) (fun m hm => set_other (by omega)) ⟨h2 w2 hw2, ?_⟩ ⟨?_, sm.en, fun f hf => sm.qs f (List.mem_of_mem_drop hf), sm.es⟩ (fun i y hi hy z hz => ?_)
  · refine OwL.ers (OwL.keep hck.e (fun z hz => kp z (hck.e.lt z hz).1 (hck.e.lt z hz).2 (fun e => ho.self g k x hgo hx (by rw [← e]; exact List.mem_append_right _ hz)) (fun e => hck.ap z (zK_row (K := kFd) e) hz))) sm.es
  · show (q.q.drop m).length ≤ 1073741824
    rw [List.length_drop]; have := sm.qn; omega
  · obtain ⟨a, ha, hoa⟩ := ho.elx hy
    exact kp z (OL.lt hoa z hz).1 (OL.lt hoa z hz).2 (fun e => ho.self g i y hgo hy (by rw [← e]; exact hz)) (fun e => hi (ho.ap i k y x z hy hx hz (List.mem_append_left _ (zK_row (K := kFd) e))))
theorem OwL.recvd {B g n c k : Nat} {w w' : World} {l : List Lk} {xs : List Lx} {q : Lk} {x : Lx} {LC : Array Value} {R : List Er × Int × List Er} {tv ev : Value} {tx kx : List Fx} (ho : OwL kLk B w (.slice (some ⟨g, 0, none⟩) n c) l xs) (hn : n = l.length) (hs : ∀ b ∈ l, SmL b) (hq : l[k]? = some q) (hx : xs[k]? = some x)
    (hb : ∀ (i : Nat) b x j u, l[i]? = some b → xs[i]? = some x → (lkC b x.qv x.ev)[j]? = some u → LC[i * 5 + j]? = some u)
    (h : RecvQ B w w' g (k * 5) LC R tv ev tx kx) (hR : R.2.2.length ≤ 1073741824) :
    RdA kLk B w' (.slice (some ⟨g, 0, none⟩) n c) (l.set k { q with ex := R.2.1, ea := R.2.2 }) (xs.set k { x with ev := ev, ex := kx }) ∧ w'.cell? ⟨g, k * 5 + 3, none⟩ = some (.int .i64 R.2.1) := by
  have hk := (List.getElem?_eq_some_iff.1 hq).1
  have hgo : (Value.slice (some ⟨g, 0, none⟩) n c).ownBlock = some g := rfl
  have hck : OL B w q x := ho.el k q _ hq hx
  have sm := hs q (List.mem_of_getElem? hq)
  have hgB := (World.ownsRow.lt ho.row g hgo).1
  obtain ⟨LC', l1, l2, l3, l4⟩ := h.lk
  refine ⟨fun w2 hw2 => ?_, blk_c l1 l2⟩
  have kp : ∀ z, B ≤ z → z < w.heap.size → z ≠ g → w2.heap[z]? = w.heap[z]? := fun z hB hz h4 => by
    rw [hw2.block z hB (Nat.lt_of_lt_of_le hz h.fr.size), h.fr.block z hz (by simp only [List.mem_cons, List.not_mem_nil, or_false]; exact h4)]
  have l1' : w2.heap[g]? = some (.cells LC' 73 (0, 0)) := by rw [hw2.block g hgB (lt_of_blk l1)]; exact l1
  have hkd := h.kd w2 hw2
  have hes : ∀ e ∈ R.2.2, SmF e.fd := fun e he => by
    obtain ⟨i, hi, e'⟩ := List.getElem_of_mem he
    have hx : i < kx.length := by rw [hkd.xl]; exact hi
    have hb2 : R.2.2[i]? = some e := by rw [← e']; exact List.getElem?_eq_getElem hi
    exact (hkd.el i e _ hb2 (List.getElem?_eq_getElem hx)).2
  refine ho.relk (q := { q with ex := R.2.1, ea := R.2.2 }) (x := { x with ev := ev, ex := kx }) hn hs hk hb l1' (fun j u hj => ?_) (fun m hm => l4 m (by omega) (by omega)) ⟨?_, hkd⟩ ⟨sm.qn, hR, sm.qs, hes⟩ (fun i y hi hy z hz => ?_)
  · rcases j with _ | _ | _ | _ | _ | j
    · rw [l4 _ (by omega) (by omega)]; exact hb k q x 0 u hq hx hj
    · rw [l4 _ (by omega) (by omega)]; exact hb k q x 1 u hq hx hj
    · rw [l4 _ (by omega) (by omega)]; exact hb k q x 2 u hq hx hj
    · cases hj; exact l2
    · cases hj; exact l3
    · simp [lkC] at hj
  · exact OwL.fds (OwL.keep hck.q (fun z hz => kp z (hck.q.lt z hz).1 (hck.q.lt z hz).2 (fun e => ho.self g k x hgo hx (by rw [← e]; exact List.mem_append_left _ hz)))) sm.qs
  · obtain ⟨a, ha, hoa⟩ := ho.elx hy
    exact kp z (OL.lt hoa z hz).1 (OL.lt hoa z hz).2 (fun e => ho.self g i y hgo hy (by rw [← e]; exact hz))
theorem exp_rise {ex : Int} : ∀ (l : List Er), (∀ (i : Nat) e, l[i]? = some e → pvE ex l i < e.sq) → l.Pairwise (fun a b => a.sq < b.sq) ∧ ∀ a ∈ l, ex < a.sq := by
  intro l h
  have step : ∀ (j i : Nat) (a b : Er), i < j → l[i]? = some a → l[j]? = some b → a.sq < b.sq := by
    intro j
    induction j with
    | zero => intro i a b hij; omega
    | succ j ih =>
      intro i a b hij ha hb
      have h1 := h (j + 1) b hb
      have hj : j < l.length := by have := (List.getElem?_eq_some_iff.1 hb).1; omega
      have e1 : l[j]? = some l[j] := List.getElem?_eq_getElem hj
      have e2 : pvE ex l (j + 1) = l[j].sq := by unfold pvE; simp [e1]
      rw [e2] at h1
      rcases Nat.lt_or_ge i j with c | c
      · have := ih i a l[j] c ha e1; omega
      · obtain rfl : i = j := by omega
        rw [e1] at ha; cases ha; exact h1
  refine ⟨List.pairwise_iff_getElem.2 (fun i j hi hj hij => step j i _ _ hij (List.getElem?_eq_getElem hi) (List.getElem?_eq_getElem hj)), fun a ha => ?_⟩
  obtain ⟨i, hi, e⟩ := List.getElem_of_mem ha
  have h0 : 0 < l.length := by omega
  have f0 := h 0 l[0] (List.getElem?_eq_getElem h0)
  have e0 : pvE ex l 0 = ex := by unfold pvE; simp
  rw [e0] at f0
  rcases Nat.eq_zero_or_pos i with c | c
  · subst c; rw [← e]; exact f0
  · have := step i 0 l[0] a c (List.getElem?_eq_getElem h0) (by rw [← e]; exact List.getElem?_eq_getElem hi)
    omega
theorem set_sameQ {α : Type} {l : List α} {k : Nat} {q : α} (h : l[k]? = some q) : l.set k q = l := by
  have hk := (List.getElem?_eq_some_iff.1 h).1
  apply List.ext_getElem?
  intro i
  by_cases e : k = i
  · subst e; rw [List.getElem?_set_self hk, h]
  · rw [List.getElem?_set_ne e]
theorem OwL.lka {B : Nat} {w : World} {v : Value} {l : List Lk} {xs : List Lx} (h : OwL kLk B w v l xs) (hs : ∀ b ∈ l, SmL b) : RdA kLk B w v l xs := fun _ h2 => OwL.lks (OwL.keep h (fun k hk => h2.block k (h.lt k hk).1 (h.lt k hk).2)) hs
theorem rdl_nil {α ξ : Type} (K : EK α ξ) (w : World) : RdL K w (.slice none 0 0) [] [] := ⟨rfl, by simp, none, 0, rfl, Or.inl rfl⟩
theorem new_there (W : World) (cs : Array Value) {t : TypeId} {n : Nat} (h : cs.size = n) : (W.alloc (.cells cs t)).there W.heap.size 0 n := by
  intro j hj
  have k := heap_alloc_new W (.cells cs t)
  rw [Nat.zero_add]
  exact ⟨by rw [blk_c k (Array.getElem?_eq_getElem (by omega))]; rfl, froz_b' k⟩
theorem new_put (W : World) (cs : Array Value) (PS : List Value) {t : TypeId} (h : cs.size = PS.length) (V : World) (hV : (W.alloc (.cells cs t)).setCells W.heap.size 0 PS.toArray.toList = V) : V.rangeAt W.heap.size 0 PS ∧ Below W.heap.size W V := by
  have k := heap_alloc_new W (.cells cs t)
  rw [setCells_pokesQ, List.toList_toArray] at hV
  have k2 := pokes_at PS (W.alloc (.cells cs t)) 0 cs k
  rw [hV, pk_all h.symm] at k2
  exact ⟨blk_rngQ k2 (fun j u hj => by rw [Nat.zero_add]; simpa using hj), by rw [← hV]; exact pokes_below (Nat.le_refl _) PS _ 0 (bwA W _)⟩
theorem runE_len {α : Type} (sq : α → Int) : ∀ (l : List α) (ex : Int), (runE sq ex l).1.length + (runE sq ex l).2.2.length = l.length := by
  intro l
  induction l with
  | nil => intro ex; rfl
  | cons a m ih =>
    intro ex
    simp only [runE]
    split
    · have := ih (ex + 1); simp only [List.length_cons]; omega
    · have := ih ex; simp only [List.length_cons]; omega
theorem pk_rd {w : World} {b n : Nat} {p : Pt} {x : Fx} (hr : w.rangeAt b 0 (ptC p x)) (hf : FdR w p.fd x) (hs : SmF p.fd) (hn : n = 1) : RdL kPk w (.slice (some ⟨b, 0, none⟩) n 1) [p] [x] := by
  refine ⟨rfl, fun i a y ha hy => ?_, _, _, by rw [hn]; rfl, Or.inr ⟨b, 0, rfl, fun j u hj => ?_⟩⟩
  · cases i with
    | zero => simp only [List.getElem?_cons_zero, Option.some.injEq] at ha hy; subst ha; subst hy; exact ⟨hf, hs⟩
    | succ i => simp at ha
  · have e : cellK kPk [p] [x] = ptC p x := by
      show (rowsK kPk [p] [x]).flatten = _
      simp [rowsK, kPk]
    rw [e] at hj
    exact hr j u hj
end Go.Proofs.Ytgiicendejgklaa

/- What is sent, plainly. No walk is in this text. mkQuSe.py writes it. -/
namespace Go.Proofs.Ytgiicendejgklaa
open Go.RowKit Go.Maps
def sndK (fr : Int) (k : Lk) (i : Nat) : Option Pt := (k.q[i]?).map fun f => ⟨fr, k.pe, false, k.nx - (k.q.length : Int) + (i : Int), f⟩
def sndT (fr : Int) (k : Lk) (i : Nat) : List Pt := (List.range i).filterMap (sndK fr k)
def sndL (fr : Int) (l : List Lk) : List Pt := l.flatMap (fun k => sndT fr k k.q.length)
theorem sndT_succ {fr : Int} {k : Lk} {i : Nat} {f : Fd} (h : k.q[i]? = some f) : sndT fr k (i + 1) = sndT fr k i ++ [⟨fr, k.pe, false, k.nx - (k.q.length : Int) + (i : Int), f⟩] := by
  unfold sndT
  rw [List.range_succ, List.filterMap_append]
  simp [sndK, h]
theorem sndL_take {fr : Int} {l : List Lk} {j : Nat} {k : Lk} (h : l[j]? = some k) : sndL fr (l.take (j + 1)) = sndL fr (l.take j) ++ sndT fr k k.q.length := by
  unfold sndL
  rw [List.take_add_one, h, List.flatMap_append]
  simp
theorem okLs_pos {l : List Lk} (h : okLs l) : ∀ (i : Nat) k, l[i]? = some k → (i : Int) ≤ k.pe := by
  intro i
  induction i with
  | zero => intro k hk; have := (h 0 k hk).1.1.1; simpa using this
  | succ i ih =>
    intro k hk
    have hi : i < l.length := by have := (List.getElem?_eq_some_iff.1 hk).1; omega
    have h1 := (h (i + 1) k hk).2 l[i] i rfl (List.getElem?_eq_getElem hi)
    have h2 := ih l[i] (List.getElem?_eq_getElem hi)
    omega
theorem okLs_len {l : List Lk} (h : okLs l) : l.length ≤ 4 := by
  rcases Nat.lt_or_ge 4 l.length with c | c
  · have h1 := okLs_pos h 4 l[4] (List.getElem?_eq_getElem c)
    have h2 := (h 4 l[4] (List.getElem?_eq_getElem c)).1.1.2
    omega
  · exact c
theorem rdl_at {α ξ : Type} {K : EK α ξ} {w : World} {ad : Option Addr} {n c : Nat} {l : List α} {xs : List ξ} (h : RdL K w (.slice ad n c) l xs) {i : Nat} (hi : i < l.length) : ∃ a x g o, ad = some ⟨g, o, none⟩ ∧ l[i]? = some a ∧ xs[i]? = some x ∧ K.R w a x ∧ w.rangeAt g (o + i * K.c) (K.C a x) := by
  have h1 : l[i]? = some l[i] := List.getElem?_eq_getElem hi
  have h2 : xs[i]? = some (xs[i]'(by rw [h.xl]; exact hi)) := List.getElem?_eq_getElem _
  obtain ⟨ad', c', e, hc⟩ := h.form
  simp only [Value.slice.injEq] at e
  obtain ⟨rfl, _, rfl⟩ := e
  rcases hc with q | ⟨g, o, rfl, hc⟩
  · rw [q] at hi; simp at hi
  · refine ⟨l[i], _, g, o, rfl, h1, h2, h.el i _ _ h1 h2, fun j u hj => ?_⟩
    have := hc _ _ (cellK_get h1 h2 hj)
    rw [show o + i * K.c + j = o + (i * K.c + j) from Nat.add_assoc _ _ _]
    exact this
theorem own_other {w : World} {B : Nat} {e e' : TypeId} {c n b : Nat} {v : Value} {xs : List Value} {cs : Array Value} (h : w.ownsRow B e c v n xs) (hb : w.heap[b]? = some (.cells cs e' (0, 0))) (hne : e' ≠ e) : v.ownBlock ≠ some b := by
  intro q
  rcases h.2 with ⟨q1, _⟩ | ⟨g, cap, cur, q1, _, q2, _⟩
  · rw [q1] at q; simp [Value.ownBlock] at q
  · rw [q1] at q
    simp only [Value.ownBlock, Option.some.injEq] at q
    rw [← q, q2] at hb
    simp only [Option.some.injEq, Obj.cells.injEq] at hb
    exact hne hb.2.1.symm
end Go.Proofs.Ytgiicendejgklaa

/- What one sends its peers (Sends). mkQuSe.py writes it. -/
namespace Go.Proofs.Ytgiicendejgklaa
open Go.RowKit Go.Maps
def SendsQ (w w' : World) (l : List Lk) (fr : Int) (e : Ending) : Prop := ∃ v' er, e = .returned (.tuple #[v', .int .i64 er]) ∧ Below w.heap.size w w' ∧
  ((er = 1 ∧ ¬ (okLs l ∧ (0 ≤ fr ∧ fr < 4)) ∧ v' = .slice none 0 0) ∨ (er = 0 ∧ okLs l ∧ (0 ≤ fr ∧ fr < 4) ∧ ∃ xs', OwL kPk w.heap.size w' v' (sndL fr l) xs'))
set_option maxRecDepth 100000 in
set_option maxHeartbeats 400000 in
theorem sends_any {w : World} {v : Value} {l : List Lk} {xs : List Lx} (h : RdL kLk w v l xs) (hl : l.length ≤ 1000000) (fr : Int) :
    Calls Try.prog 16 #[v, .int .i64 fr] w fun e w' => SendsQ w w' l fr e := by
  obtain ⟨r, hr⟩ := ex_bool (okLs l)
  have K1 : Hid (Calls Try.prog 22 #[v] w fun e w' => e = .returned (.bool r) ∧ Below w.heap.size w w') := mayBeL_any h (by omega) hr
  obtain ⟨sv, hsv⟩ : ∃ z, z = decide (0 ≤ fr ∧ fr < 4) := ⟨_, rfl⟩
  have K3 : Hid (∀ W, Calls Try.prog 24 #[.int .i64 fr] W fun e w' => e = .returned (.bool sv) ∧ Below W.heap.size W w') := fun W => by rw [hsv]; exact isSrv_any fr
  obtain ⟨a, cap, rfl⟩ := rdl_slice h
  have HEL : Hid (∀ (W : World) (j : Nat), Below w.heap.size w W → j < l.length → ∃ (q : Lk) (x : Lx) (g o : Nat), a = some ⟨g, o, none⟩ ∧ l[j]? = some q ∧ LkR w q x ∧ W.rangeAt g (o + j * 5) (lkC q x.qv x.ev)) := fun W j hW hj => by
    obtain ⟨q, x, g, o, h1, h2, h3, h4, h5⟩ := rdl_at h hj
    exact ⟨q, x, g, o, h1, h2, h4.1, rng_bw h5 hW⟩
  have HR := hide hr
  have HSV : Hid (sv = true ↔ (0 ≤ fr ∧ fr < 4)) := by rw [hsv]; exact decide_eq_true_iff
  obtain ⟨N, hN⟩ : ∃ N, N = l.length := ⟨_, rfl⟩
  rw [← hN] at K1 HEL ⊢
  have HN := hide hN
  obtain ⟨j0, hj, hy0, hy1, hyb⟩ := info_parts infoKPacket
  have HJ := hide (And.intro hj (And.intro hy0 (And.intro hy1 hyb)))
  clear h hl hr hsv hN hj hy0 hy1 hyb
  go_enter Try.func16, Try.ntmps16
  go_wp2_with fail
  refine (unhide K1).mono ?_
  rintro e w1 ⟨rfl, b1⟩
  have HB1 := hide b1
  clear K1 b1
  cases r with
  | false =>
    have HF : Hid (¬ (okLs l ∧ (0 ≤ fr ∧ fr < 4))) := fun q => by have := (unhide HR).2 q.1; cases this
    clear K3 HEL
    go_wp2_with fail
    go_ret2
    exact ⟨_, 1, rfl, unhide HB1, Or.inl ⟨rfl, unhide HF, rfl⟩⟩
  | true =>
    go_wp2_with fail
    refine (unhide K3 w1).mono ?_
    rintro e w2 ⟨rfl, b2⟩
    have HB2 := hide (bw_tr (unhide HB1) b2)
    clear K3 b2 HB1
    cases sv with
    | false =>
      have HF : Hid (¬ (okLs l ∧ (0 ≤ fr ∧ fr < 4))) := fun q => by have := (unhide HSV).2 q.2; cases this
      clear HEL
      go_wp2_with fail
      go_ret2
      exact ⟨_, 1, rfl, unhide HB2, Or.inl ⟨rfl, unhide HF, rfl⟩⟩
    | true =>
      have HOK : Hid (okLs l ∧ (0 ≤ fr ∧ fr < 4)) := ⟨(unhide HR).1 (by trivial), (unhide HSV).1 (by trivial)⟩
      have hN4 : N ≤ 4 := by rw [unhide HN]; exact okLs_len (unhide HOK).1
      clear HR HSV
      go_wp2_with fail
      go_loopw [6, 21] (fun sv jv wr => ∃ (j m : Nat) (sa : Option Addr) (sc : Nat), j ≤ N ∧ jv = .int .i64 (j : Int) ∧ sv = .slice sa m sc ∧ m ≤ j * 1024 ∧ Hid ((∃ xs', OwL kPk w.heap.size wr (.slice sa m sc) (sndL fr (l.take j)) xs') ∧ m = (sndL fr (l.take j)).length ∧ Below w.heap.size w wr)) (fun _ jv _ => (N - intOf jv).toNat)
      case atStart => exact ⟨0, 0, none, 0, Nat.zero_le _, rfl, rfl, Nat.zero_le _, ⟨[], OwL.nil kPk _ _⟩, rfl, unhide HB2⟩
      case round =>
        obtain ⟨j, m, sa, sc, hj, rfl, rfl, hm, HR⟩ := hrel
        by_cases hlt : j < N
        · obtain ⟨q, x, g, o, rfl, hq, hR, hrg⟩ := unhide HEL wr j (unhide HR).2.2 hlt
          have hjI : (j : Int) < (N : Int) := by omega
          have h0 : (0 : Int) ≤ (j : Int) := by omega
          obtain ⟨CL, hCL⟩ : ∃ z, z = lkC q x.qv x.ev := ⟨_, rfl⟩
          have hone : ∀ u ∈ CL, u.oneCell' = true := by rw [hCL]; exact lk_one hR
          rw [← hCL] at hrg
          have hcl : CL.length = 5 := by rw [hCL]; rfl
          have z1 : (Try.prog.info? 73).map (·.size) = some CL.length := by rw [hcl]; exact infoLkS
          have z2 : (Try.prog.info? 73).map (·.size) = some CL.toArray.size := by rw [List.size_toArray, hcl]; exact infoLkS
          have z3 : lk0.size = CL.toArray.size := by
            have q_ : CL.toArray.size = 5 := by simpa using hcl
            rw [q_]; rfl
          have HZ := hide (And.intro hrg (And.intro z1 (And.intro z2 (And.intro z3 hone))))
          have hsd := ((unhide HOK).1 j q hq).1.2.1
          obtain ⟨aq, cq, hqv⟩ := rdl_slice hR.q
          obtain ⟨NQ, hNQ⟩ : ∃ z, z = q.q.length := ⟨_, rfl⟩
          rw [← hNQ] at hqv
          have hNQb : NQ ≤ 1024 := by rw [hNQ]; exact hsd.2.1
          have HQ := hide (And.intro hq (And.intro hR (And.intro hCL (And.intro hqv (And.intro hNQ hsd)))))
          clear hq hR hrg hCL hone hcl z1 z2 z3 hsd hqv hNQ
          go_upto_region 7 with (first | refine wpList_load_mid rfl 73 (.tmp 23) rfl g (o + j * 5) (by simp [Act.eval]) CL _ (unhide HZ).1 Try.underlying73 rfl (unhide HZ).2.1 ?_ | refine wpList_store_row rfl 73 (.tmp 8) (.tmp 24) rfl wr.heap.size CL.toArray rfl rfl 73 lk0 (heap_alloc_new _ _) (unhide HZ).2.2.1 (unhide HZ).2.2.2.1 (all_oneCell_toArray (unhide HZ).2.2.2.2) ?_)
          generalize hW : World.setRow (wr.alloc _) wr.heap.size CL.toArray = W2
          have g0 : W2.heap[wr.heap.size]? = some (.cells CL.toArray 73 (0, 0)) := by rw [← hW]; exact setRow_heap _ _ _ _ _ _ (heap_alloc_new _ _)
          have g1 : Below wr.heap.size wr W2 := by rw [← hW]; exact below_setRow' (bwA _ _) (Nat.le_refl _) _
          clear hW
          obtain ⟨lb, hlb⟩ : ∃ z, z = wr.heap.size := ⟨_, rfl⟩
          have s2 : W2.cell? ⟨wr.heap.size, 2, none⟩ = some (.slice aq NQ cq) := blk_c (i := 2) g0 (by rw [(unhide HQ).2.2.1]; show some x.qv = _; rw [(unhide HQ).2.2.2.1])
          have HG := hide g0
          have HS2 : Hid (∃ xs', OwL kPk w.heap.size W2 (.slice sa m sc) (sndL fr (l.take j)) xs') := by
            obtain ⟨xs', ho⟩ := (unhide HR).1
            exact ⟨xs', ho.bw g1⟩
          have HB2W := hide (bw_tr (unhide HR).2.2 g1)
          have HMJ := hide (unhide HR).2.1
          have hw0 := hide (unhide HR).2.2.size
          clear g0 g1 HZ HR HB2
          rw [← hlb] at s2 HG hw0 ⊢
          have HLB := hide hlb
          clear hlb
          go_wp2_with fail
          go_loopw [6, 28] (fun sv iv wq => ∃ (i m2 : Nat) (sa2 : Option Addr) (sc2 : Nat), i ≤ NQ ∧ iv = .int .i64 (i : Int) ∧ sv = .slice sa2 m2 sc2 ∧ m2 ≤ j * 1024 + i ∧ Hid ((∃ xs', OwL kPk w.heap.size wq (.slice sa2 m2 sc2) (sndL fr (l.take j) ++ sndT fr q i) xs') ∧ m2 = (sndL fr (l.take j) ++ sndT fr q i).length ∧ Below w.heap.size w wq ∧ wq.heap[lb]? = some (.cells CL.toArray 73 (0, 0)))) (fun _ iv _ => (NQ - intOf iv).toNat)
          case atStart =>
            refine ⟨0, m, sa, sc, Nat.zero_le _, rfl, rfl, by omega, ?_, ?_, unhide HB2W, unhide HG⟩
            · obtain ⟨xs', ho⟩ := unhide HS2
              exact ⟨xs', by simpa [sndT] using ho⟩
            · simpa [sndT] using unhide HMJ
          case round =>
            clear HG HS2 HB2W s2
            obtain ⟨i, m2, sa2, sc2, hi, rfl, rfl, hm2, HP⟩ := hrel
            by_cases hli : i < NQ
            · have hiI : (i : Int) < (NQ : Int) := by omega
              have hi0 : (0 : Int) ≤ (i : Int) := by omega
              have hRq : RdL kFd wr (.slice aq NQ cq) q.q x.qx := by
                have := (unhide HQ).2.1.q.bw (unhide HP).2.2.1
                rw [(unhide HQ).2.2.2.1] at this; exact this
              obtain ⟨f, y, gf, of, rfl, hf, _, hFR, hFg⟩ := rdl_at hRq (i := i) (by rw [← (unhide HQ).2.2.2.2.1]; exact hli)
              obtain ⟨FS, hFS⟩ : ∃ z, z = fdC f y := ⟨_, rfl⟩
              have hFg2 : wr.rangeAt gf (of + i * 53) FS := by rw [hFS]; exact hFg
              have hone : ∀ u ∈ FS, u.oneCell' = true := by rw [hFS]; exact fd_one hFR.1
              have hfl : FS.length = 53 := by rw [hFS]; rfl
              have z1 : (Try.prog.info? 43).map (·.size) = some FS.length := by rw [hfl]; exact infoFdS3
              have z2 : (Try.prog.info? 43).map (·.size) = some FS.toArray.size := by rw [List.size_toArray, hfl]; exact infoFdS3
              have z3 : fd0.size = FS.toArray.size := by
                have q_ : FS.toArray.size = 53 := by simpa using hfl
                rw [q_]; rfl
              have HZ := hide (And.intro hFg2 (And.intro z1 (And.intro z2 (And.intro z3 hone))))
              have HFQ := hide (And.intro hf (And.intro hFR hFS))
              clear hRq hf hFR hFg hFS hFg2 hone hfl z1 z2 z3
              go_upto_region 10 with (first | refine wpList_load_mid rfl 43 (.tmp 31) rfl gf (of + i * 53) (by simp [Act.eval]) FS _ (unhide HZ).1 Try.underlying43 rfl (unhide HZ).2.1 ?_ | refine wpList_store_row rfl 43 (.tmp 10) (.tmp 32) rfl wr.heap.size FS.toArray rfl rfl 43 fd0 (heap_alloc_new _ _) (unhide HZ).2.2.1 (unhide HZ).2.2.2.1 (all_oneCell_toArray (unhide HZ).2.2.2.2) ?_)
              generalize hW : World.setRow (wr.alloc _) wr.heap.size FS.toArray = W4
              have g0 : W4.heap[wr.heap.size]? = some (.cells FS.toArray 43 (0, 0)) := by rw [← hW]; exact setRow_heap _ _ _ _ _ _ (heap_alloc_new _ _)
              have g1 : Below wr.heap.size wr W4 := by rw [← hW]; exact below_setRow' (bwA _ _) (Nat.le_refl _) _
              clear hW HZ
              obtain ⟨xs0, hsent⟩ := (unhide HP).1
              obtain ⟨W, hWd⟩ : ∃ z, z = W4.drew := ⟨_, rfl⟩
              have g1W : Below wr.heap.size wr W := by rw [hWd]; exact g1.drew
              have kF : W.heap[wr.heap.size]? = some (.cells FS.toArray 43 (0, 0)) := by rw [hWd]; exact g0
              have kL : W.heap[lb]? = some (.cells CL.toArray 73 (0, 0)) := by rw [g1W.block lb (lt_of_blk (unhide HP).2.2.2)]; exact (unhide HP).2.2.2
              have hsW : OwL kPk w.heap.size W (.slice sa2 m2 sc2) (sndL fr (l.take j) ++ sndT fr q i) xs0 := hsent.bw g1W
              have hbW : Below w.heap.size w W := bw_tr (unhide HP).2.2.1 g1W
              obtain ⟨pe, hpe⟩ : ∃ z, z = q.pe := ⟨_, rfl⟩
              obtain ⟨fi, hfi⟩ : ∃ z, z = q.nx - (q.q.length : Int) := ⟨_, rfl⟩
              have hsd := (unhide HQ).2.2.2.2.2
              have fi0 : 0 ≤ fi := by have := hsd.2.2.1; omega
              have fi1 : fi ≤ 1099511627776 := by have := hsd.1; omega
              have HS : Hid (∀ V : World, V.heap[lb]? = some (.cells CL.toArray 73 (0, 0)) → V.heap[wr.heap.size]? = some (.cells FS.toArray 43 (0, 0)) → V.cell? ⟨lb, 0, none⟩ = some (.int .i64 pe) ∧ V.rangeAt lb 0 CL ∧ V.rangeAt wr.heap.size 0 FS) := fun V h1 h2 => ⟨blk_c h1 (by rw [(unhide HQ).2.2.1, hpe]; rfl), blk_rngQ h1 (fun j u hj => by rw [Nat.zero_add]; simpa using hj), blk_rngQ h2 (fun j u hj => by rw [Nat.zero_add]; simpa using hj)⟩
              have HSB : Hid (∀ V : World, Below W.heap.size W V → V.cell? ⟨lb, 0, none⟩ = some (.int .i64 pe) ∧ V.rangeAt lb 0 CL ∧ V.rangeAt wr.heap.size 0 FS) := fun V hV => unhide HS V (kept_b kL (lt_of_blk kL) hV) (kept_b kF (lt_of_blk kF) hV)
              have S0 := unhide HSB W (Below.refl _ _)
              have KFi : Hid (Calls Try.prog 30 #[.agg CL.toArray] W fun e w' => e = .returned (.int .i64 fi) ∧ Below W.heap.size W w') := by
                rw [(unhide HQ).2.2.1, hfi]
                exact first_any ((unhide HQ).2.1.bw hbW) (by have := hsd.2.2.1; omega) hsd.1 hsd.2.1
              have KFe : Hid (∀ z1 : World, Below W.heap.size W z1 → Calls Try.prog 26 #[.agg FS.toArray] z1 fun e w' => ∃ y' : Fx, e = .returned (.agg (fdC f y').toArray) ∧ OF z1.heap.size w' f y' ∧ Below z1.heap.size z1 w') := fun z1 hz => by
                rw [(unhide HFQ).2.2]
                exact frFeed_any ((unhide HFQ).2.1.1.bw (bw_tr g1W hz)) (unhide HFQ).2.1.2
              have HROW : Hid (∀ (zz : World) (o : Obj), Below W.heap.size W zz → (zz.alloc o).ownsRow w.heap.size 45 57 (.slice sa2 m2 sc2) m2 (cellK kPk (sndL fr (l.take j) ++ sndT fr q i) xs0) ∧ w.heap.size ≤ (zz.alloc o).heap.size) := fun zz o hz => by
                have h1 := (OwL.bw hsW (bw_tr hz (bwA zz o))).row
                rw [← (unhide HP).2.1] at h1
                exact ⟨h1, Nat.le_trans hbW.size (bw_tr hz (bwA zz o)).size⟩
              have HDN : Hid (∀ (z1 zz w5 : World) (v5 : Value) (y' : Fx) (PS : List Value), PS = ptC ⟨fr, pe, false, fi + (i : Int), f⟩ y' → Below W.heap.size W z1 → OF z1.heap.size zz f y' → Below z1.heap.size z1 zz → w5.ownsRow w.heap.size 45 57 v5 (m2 + 1) (cellK kPk (sndL fr (l.take j) ++ sndT fr q i) xs0 ++ PS) → (zz.alloc (.cells PS.toArray 45)).grownBy w5 (Value.slice sa2 m2 sc2).ownBlock → (v5.ownBlock = (Value.slice sa2 m2 sc2).ownBlock ∨ v5.ownBlock = some (zz.alloc (.cells PS.toArray 45)).heap.size) →
                  (w5.cell? ⟨lb, 0, none⟩ = some (.int .i64 pe) ∧ w5.rangeAt lb 0 CL ∧ w5.rangeAt wr.heap.size 0 FS) ∧ Hid ((∃ xs', OwL kPk w.heap.size w5 v5 (sndL fr (l.take j) ++ sndT fr q (i + 1)) xs') ∧ m2 + 1 = (sndL fr (l.take j) ++ sndT fr q (i + 1)).length ∧ Below w.heap.size w w5 ∧ w5.heap[lb]? = some (.cells CL.toArray 73 (0, 0)))) := fun z1 zz w5 v5 y' PS hPS hz1 hO hzz hr hg hv => by
                have hb3 : Below z1.heap.size z1 (zz.alloc (.cells PS.toArray 45)) := bw_tr hzz (bwA zz _)
                have hbA : Below W.heap.size W (zz.alloc (.cells PS.toArray 45)) := bw_tr hz1 hb3
                have hO3 : OF z1.heap.size (zz.alloc (.cells PS.toArray 45)) f y' := OF.keep hO (fun z hq => (bwA zz _).block z (OF.lt hO z hq).2)
                subst hPS
                rw [(unhide HP).2.1] at hr
                have h5 : OwL kPk w.heap.size w5 v5 _ _ := OwL.snocK (K := kPk) (c := ⟨fr, pe, false, fi + (i : Int), f⟩) (x := y') (hsW.bw hz1) hb3 (Nat.le_trans hbW.size hz1.size) hO3 hr hg hv
                have hsx : sndL fr (l.take j) ++ sndT fr q i ++ [⟨fr, pe, false, fi + (i : Int), f⟩] = sndL fr (l.take j) ++ sndT fr q (i + 1) := by
                  rw [sndT_succ (unhide HFQ).1, hpe, hfi, List.append_assoc]
                rw [hsx] at h5
                have hf := Fr.ofGrown hg
                have nL : (Value.slice sa2 m2 sc2).ownBlock ≠ some lb := own_other hsW.row kL (by decide)
                have nF : (Value.slice sa2 m2 sc2).ownBlock ≠ some wr.heap.size := own_other hsW.row kF (by decide)
                have l5 : w5.heap[lb]? = some (.cells CL.toArray 73 (0, 0)) := by
                  rw [hf.block lb (Nat.lt_of_lt_of_le (lt_of_blk kL) hbA.size) (fun q => nL (by simpa using q)), hbA.block lb (lt_of_blk kL)]; exact kL
                have f5 : w5.heap[wr.heap.size]? = some (.cells FS.toArray 43 (0, 0)) := by
                  rw [hf.block wr.heap.size (Nat.lt_of_lt_of_le (lt_of_blk kF) hbA.size) (fun q => nF (by simpa using q)), hbA.block wr.heap.size (lt_of_blk kF)]; exact kF
                refine ⟨unhide HS w5 l5 f5, ⟨_, h5⟩, ?_, ?_, l5⟩
                · rw [← hsx, List.length_append, ← (unhide HP).2.1]; rfl
                · refine fr_bel (bw_tr hbW hbA) hf (fun z hz => ?_) (by have := hbW.size; have := hbA.size; omega)
                  exact (World.ownsRow.lt hsW.row z (by simpa using hz)).1
              have HIL : Hid ((Try.prog.info? 73).map (·.size) = some CL.length) := by rw [(unhide HQ).2.2.1]; exact infoLkS
              have HIF : Hid ((Try.prog.info? 43).map (·.size) = some FS.length) := by rw [(unhide HFQ).2.2]; exact infoFdS3
              have hm4 : m2 ≤ 6000 := by have := hm2; have : j * 1024 ≤ 4096 := by omega
                                         omega
              have HM4 := hide hm4
              have HWR : Hid (IntKind.i64.wrap (fi + (i : Int)) = fi + (i : Int)) := wrap_id (by omega)
              have HWD := hide hWd
              clear g0 g1 hsent hWd g1W kF kL hsW hbW hpe hfi hsd HP HS hm4
              go_upto_region 10 with fail
              refine wp_region_held_drew (S := fun w' : World => (w').cell? ⟨lb, 0, none⟩ = some (.int .i64 pe) ∧ (w').rangeAt lb 0 CL ∧ (w').rangeAt wr.heap.size 0 FS) (by kernel_rfl) (by rw [← unhide HWD]; exact S0) (fun hHeld => ?_)
              revert hHeld
              rw [← unhide HWD]
              intro hHeld
              refine wpAnyH_take (i := 0) (oi := { dst := some 33, op := Op.move (Operand.tmp 6), type := 53, pos := "queue.go:40", after := #[], guard := none }) (v := ?v0r1) rfl (by kernel_rfl) (by kernel_rfl) (by kernel_rfl) (fun _ _ _ h => h) (Or.inl ⟨by rfl, ?hy0r1⟩) (by exact hHeld) ?_
              case hy0r1 => (intro w hSw; (try dsimp only at hSw); go_simp; try (with_reducible rfl))
              try simp only [Act.put, List.setIfInBounds_toArray, List.set_cons_zero, List.set_cons_succ]
              refine wpAnyH_take (i := 1) (oi := { dst := some 34, op := Op.move (Operand.tmp 1), type := 3, pos := "queue.go:40", after := #[], guard := none }) (v := ?v1r1) rfl (by kernel_rfl) (by kernel_rfl) (by kernel_rfl) (fun _ _ _ h => h) (Or.inl ⟨by rfl, ?hy1r1⟩) (by exact hHeld) ?_
              case hy1r1 => (intro w hSw; (try dsimp only at hSw); go_simp; try (with_reducible rfl))
              try simp only [Act.put, List.setIfInBounds_toArray, List.set_cons_zero, List.set_cons_succ]
              refine wpAnyH_take (i := 2) (oi := { dst := some 35, op := Op.fieldAddr 73 (Operand.tmp 8) 0, type := 0, pos := "queue.go:40", after := #[], guard := none }) (v := ?v2r1) rfl (by kernel_rfl) (by kernel_rfl) (by kernel_rfl) (fun _ _ _ h => h) (Or.inl ⟨by rfl, ?hy2r1⟩) (by exact hHeld) ?_
              case hy2r1 => (intro w hSw; (try dsimp only at hSw); go_simp; try (with_reducible rfl))
              try simp only [Act.put, List.setIfInBounds_toArray, List.set_cons_zero, List.set_cons_succ]
              refine wpAnyH_take (i := 3) (oi := { dst := some 36, op := Op.load 3 (Operand.tmp 35), type := 3, pos := "queue.go:40", after := #[{ on := 2, ground := Ground.data }], guard := none }) (v := ?v3r1) rfl (by kernel_rfl) (by kernel_rfl) (by kernel_rfl) (fun _ _ _ h => h) (Or.inl ⟨by rfl, ?hy3r1⟩) (by exact hHeld) ?_
              case hy3r1 => (intro w hSw; (try dsimp only at hSw); go_simp; try (with_reducible rfl))
              try simp only [Act.put, List.setIfInBounds_toArray, List.set_cons_zero, List.set_cons_succ]
              refine wpAnyH_take (i := 4) (oi := { dst := some 37, op := Op.load 73 (Operand.tmp 8), type := 73, pos := "queue.go:40", after := #[], guard := none }) (v := .agg CL.toArray) rfl (by kernel_rfl) (by kernel_rfl) (by kernel_rfl) (fun _ _ _ h => h) (yieldsIf_load_mid (by rfl) 73 (.tmp 8) rfl lb 0 (by rfl) CL _ (fun _ h => h.2.1) Try.underlying73 rfl (unhide HIL)) (by exact hHeld) ?_
              try simp only [Act.put, List.setIfInBounds_toArray, List.set_cons_zero, List.set_cons_succ]
              refine wpAnyH_take (i := 6) (oi := { dst := some 39, op := Op.move (Operand.tmp 9), type := 3, pos := "queue.go:40", after := #[], guard := none }) (v := ?v6r1) rfl (by kernel_rfl) (by kernel_rfl) (by kernel_rfl) (fun _ _ _ h => h) (Or.inl ⟨by rfl, ?hy6r1⟩) (by exact hHeld) ?_
              case hy6r1 => (intro w hSw; (try dsimp only at hSw); go_simp; try (with_reducible rfl))
              try simp only [Act.put, List.setIfInBounds_toArray, List.set_cons_zero, List.set_cons_succ]
              refine wpAnyH_take (i := 8) (oi := { dst := some 41, op := Op.load 43 (Operand.tmp 10), type := 43, pos := "queue.go:40", after := #[], guard := none }) (v := .agg FS.toArray) rfl (by kernel_rfl) (by kernel_rfl) (by kernel_rfl) (fun _ _ _ h => h) (yieldsIf_load_mid (by rfl) 43 (.tmp 10) rfl wr.heap.size 0 (by rfl) FS _ (fun _ h => h.2.2) Try.underlying43 rfl (unhide HIF)) (by exact hHeld) ?_
              try simp only [Act.put, List.setIfInBounds_toArray, List.set_cons_zero, List.set_cons_succ]
              refine wpAnyH_ready (rs := [5]) (by kernel_rfl) (by simp) ?_
              refine AllReadyH.cons (o := { dst := some 38, op := Op.call { callee := Callee.value (Operand.func 30), args := #[Operand.tmp 37], argTypes := #[73] }, type := 3, pos := "queue.go:40", after := #[{ on := 4, ground := Ground.data }], guard := none }) rfl (fun K hK => ?_) AllReadyH.nil
              go_simp
              go_at_call 30
              refine (unhide KFi).mono ?_
              rintro e_ z1 ⟨rfl, b1_⟩
              have SZ1 := unhide HSB z1 b1_
              have KZ := hide (unhide KFe z1 b1_)
              have HX1 := hide b1_
              clear KFi b1_
              go_wp2_with fail
              refine hK.out _ _ SZ1 (fun _ => ?_)
              clear hK K
              try simp only [Act.put, List.setIfInBounds_toArray, List.set_cons_zero, List.set_cons_succ]
              refine wpAnyH_take (i := 7) (oi := { dst := some 40, op := Op.binOp BinOp.add 3 (Operand.tmp 38) (Operand.tmp 39) 3, type := 3, pos := "queue.go:40", after := #[{ on := 5, ground := Ground.data }, { on := 6, ground := Ground.data }], guard := none }) (v := .int .i64 (fi + (i : Int))) rfl (by kernel_rfl) (by kernel_rfl) (by kernel_rfl) (fun _ _ _ h => h) (Or.inl ⟨by rfl, ?hy7r1⟩) (by exact SZ1) ?_
              case hy7r1 => (intro w hSw; go_simp; try (exact unhide HWR))
              try simp only [Act.put, List.setIfInBounds_toArray, List.set_cons_zero, List.set_cons_succ]
              refine wpAnyH_ready (rs := [9]) (by kernel_rfl) (by simp) ?_
              refine AllReadyH.cons (o := { dst := some 42, op := Op.call { callee := Callee.value (Operand.func 26), args := #[Operand.tmp 41], argTypes := #[43] }, type := 43, pos := "queue.go:40", after := #[{ on := 8, ground := Ground.data }, { on := 5, ground := Ground.chain }], guard := none }) rfl (fun K hK => ?_) AllReadyH.nil
              go_simp
              go_at_call 26
              refine (unhide KZ).mono ?_
              rintro e_ zz ⟨y', rfl, hO_, b2_⟩
              have SZ2 := unhide HSB zz (bw_tr (unhide HX1) b2_)
              have HX := hide (And.intro (unhide HX1) (And.intro hO_ b2_))
              obtain ⟨PS, hPS⟩ : ∃ z, z = ptC ⟨fr, pe, false, fi + (i : Int), f⟩ y' := ⟨_, rfl⟩
              have HB1 : Hid (Try.prog.built 45 [(0, .int .i64 fr), (1, .int .i64 pe), (3, .int .i64 (fi + (i : Int))), (4, .agg (fdC f y').toArray)] = some PS.toArray) := (by rw [hPS]; exact built_sent fr pe (fi + (i : Int)) f y')
              have HPS := hide (And.intro hPS (And.intro (show PS.length = 57 by rw [hPS]; rfl) (show ∀ u ∈ PS, u.oneCell' = true by rw [hPS]; exact pt_one (p := ⟨fr, pe, false, fi + (i : Int), f⟩) (OF.rd hO_ (unhide HFQ).2.1.2))))
              have SZ3 := fun o => unhide HSB (zz.alloc o) (bw_tr (unhide HX1) (bw_tr b2_ (bwA zz o)))
              obtain ⟨FY, hFY⟩ : ∃ z, z = fdC f y' := ⟨_, rfl⟩
              rw [← hFY] at HB1 ⊢
              clear hPS hO_ b2_ HX1 hFY
              go_wp2_with fail
              refine hK.out _ _ SZ2 (fun _ => ?_)
              clear hK K
              try simp only [Act.put, List.setIfInBounds_toArray, List.set_cons_zero, List.set_cons_succ]
              refine wpAnyH_take (i := 10) (oi := { dst := some 43, op := Op.build 45 #[(0, Operand.tmp 34), (1, Operand.tmp 36), (3, Operand.tmp 40), (4, Operand.tmp 42)], type := 45, pos := "queue.go:40", after := #[{ on := 1, ground := Ground.data }, { on := 3, ground := Ground.data }, { on := 7, ground := Ground.data }, { on := 9, ground := Ground.data }], guard := none }) (v := .agg PS.toArray) rfl (by kernel_rfl) (by kernel_rfl) (by kernel_rfl) (fun _ _ _ h => h) (Or.inl ⟨by rfl, ?hy10r1⟩) (by exact SZ2) ?_
              case hy10r1 => (intro w hSw; exact exec_build rfl (by simpa [Act.eval, Act.put] using unhide HB1) w)
              try simp only [Act.put, List.setIfInBounds_toArray, List.set_cons_zero, List.set_cons_succ]
              refine wpAnyH_ready (rs := [11]) (by kernel_rfl) (by simp) ?_
              refine AllReadyH.cons (o := { dst := some 44, op := Op.buildSlice 53 1 #[(0, Operand.tmp 43)], type := 53, pos := "queue.go:40", after := #[{ on := 10, ground := Ground.data }], guard := none }) rfl (fun K hK => ?_) AllReadyH.nil
              refine step_buildM rfl 53 45 (.tmp 43) rfl PS (by first | rfl | simp [Act.eval, Act.put]) j0 (.agg pt0) Try.underlying53 (unhide HJ).1 (unhide HJ).2.1 (by rw [(unhide HPS).2.1]; exact (unhide HJ).2.2.1) (by rw [(unhide HPS).2.1]; decide) (by rw [(unhide HPS).2.1]; decide) ?_
              refine hK.out _ _ (SZ3 _) (fun _ => ?_)
              clear hK K
              try simp only [Act.put, List.setIfInBounds_toArray, List.set_cons_zero, List.set_cons_succ]
              refine wpAnyH_ready (rs := [12]) (by kernel_rfl) (by simp) ?_
              refine AllReadyH.cons (o := { dst := some 45, op := Op.call { callee := Callee.builtin Builtin.append, args := #[Operand.tmp 33, Operand.tmp 44], argTypes := #[53, 53] }, type := 53, pos := "queue.go:40", after := #[{ on := 0, ground := Ground.data }, { on := 11, ground := Ground.data }, { on := 9, ground := Ground.chain }], guard := none }) rfl (fun K hK => ?_) AllReadyH.nil
              refine step_appM rfl (.tmp 33) (.tmp 44) 53 rfl w.heap.size 45 j0 (.agg pt0) 57 632 Try.underlying53 (unhide HJ).1 (unhide HJ).2.1 (unhide HJ).2.2.1 (unhide HJ).2.2.2 rfl (by decide) (.slice sa2 m2 sc2) m2 (cellK kPk (sndL fr (l.take j) ++ sndT fr q i) xs0) (by first | rfl | simp [Act.eval, Act.put]) (unhide HROW zz _ (bw_tr (unhide HX).1 (unhide HX).2.2)).1 ⟨zz.heap.size, 0, none⟩ 1 1 PS (by first | rfl | simp [Act.eval, Act.put]) (by rw [(unhide HPS).2.1]) (cells_newM zz PS 45) (unhide HPS).2.2 (by have := unhide HM4; unfold maxLen; omega) (by have := unhide HM4; omega) (unhide HROW zz _ (bw_tr (unhide HX).1 (unhide HX).2.2)).2 ?_
              intro v5 w5 hr5 hg5 hv5
              obtain ⟨a5_, c5_, e5_⟩ := own_slice hr5
              obtain ⟨S5, HNX⟩ := unhide HDN z1 zz w5 v5 y' PS (unhide HPS).1 (unhide HX).1 (unhide HX).2.1 (unhide HX).2.2 hr5 hg5 hv5
              clear hr5 hg5 hv5
              subst e5_
              refine hK.out _ _ S5 (fun _ => ?_)
              clear hK K
              try simp only [Act.put, List.setIfInBounds_toArray, List.set_cons_zero, List.set_cons_succ]
              refine wpAnyH_take (i := 13) (oi := { dst := some 6, op := Op.assign (Operand.tmp 45), type := 53, pos := "queue.go:40", after := #[{ on := 12, ground := Ground.data }, { on := 12, ground := Ground.chain }, { on := 0, ground := Ground.phase }, { on := 1, ground := Ground.phase }, { on := 2, ground := Ground.phase }, { on := 3, ground := Ground.phase }, { on := 4, ground := Ground.phase }, { on := 5, ground := Ground.phase }, { on := 6, ground := Ground.phase }, { on := 7, ground := Ground.phase }, { on := 8, ground := Ground.phase }, { on := 9, ground := Ground.phase }, { on := 10, ground := Ground.phase }, { on := 11, ground := Ground.phase }, { on := 12, ground := Ground.phase }], guard := none }) (v := ?v13r1) rfl (by kernel_rfl) (by kernel_rfl) (by kernel_rfl) (fun _ _ _ h => h) (Or.inl ⟨by rfl, ?hy13r1⟩) (by exact S5) ?_
              case hy13r1 => (intro w hSw; (try dsimp only at hSw); go_simp; try (with_reducible rfl))
              try simp only [Act.put, List.setIfInBounds_toArray, List.set_cons_zero, List.set_cons_succ]
              refine wpAnyH_done (by kernel_rfl) ?_ _
              clear S0 SZ1 SZ2 SZ3 S5 HSB KFe HROW HDN HIL HIF KZ HB1 HX HPS
              go_wp2_with fail
              go_roundw
              case rel => exact ⟨i + 1, m2 + 1, a5_, c5_, by omega, by go_num, rfl, by omega, HNX⟩
              case measure => simp only [intOf]; omega
            · obtain rfl : i = NQ := by omega
              have HNX : Hid ((∃ xs', OwL kPk w.heap.size wr (.slice sa2 m2 sc2) (sndL fr (l.take (j + 1))) xs') ∧ m2 = (sndL fr (l.take (j + 1))).length ∧ Below w.heap.size w wr) := by
                have e := sndL_take (fr := fr) (unhide HQ).1
                rw [← (unhide HQ).2.2.2.2.1] at e
                rw [e]
                exact ⟨(unhide HP).1, (unhide HP).2.1, (unhide HP).2.2.1⟩
              have hnj : ¬ (i : Int) < (i : Int) := by omega
              clear HP HEL HJ
              go_wp2_with fail
              go_roundw
              case rel => exact ⟨j + 1, m2, sa2, sc2, by omega, by go_num, rfl, by omega, HNX⟩
              case measure => simp only [intOf]; omega
        · obtain rfl : j = N := by omega
          have HFIN : Hid (SendsQ w wr l fr (.returned (.tuple #[.slice sa m sc, .int .i64 0]))) := by
            obtain ⟨⟨xs', ho⟩, _, hb⟩ := unhide HR
            have e : l.take j = l := by rw [unhide HN]; simp
            rw [e] at ho
            exact ⟨_, 0, rfl, hb, Or.inr ⟨rfl, (unhide HOK).1, (unhide HOK).2, xs', ho⟩⟩
          have hnj : ¬ (j : Int) < (j : Int) := by omega
          clear HEL HR HJ
          go_wp2_with fail
          go_ret2
          exact unhide HFIN
end Go.Proofs.Ytgiicendejgklaa
