/- A Book of the ledger's kinds: what it is told, and Apart. mkLgTells.py writes it. -/
import Derived.Test.YtnfhbmlmemifjaaGreatDoorZ21
import Derived.Test.YtnfhbmlmemifjaaGreatDoorBgPLg
import Derived.Test.YtnfhbmlmemifjaaGreatDoorZ30
namespace Go.Proofs.YtnfhbmlmemifjaaGreatDoor
open Go.RowKit Go.Maps
theorem t5Lg : T5 ksLg := ⟨rfl, rfl, rfl, rfl, rfl⟩
theorem hcLg : ksLg.D 21 = some kgCommit.k := rfl
theorem hlLg : ksLg.D 28 = some kgLog.k := rfl
theorem logsLg_r : RwC (pkLg ksLg t5Lg hcLg) 21 28 := logs_r t5Lg hcLg hlLg (log_e (C5.of t5Lg) hcLg) (keepLog_c.list hlLg)
theorem commitLg_e : ElC (pkCm ksLg t5Lg) 22 := commit_e (C5.of t5Lg) (ksLg.eout hcLg)
theorem setRow_newB (w : World) (cells : Array Value) (t : TypeId) (new : Array Value) : ((w.alloc (.cells cells t)).setRow w.heap.size new).heap[w.heap.size]? = some (.cells new t (0, 0)) := by
  have h := heap_alloc_new w (.cells cells t)
  simp only [World.setRow, Array.getElem?_modify, h]
  simp
theorem setRow_belowB (w : World) (cells : Array Value) (t : TypeId) (new : Array Value) : Below w.heap.size w ((w.alloc (.cells cells t)).setRow w.heap.size new) := by
  have hb : Below w.heap.size w (w.alloc (.cells cells t)) := (Below.refl _ _).alloc (Nat.le_refl _) _
  refine ⟨hb.os, hb.tape, hb.output, by simp [World.setRow], fun k hk => ?_⟩
  rw [← hb.block k hk]
  have hne : ¬ w.heap.size = k := by omega
  simp only [World.setRow, Array.getElem?_modify, if_neg hne]
theorem OC.bw {B : Nat} {w w' : World} {c : Cm} {x : Cv} {us : List Value} (h : OC B w c x us) (hb : Below w.heap.size w w') : OC B w' c x us := h.keep (fun k hk => hb.block k (h.lt k hk).2)
theorem OC.tf {B B' : Nat} {w w' : World} {c : Cm} {x : Cv} {us : List Value} (h : OC B w c x us) (hs : SmB c) (ht : Tf ksLg.ts B' w w') : OC B w' c x us := h.keep (fun k hk => by
  obtain ⟨p, hp, e⟩ := (pkCm ksLg t5Lg).cov B w c (x, us) h k hk
  exact ((pkCm ksLg t5Lg).own B w c (x, us) h hs p hp).same ht e)
theorem bg_loadG {ops : Array Oper} {rest : List Oper} {op : Oper} {a : Act} {w : World} {Q : Exit → Act → World → Prop} (hgd : Region.wanted op (yielded ops a.tmps) = true) (ty : TypeId) (x : Operand) (ho : op.op = .load ty x)
    (b o : Nat) (hx : a.eval x = .pointer (some ⟨b, o, none⟩)) (cs : List Value) (d : TypeDesc) (hc : w.rangeAt b o cs)
    (hu : Tryz.prog.underlying ty = some d) (hd : d.isRow = true) (hi : (Tryz.prog.info? ty).map (·.size) = some cs.length)
    (h : wpList Tryz.prog ops Q rest (a.put op.dst (.agg cs.toArray)) w) : wpList Tryz.prog ops Q (op :: rest) a w :=
  wpList_step fun K hK => by rw [if_pos hgd]; exact wp_load_mid ty x ho b o hx cs d hc hu hd hi (hK _ _ h)
theorem rng_blk {w : World} {b : Nat} {t : TypeId} {vs : List Value} (h : w.heap[b]? = some (.cells vs.toArray t (0, 0))) : w.rangeAt b 0 vs := fun j u hj => by
  rw [Nat.zero_add]
  exact cell_of_blk h (by rw [List.getElem?_toArray]; exact hj)
theorem rng_tf {B b : Nat} {w w' : World} {CL : List Value} {t : TypeId} (h : w.heap[b]? = some (.cells CL.toArray t (0, 0))) (ht : Tf ksLg.ts B w w') (hn : t ∉ ksLg.ts) : w'.heap[b]? = some (.cells CL.toArray t (0, 0)) := ht.blk h hn
end Go.Proofs.YtnfhbmlmemifjaaGreatDoor
