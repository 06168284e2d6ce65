/- The contracts of SetPath, the program's and the document's, whatever comes of it. -/
import Derived.Test.YtpgppnmobbgefaaGreatDoorTeP
namespace Go.Proofs.YtpgppnmobbgefaaGreatDoor
open Go.RowKit Go.Maps

def setR (T : List Nd) (i e p : Int) (ps : List Int) : List Nd := if setE T i e p ps = 0 then setT T i.toNat e p ps else []
theorem set_any {w : World} {v pv : Value} {T : List Nd} {ps : List Int} (h : Trd w v T) (hpv : Nums w pv ps) (hps : ps.length ≤ 1048576) (hT : Tab w) (li ee pp : Int) :
    Calls Tryz.prog 40 #[.agg #[v], .int .i64 li, .int .i64 ee, .int .i64 pp, pv] w fun e w' => ∃ r us, e = .returned (.tuple #[.agg #[r], .int .i64 (setE T li ee pp ps)]) ∧ OTr w.heap.size w' r (setR T li ee pp ps) us ∧ Below w.heap.size w w' := by
  by_cases hE : setE T li ee pp ps = 0
  · refine (set_ok h hpv hT li ee pp hE).mono ?_
    rintro e w' ⟨r, us, h1, h2, h3⟩
    refine ⟨r, us, ?_, ?_, h3⟩
    · rw [h1, hE]
    · unfold setR; rw [if_pos hE]; exact h2
  · refine (set_err h hpv hps hT li ee pp hE).mono ?_
    rintro e w' ⟨h1, h3⟩
    refine ⟨.slice none 0 0, [], ?_, ?_, h3⟩
    · rw [h1]
    · unfold setR; rw [if_neg hE]; exact otr_nil _ _
theorem rset_any {w : World} {v pv : Value} {T : List Nd} {ps : List Int} (h : Trd w v T) (hpv : Nums w pv ps) (hps : ps.length ≤ 1048576) (li ee pp : Int) :
    Calls Tryz.prog 41 #[.agg #[v], .int .i64 li, .int .i64 ee, .int .i64 pp, pv] w fun e w' => ∃ r us, e = .returned (.tuple #[.agg #[r], .int .i64 (setE T li ee pp ps)]) ∧ OTr w.heap.size w' r (setR T li ee pp ps) us ∧ Below w.heap.size w w' := by
  by_cases hE : setE T li ee pp ps = 0
  · refine (rset_ok h hpv li ee pp hE).mono ?_
    rintro e w' ⟨r, us, h1, h2, h3⟩
    refine ⟨r, us, ?_, ?_, h3⟩
    · rw [h1, hE]
    · unfold setR; rw [if_pos hE]; exact h2
  · refine (rset_err h hpv hps li ee pp hE).mono ?_
    rintro e w' ⟨h1, h3⟩
    refine ⟨.slice none 0 0, [], ?_, ?_, h3⟩
    · rw [h1]
    · unfold setR; rw [if_neg hE]; exact otr_nil _ _
end Go.Proofs.YtpgppnmobbgefaaGreatDoor
