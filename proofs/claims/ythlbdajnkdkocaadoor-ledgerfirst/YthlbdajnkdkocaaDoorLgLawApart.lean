/- LedgerApart, the walk. -/
import Derived.Test.YthlbdajnkdkocaaDoorZ22
namespace Go.Proofs.YthlbdajnkdkocaaDoor
open Go.RowKit Go.Maps
theorem appX_any {w : World} {v : Value} {l : List Lg} {c : Cm} {x : Cv} {k : Nat} (h : Lgs w v l) (hs : SzL k l) (hk : k < 1073741824) (hc : CmR w c x) (hsc : SmC c) (hT : Tab w) :
    Calls Tryd.prog 9 #[v, cmV c x] w fun e w' => ∃ (a : Option Addr) (q : Nat), e = .returned (.tuple #[.slice a (appL l c).length q, .int .i64 (appE l c)]) ∧ Hid (Lgs w' (.slice a (appL l c).length q) (appL l c)) ∧ Below w.heap.size w w' := by
  refine (lgAppend_any h (hs.sm (by omega)) hc hsc hT).mono ?_
  rintro e w' ⟨v', xs', rfl, ho, hb⟩
  obtain ⟨a, q, hv⟩ := own_slice ho.row
  subst hv
  exact ⟨a, q, rfl, ho.lgs ((hs.app hsc).sm (by omega)), hb⟩
end Go.Proofs.YthlbdajnkdkocaaDoor
