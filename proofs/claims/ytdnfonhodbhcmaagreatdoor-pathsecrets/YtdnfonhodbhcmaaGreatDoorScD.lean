/- The contracts of sched.Next and sched.From, whatever is asked. -/
import Derived.Test.YtdnfonhodbhcmaaGreatDoorZ18
namespace Go.Proofs.YtdnfonhodbhcmaaGreatDoor.Tn
open Go.RowKit Go.Maps

def nx3 (L : List Tm) (i c x : Int) : Bool := thr L.length i && (thr L.length c && thr L.length x)
def nxtL (L : List Tm) (i c x : Int) : List Tm := if nx3 L i c x = true then secL (nxL L i c) (nxJ L i c : Nat) x else L
def nxtV (L : List Tm) (i c x : Int) : List Int := if nx3 L i c x = true then secV (nxL L i c) (nxJ L i c : Nat) x else [0, 0, 0, 0, 0, 0]
def nxtE (L : List Tm) (i c x : Int) : Int := if nx3 L i c x = true then 0 else 1
def fr2 (L : List Tm) (j x : Int) : Bool := thr L.length j && thr L.length x
def frL (L : List Tm) (j x : Int) : List Tm := if fr2 L j x = true then secL L j x else L
def frV (L : List Tm) (j x : Int) : List Int := if fr2 L j x = true then secV L j x else [0, 0, 0, 0, 0, 0]
def frE (L : List Tm) (j x : Int) : Int := if fr2 L j x = true then 0 else 1
theorem zero6 : secA [0, 0, 0, 0, 0, 0] = .agg #[.int .i64 0, .int .i64 0, .int .i64 0, .int .i64 0, .int .i64 0, .int .i64 0] := rfl
end Go.Proofs.YtdnfonhodbhcmaaGreatDoor.Tn
