/- What the document has as known, beside its store and other things, as the laws keep it. -/
import Derived.Test.YtfpimmbjjcpobaaDqD
import Derived.Test.YtfpimmbjjcpobaaDdI
import Derived.Test.YtfpimmbjjcpobaaDdPureB
namespace Go.Proofs.Ytfpimmbjjcpobaa
open Go.RowKit Go.Maps

def resQ (qb rb : Nat) (L : List Tm) (K : Nat → Prop) (Z : List Nat) : Res := ⟨Z, fun w => QS w qb rb L K Z, fun _ _ _ h hf hd => h.keep hf hd, fun _ h => h.lt⟩
theorem go_R {w w' : World} {b : Nat} {sv sv' : Value} {L' : List Tm} (h : RStep w w' b sv sv' L') : Mv w w' (rfoot b sv) (rfoot b sv') :=
  ⟨h.fr, fun x hx => by
    rcases mem_rfoot.1 hx with c | c
    · exact Or.inl (mem_rfoot.2 (Or.inl c))
    · rcases h.place x c with c | c
      · exact Or.inl (mem_rfoot.2 (Or.inr c))
      · exact Or.inr c⟩
theorem env_rhas {w W : World} {qb rb : Nat} {rv : Value} {L : List Tm} {K : Nat → Prop} {Z : List Nat} {rs : List Res} (h : Env w W (resQ qb rb L K Z :: resR rb rv L :: rs)) (x : Int) :
    Calls Try.prog 20 #[.pointer (some ⟨qb, 0, none⟩), .int .i64 x] W fun e W' => e = .returned (.bool (hasB L K x)) ∧ ∃ Z', Env w W' (resQ qb rb L K Z' :: resR rb rv L :: rs) := by
  refine (qHas_any qb rb rv L K Z x W h.hd h.sd h.apart).mono ?_
  rintro e W' ⟨rfl, Z', k, m⟩
  exact ⟨rfl, Z', h.step (r' := resQ qb rb L K Z') m k⟩
theorem env_rnew {w W : World} {rb : Nat} {rv : Value} {L : List Tm} {rs : List Res} (h : Env w W (resR rb rv L :: rs)) (a : Option Addr) (cap : Nat) (l : List Int) (hv : NIs W (.slice a l.length cap) l) (hl : l.length ≤ 65536) :
    Calls Try.prog 11 #[.pointer (some ⟨rb, 0, none⟩), .slice a l.length cap] W fun e W' => ∃ p, e = .returned (.tuple #[.pointer p, .int .i64 (newE L l)]) ∧ ((newE L l = 1 ∧ p = none ∧ Env w W' (resR rb rv L :: rs)) ∨ (newE L l = 0 ∧ ∃ qb Z, p = some ⟨qb, 0, none⟩ ∧ Env w W' (resQ qb rb L (fun m => (m : Int) ∈ l) Z :: resR rb rv L :: rs))) := by
  refine (qNew_any rb rv L a cap l W h.hd hv hl).mono ?_
  rintro e W' ⟨p, rfl, hb, hp⟩
  refine ⟨p, rfl, ?_⟩
  rcases hp with ⟨e1, rfl⟩ | ⟨e1, qb, Z, rfl, hk, hz⟩
  · exact Or.inl ⟨e1, rfl, h.new hb⟩
  · exact Or.inr ⟨e1, qb, Z, rfl, h.add (resQ qb rb L _ Z) hb hk hz⟩
theorem env_rmake {w W : World} {rb : Nat} {rv : Value} {L : List Tm} {rs : List Res} (h : Env w W (resR rb rv L :: rs)) (t : Tm) (ht : t.ok) :
    Calls Try.prog 18 #[.pointer (some ⟨rb, 0, none⟩), .agg #[.int .u8 t.kd, .int .i64 t.n, .int .i64 t.a, .int .i64 t.b]] W fun e W' => e = .returned (.tuple #[.int .i64 (mkN L t : Nat), .int .i64 (mkE L t)]) ∧ ∃ rv', Env w W' (resR rb rv' (mkL L t) :: rs) := by
  refine (rmake_any rb rv L t W h.hd ht).mono ?_
  rintro e W' ⟨rfl, rv', s⟩
  exact ⟨rfl, rv', h.step (r' := resR rb rv' (mkL L t)) (go_R s) s.st⟩
theorem env_follows {w W : World} {b : Nat} {sv : Value} {mb : Nat} {L : List Tm} {rs : List Res} (h : Env w W (resS b sv mb L :: rs)) (a : Option Addr) (cap : Nat) (l : List Int) (x : Int) (hv : NIs W (.slice a l.length cap) l) (hl : l.length ≤ 65536) :
    Calls Try.prog 13 #[.pointer (some ⟨b, 0, none⟩), .slice a l.length cap, .int .i64 x] W fun e W' => ∃ r q, e = .returned (.tuple #[.bool r, .int .i64 q]) ∧ Env w W' (resS b sv mb L :: rs) ∧ ((newE L l = 1 ∧ r = false ∧ q = 1) ∨ (newE L l = 0 ∧ thr L.length x = false ∧ r = false ∧ q = 1) ∨ (newE L l = 0 ∧ thr L.length x = true ∧ r = hasB L (fun m => (m : Int) ∈ l) x ∧ q = 0)) := by
  refine (kFollows_any b sv mb L a cap l x W h.hd hv hl).mono ?_
  rintro e W' ⟨r, q, rfl, hb, hp⟩
  exact ⟨r, q, rfl, h.new hb, hp⟩
theorem Env.perm {w wr : World} {rs rs' : List Res} (h : Env w wr rs) (hp : rs'.Perm rs) : Env w wr rs' := by
  refine ⟨h.bel, fun q hq => h.hold q (hp.mem_iff.1 hq), fun q hq => h.low q (hp.mem_iff.1 hq), ?_⟩
  refine (hp.pairwise_iff ?_).2 h.dis
  intro a b hab x hx c
  exact hab x c hx

end Go.Proofs.Ytfpimmbjjcpobaa
