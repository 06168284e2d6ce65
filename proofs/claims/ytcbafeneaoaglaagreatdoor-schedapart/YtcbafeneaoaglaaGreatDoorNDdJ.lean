/- Two of what is known beside their store, and a row of numbers, as the laws keep them. -/
import Derived.Test.YtcbafeneaoaglaaGreatDoorNDdI
import Derived.Test.YtcbafeneaoaglaaGreatDoorNDdPureB
namespace Go.Proofs.YtcbafeneaoaglaaGreatDoor.Tn
open Go.RowKit Go.Maps

/-- Two of what is known, beside their store. -/
def E2 (w W : World) (ka kb b : Nat) (sv : Value) (mb rb : Nat) (rv : Value) (L R : List Tm) (A B : Nat → Prop) : Prop := ∃ Za Zb, Env w W (resK ka b L A Za :: resS b sv mb L :: resK kb b L B Zb :: [resR rb rv R])
theorem E2.hasA {w W : World} {ka kb b : Nat} {sv : Value} {mb rb : Nat} {rv : Value} {L R : List Tm} {A B : Nat → Prop} (h : E2 w W ka kb b sv mb rb rv L R A B) (x : Int) :
    Calls Tryz.prog 21 #[.pointer (some ⟨ka, 0, none⟩), .int .i64 x] W fun e W' => e = .returned (.bool (hasB L A x)) ∧ E2 w W' ka kb b sv mb rb rv L R A B := by
  obtain ⟨Za, Zb, h⟩ := h
  refine (env_has h x).mono ?_
  rintro e W' ⟨rfl, Z', h'⟩
  exact ⟨rfl, Z', Zb, h'⟩
theorem E2.hasB {w W : World} {ka kb b : Nat} {sv : Value} {mb rb : Nat} {rv : Value} {L R : List Tm} {A B : Nat → Prop} (h : E2 w W ka kb b sv mb rb rv L R A B) (x : Int) :
    Calls Tryz.prog 21 #[.pointer (some ⟨kb, 0, none⟩), .int .i64 x] W fun e W' => e = .returned (.bool (Go.Proofs.YtcbafeneaoaglaaGreatDoor.Tn.hasB L B x)) ∧ E2 w W' ka kb b sv mb rb rv L R A B := by
  obtain ⟨Za, Zb, h⟩ := h
  refine (env_has h.flip3 x).mono ?_
  rintro e W' ⟨rfl, Z', h'⟩
  exact ⟨rfl, Za, Z', h'.flip3⟩
theorem E2.len {w W : World} {ka kb b : Nat} {sv : Value} {mb rb : Nat} {rv : Value} {L R : List Tm} {A B : Nat → Prop} (h : E2 w W ka kb b sv mb rb rv L R A B) :
    Calls Tryz.prog 45 #[.pointer (some ⟨b, 0, none⟩)] W fun e W' => e = .returned (.int .i64 (L.length : Int)) ∧ W' = W := by
  obtain ⟨Za, Zb, h⟩ := h
  exact len_any b sv mb L W h.sd
theorem E2.bel {w W : World} {ka kb b : Nat} {sv : Value} {mb rb : Nat} {rv : Value} {L R : List Tm} {A B : Nat → Prop} (h : E2 w W ka kb b sv mb rb rv L R A B) : Below w.heap.size w W := by
  obtain ⟨Za, Zb, h⟩ := h
  exact h.bel

theorem Env.sub {w wr : World} {rs rs' : List Res} (h : Env w wr rs) (hs : rs'.Sublist rs) : Env w wr rs' :=
  ⟨h.bel, fun q hq => h.hold q (hs.subset hq), fun q hq => h.low q (hs.subset hq), h.dis.sublist hs⟩
/-- A row of numbers. -/
def resN (v : Value) (l : List Nat) : Res := ⟨v.ownBlock.toList, fun w => NRow 0 w v l, fun _ _ _ h hf hd => h.keep (fun k hk => hf.block k (h.lt k hk).2 (hd k (by simpa using hk))), fun _ h x hx => (h.lt x (by simpa using hx)).2⟩
def EN (w W : World) (ka b : Nat) (sv : Value) (mb rb : Nat) (rv : Value) (L R : List Tm) (A : Nat → Prop) (v : Value) (l : List Nat) : Prop := ∃ Za, Env w W (resK ka b L A Za :: resS b sv mb L :: resN v l :: [resR rb rv R])
theorem EN.start {w W : World} {ka b : Nat} {sv : Value} {mb rb : Nat} {rv : Value} {L R : List Tm} {A : Nat → Prop} {Z : List Nat} (h : Env w W (resK ka b L A Z :: resS b sv mb L :: [resR rb rv R])) : EN w W ka b sv mb rb rv L R A (.slice none 0 0) [] := by
  have h1 := h.add (resN (.slice none 0 0) []) (Below.refl _ _) (World.ownsRow_nil _ _ _ _) (by simp [resN, Value.ownBlock])
  exact ⟨Z, h1.rot3.rot3⟩
theorem EN.has {w W : World} {ka b : Nat} {sv : Value} {mb rb : Nat} {rv : Value} {L R : List Tm} {A : Nat → Prop} {v : Value} {l : List Nat} (h : EN w W ka b sv mb rb rv L R A v l) (x : Int) :
    Calls Tryz.prog 21 #[.pointer (some ⟨ka, 0, none⟩), .int .i64 x] W fun e W' => e = .returned (.bool (hasB L A x)) ∧ EN w W' ka b sv mb rb rv L R A v l := by
  obtain ⟨Za, h⟩ := h
  refine (env_has h x).mono ?_
  rintro e W' ⟨rfl, Z', h'⟩
  exact ⟨rfl, Z', h'⟩
theorem EN.len {w W : World} {ka b : Nat} {sv : Value} {mb rb : Nat} {rv : Value} {L R : List Tm} {A : Nat → Prop} {v : Value} {l : List Nat} (h : EN w W ka b sv mb rb rv L R A v l) :
    Calls Tryz.prog 45 #[.pointer (some ⟨b, 0, none⟩)] W fun e W' => e = .returned (.int .i64 (L.length : Int)) ∧ W' = W := by
  obtain ⟨Za, h⟩ := h
  exact len_any b sv mb L W h.sd
theorem EN.row {w W : World} {ka b : Nat} {sv : Value} {mb rb : Nat} {rv : Value} {L R : List Tm} {A : Nat → Prop} {v : Value} {l : List Nat} (h : EN w W ka b sv mb rb rv L R A v l) : NRow 0 W v l := by
  obtain ⟨Za, h⟩ := h
  exact h.hold (resN v l) (by simp)
theorem EN.bel {w W : World} {ka b : Nat} {sv : Value} {mb rb : Nat} {rv : Value} {L R : List Tm} {A : Nat → Prop} {v : Value} {l : List Nat} (h : EN w W ka b sv mb rb rv L R A v l) : Below w.heap.size w W := by
  obtain ⟨Za, h⟩ := h
  exact h.bel
theorem EN.to {w W W' : World} {ka b : Nat} {sv : Value} {mb rb : Nat} {rv : Value} {L R : List Tm} {A : Nat → Prop} {v v' : Value} {l l' : List Nat} (h : EN w W ka b sv mb rb rv L R A v l) (k : Nw W W' v v' l') : EN w W' ka b sv mb rb rv L R A v' l' := by
  obtain ⟨Za, h⟩ := h
  have := h.flip3.step (r' := resN v' l') ⟨k.fr, fun x hx => (k.pl x (by simpa [resN] using hx)).imp (fun c => by simpa [resN] using c) id⟩ k.row
  exact ⟨Za, this.flip3⟩
theorem EN.push {w W W2 : World} {ka b : Nat} {sv : Value} {mb rb : Nat} {rv : Value} {L R : List Tm} {A : Nat → Prop} {v v' : Value} {l : List Nat} {x : Nat} {ob : Obj} (h : EN w W ka b sv mb rb rv L R A v l) (hown : W2.ownsRow 0 3 1 v' (l.length + 1) (l.map (fun m => .int .i64 ((m : Nat) : Int)) ++ [.int .i64 (x : Int)])) (hg : (W.alloc ob).grownBy W2 v.ownBlock) (hat : v'.ownBlock = v.ownBlock ∨ v'.ownBlock = some (W.heap.size + 1)) : EN w W2 ka b sv mb rb rv L R A v' (l ++ [x]) :=
  h.to (Nw.grown (x := [x]) h.row (Below.refl _ _) hown hg hat)
/-- Who knows these numbers besides. -/
theorem EN.new {w W : World} {ka b : Nat} {sv : Value} {mb rb : Nat} {rv : Value} {L R : List Tm} {A : Nat → Prop} {v : Value} {l : List Nat} (h : EN w W ka b sv mb rb rv L R A v l) (hr : ∀ m ∈ l, 1 ≤ m ∧ m ≤ L.length) (hl : l.length ≤ 65536) :
    Calls Tryz.prog 20 #[.pointer (some ⟨b, 0, none⟩), v] W fun e W' => ∃ kb, e = .returned (.tuple #[.pointer (some ⟨kb, 0, none⟩), .int .i64 0]) ∧ E2 w W' ka kb b sv mb rb rv L R A (fun m => m ∈ l) := by
  have hrow := h.row
  obtain ⟨a, cap, rfl⟩ := own_slice hrow
  have hG : L.length ≤ 1048576 := by obtain ⟨Za, h⟩ := h; exact St.len h.sd
  have hn : NIs W (.slice a l.length cap) (l.map fun (m : Nat) => (m : Int)) := hrow.nis (by omega) (fun m hm => by have := hr m hm; omega)
  have hlen : (l.map fun (m : Nat) => (m : Int)).length = l.length := by simp
  obtain ⟨Za, h⟩ := h
  have K := env_new h.swap a cap (l.map fun (m : Nat) => (m : Int)) (by rw [hlen]; exact hn) (by rw [hlen]; exact hl)
  rw [hlen] at K
  have e0 : newE L (l.map fun (m : Nat) => (m : Int)) = 0 := newE_ok (fun x hx => by
    obtain ⟨m, hm, rfl⟩ := List.mem_map.1 hx
    have := hr m hm
    exact thr_iff.2 (by omega))
  refine K.mono ?_
  rintro e W' ⟨p, rfl, hp⟩
  rw [e0]
  rcases hp with ⟨c, _⟩ | ⟨_, kb, Z, rfl, hE⟩
  · rw [e0] at c; cases c
  · refine ⟨kb, rfl, Za, Z, ?_⟩
    have hk : (fun (m : Nat) => (m : Int) ∈ l.map fun (m : Nat) => (m : Int)) = (fun m => m ∈ l) := by
      funext m
      apply propext
      constructor
      · intro c
        obtain ⟨y, hy, e⟩ := List.mem_map.1 c
        have : y = m := by omega
        rw [← this]; exact hy
      · intro c; exact List.mem_map.2 ⟨m, c, rfl⟩
    rw [hk] at hE
    exact (hE.sub (rs' := resK kb b L (fun m => m ∈ l) Z :: resS b sv mb L :: resK ka b L A Za :: [resR rb rv R]) (.cons_cons _ (.cons_cons _ (.cons_cons _ (.cons _ (.refl _)))))).flip3

end Go.Proofs.YtcbafeneaoaglaaGreatDoor.Tn
