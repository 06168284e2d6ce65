/- Texts joined: QuTk QuTp QuTm QuSd QuSe. -/
import Derived.Test.YtndgdpefoidfbaaQuAk
import Derived.Test.YtndgdpefoidfbaaQuRf
import Derived.Test.YtndgdpefoidfbaaZ23
import Derived.Test.YtndgdpefoidfbaaZ27
import Derived.Deep.RegionHeld3
/- Links, read anew behind what one of them was turned to. No walk is in this text. -/
namespace Go.Proofs.Ytndgdpefoidfbaa
open Go.RowKit Go.Maps
end Go.Proofs.Ytndgdpefoidfbaa

/- What Take answers, plainly; feeds with nothing in them. No walk is in this text. mkQuTa.py writes it. -/
namespace Go.Proofs.Ytndgdpefoidfbaa
open Go.RowKit Go.Maps
def ml00 : Ml := ⟨0, cm00, 0, 0, 0, 0, 0, 0, 0, [], 0, 0, 0, 0, 0, 0⟩
def mx00 : Mx := ⟨cv00, [], .slice none 0 0, []⟩
def fdK (k t : Int) : Fd := ⟨k, t, 0, cm00, ml00, 0, 0, 0, 0, 0⟩
def fx00 : Fx := ⟨cv00, [], mx00⟩
theorem fdK_r (w : World) (k t : Int) : FdR w (fdK k t) fx00 :=
  ⟨cm00_r w, cm00_r w, ⟨by show ([] : List Nd).length ≤ _; simp, (by intro n hn; cases hn), Or.inl ⟨rfl, none, 0, rfl⟩⟩⟩
theorem cm00_s : SmC cm00 := by
  constructor <;> first | (simp [cm00]) | (intro x hx; simp [cm00] at hx)
theorem fdK_s (k t : Int) : SmF (fdK k t) := by
  refine ⟨cm00_s, ⟨cm00_s, by simp [fdK, ml00], (by intro n hn; cases hn), ?_⟩, ?_⟩
  · intro z hz; simp [fdK, ml00] at hz; omega
  · intro z hz; simp [fdK] at hz; omega
theorem infoPkS : (Try.prog.info? 44).map (·.size) = some 57 := by kernel_rfl
end Go.Proofs.Ytndgdpefoidfbaa

/- What the links, read anew, are behind an acknowledgement or something that came. No walk is in this text. mkQuTa.py writes it. -/
namespace Go.Proofs.Ytndgdpefoidfbaa
open Go.RowKit Go.Maps
theorem rdl_nil {α ξ : Type} (K : EK α ξ) (w : World) : RdL K w (.slice none 0 0) [] [] := ⟨rfl, by simp, none, 0, rfl, Or.inl rfl⟩
end Go.Proofs.Ytndgdpefoidfbaa

/- What is sent, plainly. No walk is in this text. mkQuSe.py writes it. -/
namespace Go.Proofs.Ytndgdpefoidfbaa
open Go.RowKit Go.Maps
theorem rdl_at {α ξ : Type} {K : EK α ξ} {w : World} {ad : Option Addr} {n c : Nat} {l : List α} {xs : List ξ} (h : RdL K w (.slice ad n c) l xs) {i : Nat} (hi : i < l.length) : ∃ a x g o, ad = some ⟨g, o, none⟩ ∧ l[i]? = some a ∧ xs[i]? = some x ∧ K.R w a x ∧ w.rangeAt g (o + i * K.c) (K.C a x) := by
  have h1 : l[i]? = some l[i] := List.getElem?_eq_getElem hi
  have h2 : xs[i]? = some (xs[i]'(by rw [h.xl]; exact hi)) := List.getElem?_eq_getElem _
  obtain ⟨ad', c', e, hc⟩ := h.form
  simp only [Value.slice.injEq] at e
  obtain ⟨rfl, _, rfl⟩ := e
  rcases hc with q | ⟨g, o, rfl, hc⟩
  · rw [q] at hi; simp at hi
  · refine ⟨l[i], _, g, o, rfl, h1, h2, h.el i _ _ h1 h2, fun j u hj => ?_⟩
    have := hc _ _ (cellK_get h1 h2 hj)
    rw [show o + i * K.c + j = o + (i * K.c + j) from Nat.add_assoc _ _ _]
    exact this
end Go.Proofs.Ytndgdpefoidfbaa

/- What one sends its peers (Sends). mkQuSe.py writes it. -/
namespace Go.Proofs.Ytndgdpefoidfbaa
open Go.RowKit Go.Maps
end Go.Proofs.Ytndgdpefoidfbaa
