/- Both stores beside one another, and the contract of Build. -/
import Derived.Test.YtokdflbajnecpaaNTmRMake
namespace Go.Proofs.Ytokdflbajnecpaa.Tn
open Go.RowKit Go.Maps

/-- The program's store and the document's, in memory of the law's own, apart. -/
structure Two (w wr : World) (b : Nat) (sv : Value) (mb rb : Nat) (rv : Value) (L R : List Tm) : Prop where
  st : St wr b sv mb L
  rs : Rs wr rb rv R
  low : ∀ x ∈ foot b sv mb, w.heap.size ≤ x
  rlow : ∀ x ∈ rfoot rb rv, w.heap.size ≤ x
  dis : ∀ x ∈ foot b sv mb, x ∉ rfoot rb rv
  bel : Below w.heap.size w wr
theorem Two.stepS {w wr w1 : World} {b : Nat} {sv sv1 : Value} {mb rb : Nat} {rv : Value} {L L1 R : List Tm} (h : Two w wr b sv mb rb rv L R) (s : SStep wr w1 b sv sv1 mb L1) : Two w w1 b sv1 mb rb rv L1 R :=
  ⟨s.st, h.rs.keep s.fr (fun x hx c => h.dis x c hx), s.base h.bel.size h.low, h.rlow, fun x hx c => by
    rcases mem_foot.1 hx with e | e | e
    · exact h.dis x (mem_foot.2 (Or.inl e)) c
    · exact h.dis x (mem_foot.2 (Or.inr (Or.inl e))) c
    · rcases s.place x e with q | q
      · exact h.dis x (mem_foot.2 (Or.inr (Or.inr q))) c
      · have := h.rs.lt x c; omega, Fr.toBase h.bel s.fr h.low⟩
theorem Two.stepR {w wr w1 : World} {b : Nat} {sv : Value} {mb rb : Nat} {rv rv1 : Value} {L R R1 : List Tm} (h : Two w wr b sv mb rb rv L R) (s : RStep wr w1 rb rv rv1 R1) : Two w w1 b sv mb rb rv1 L R1 :=
  ⟨h.st.keep s.fr (fun x hx => h.dis x hx), s.st, h.low, s.base h.bel.size h.rlow, fun x hx c => by
    rcases mem_rfoot.1 c with e | e
    · exact h.dis x hx (mem_rfoot.2 (Or.inl e))
    · rcases s.place x e with q | q
      · exact h.dis x hx (mem_rfoot.2 (Or.inr q))
      · have := h.st.lt x hx; omega, Fr.toBase h.bel s.fr h.rlow⟩
theorem Two.new {w wr w1 : World} {b : Nat} {sv : Value} {mb rb : Nat} {rv : Value} {L R : List Tm} (h : Two w wr b sv mb rb rv L R) (hb : Below wr.heap.size wr w1) : Two w w1 b sv mb rb rv L R :=
  ⟨h.st.bw hb, h.rs.bw hb, h.low, h.rlow, h.dis, bw_tr h.bel hb⟩

/-- A store that is filled. -/
def fillL (L : List Tm) (l : List Tm) : List Tm := l.foldl mkL L
theorem fillL_len (l L : List Tm) : (fillL L l).length ≤ L.length + l.length := by
  induction l generalizing L with
  | nil => simp [fillL]
  | cons t l ih => have := ih (mkL L t); have := mkL_len L t; simp only [fillL, List.foldl_cons, List.length_cons] at *; omega
theorem fillL_take (l : List Tm) (L : List Tm) (i : Nat) (t : Tm) (h : l[i]? = some t) : fillL L (l.take (i + 1)) = mkL (fillL L (l.take i)) t := by
  rw [List.take_add_one, h]; simp [fillL]

set_option maxRecDepth 100000 in
set_option maxHeartbeats 8000000 in
theorem build_any (w : World) (a : Option Addr) (cap : Nat) (l : List Tm) (h : Tms w (.slice a l.length cap) l) (hok : ∀ t ∈ l, t.ok) (hlen : l.length ≤ 2000) :
    Calls Try.prog 6 #[.slice a l.length cap] w fun e w' => ∃ b sv mb rb rv, e = .returned (.tuple #[.pointer (some ⟨b, 0, none⟩), .pointer (some ⟨rb, 0, none⟩), .bool true]) ∧ Two w w' b sv mb rb rv (fillL [] l) (fillL [] l) := by
  obtain ⟨hl, hget⟩ := h.get
  obtain ⟨N, hN⟩ : ∃ N, N = l.length := ⟨_, rfl⟩
  rw [← hN]
  have HL := hide (And.intro hN (And.intro hget hok))
  have hlb : (N : Int) ≤ 2000 := by omega
  clear hget hok h hl hN hlen
  go_enter Try.func6, Try.ntmps6
  go_wp2_with fail
  refine (new_any w).mono ?_
  rintro e w1 ⟨b, mb, rfl, h1, hft, hb1⟩
  go_wp2_with fail
  refine (rnew_any w1).mono ?_
  rintro e w2 ⟨rb, rfl, h2, hrt, hb2⟩
  have HS : Hid (Two w w2 b (.slice none 0 0) mb rb (.slice none 0 0) [] []) := by
    have s1 := hb1.size
    exact ⟨h1.bw hb2, h2, hft, fun x hx => Nat.le_trans s1 (hrt x hx), fun x hx c => by have := h1.lt x hx; have := hrt x c; omega, bw_tr hb1 hb2⟩
  clear h1 hft hb1 h2 hrt hb2
  go_wp2_with fail
  go_loopw [7] (fun iv wr => ∃ (i : Nat) (sv rv : Value), i ≤ N ∧ iv = .int .i64 (i : Int) ∧ Hid (Two w wr b sv mb rb rv (fillL [] (l.take i)) (fillL [] (l.take i)))) (fun iv _ => (N - intOf iv).toNat)
  case atStart => exact ⟨0, _, _, by omega, rfl, HS⟩
  case round =>
    clear HS
    obtain ⟨i, sv, rv, hi, rfl, HS⟩ := hrel
    by_cases hlt : i < N
    · obtain ⟨hN, hget, hok⟩ := unhide HL
      obtain ⟨t, ht⟩ : ∃ t, l[i]? = some t := ⟨_, List.getElem?_eq_getElem (by omega)⟩
      obtain ⟨g, o, rfl, hT⟩ := hget i t ht
      have hto := hok t (List.mem_of_getElem? ht)
      have hS := unhide HS
      have K1 := make_any b sv mb _ t wr hS.st hto
      have K2 : ∀ w2 sv2, SStep wr w2 b sv sv2 mb (mkL (fillL [] (l.take i)) t) → _ := fun w2 sv2 s2 => rmake_any rb rv _ t w2 (hS.stepS s2).rs hto
      have hfl := fillL_take l [] i t ht
      have HF := hide hfl
      have HK2 := hide K2
      have HT := hide hT
      have hi1 : (i : Int) < (N : Int) := by omega
      obtain ⟨t0, t1, t2, t3⟩ := hT wr hS.bel
      clear hget hok ht hto hS hT hN hfl K2
      go_wp2_with fail
      refine K1.mono ?_
      rintro e w3 ⟨rfl, sv2, s2⟩
      have K3 := unhide HK2 w3 sv2 s2
      have S2 := (unhide HS).stepS s2
      obtain ⟨u0, u1, u2, u3⟩ := unhide HT w3 S2.bel
      have HS2 := hide S2
      clear s2 S2 K1 t0 t1 t2 t3 HK2 HS
      go_wp2_with fail
      refine K3.mono ?_
      rintro e w4 ⟨rfl, rv2, s3⟩
      have S3 := (unhide HS2).stepR s3
      rw [← unhide HF] at S3
      have HS3 := hide S3
      clear s3 S3 K3 u0 u1 u2 u3 HS2
      go_wp2_with fail
      go_roundw
      case rel => exact ⟨i + 1, sv2, rv2, by omega, by go_num, HS3⟩
      case measure => simp only [intOf]; omega
    · obtain rfl : i = N := by omega
      have e : l.take i = l := List.take_of_length_le (by have := (unhide HL).1; omega)
      have hS := unhide HS
      rw [e] at hS
      have HS2 := hide hS
      clear e hS hlt HL HS
      go_wp2_with fail
      refine bodyPost_ret (v := .tuple #[.pointer (some ⟨b, 0, none⟩), .pointer (some ⟨rb, 0, none⟩), .bool true]) (by simp [results, Try.results6, go_sem]) rfl ⟨b, sv, mb, rb, rv, rfl, unhide HS2⟩

end Go.Proofs.Ytokdflbajnecpaa.Tn
