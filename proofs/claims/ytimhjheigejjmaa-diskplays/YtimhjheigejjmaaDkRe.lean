/- A disk and the document's disk side by side: an op with both. -/
import Derived.Test.YtimhjheigejjmaaDkRd
import Derived.Test.YtimhjheigejjmaaDkFrame
namespace Go.Proofs.Ytimhjheigejjmaa
open Go.RowKit Go.Maps

/-- A block as it is. -/
def resB (b : Nat) (ob : Obj) : Res := ⟨[b], fun w => w.heap[b]? = some ob, fun w w' S h hf hd => (hf.block b (lt_of_blk h) (hd b (by simp))).trans h, fun w h x hx => by simp at hx; subst hx; exact lt_of_blk h⟩
/-- A disk, the document's beside it, and what else lies apart. -/
def ET (w W : World) (d : Nat) (S : DS) (p : Nat) (T : DS) (rs : List Res) : Prop := ∃ Z', ED w W d S (resQ p T Z' :: rs)
theorem ET.bel {w W : World} {d : Nat} {S : DS} {p : Nat} {T : DS} {rs : List Res} (h : ET w W d S p T rs) : Below w.heap.size w W := by obtain ⟨Z, h⟩ := h; exact h.bel
theorem ET.new {w W W1 : World} {d : Nat} {S : DS} {p : Nat} {T : DS} {rs : List Res} (h : ET w W d S p T rs) (hb : Below W.heap.size W W1) : ET w W1 d S p T rs := by obtain ⟨Z, h⟩ := h; exact ⟨Z, h.new hb⟩
theorem ET.drew {w W : World} {d : Nat} {S : DS} {p : Nat} {T : DS} {rs : List Res} (h : ET w W d S p T rs) : ET w W.drew d S p T rs := h.new (bw_drew _)
theorem ET.ref {w W : World} {d : Nat} {S : DS} {p : Nat} {T T' : DS} {rs : List Res} {f : Nat} {args : Array Value} {r : Ending} (h : ET w W d S p T rs) (K : ∀ Z', RkS W p T Z' → Calls Try.prog f args W fun e W' => e = r ∧ Stp W W' p T' Z') : Calls Try.prog f args W fun e W' => e = r ∧ ET w W' d S p T' rs := by
  obtain ⟨Z', Z, h⟩ := h
  refine (K Z' h.sd).mono ?_
  rintro e W' ⟨rfl, Z2, h2, hm⟩
  exact ⟨rfl, Z2, Z, (h.swap.step (r' := resQ p T' Z2) hm h2).swap⟩
theorem ET.ref0 {w W : World} {d : Nat} {S : DS} {p : Nat} {T : DS} {rs : List Res} (h : ET w W d S p T rs) : ∃ Z', RkS W p T Z' := by
  obtain ⟨Z', Z, h⟩ := h
  exact ⟨Z', h.sd⟩
theorem ET.box {w W : World} {d : Nat} {S : DS} {p : Nat} {T : DS} {rs : List Res} (h : ET w W d S p T rs) (ob : Obj) : ET w (W.alloc ob) d S p T (resB W.heap.size ob :: rs) := by
  obtain ⟨Z', Z, h⟩ := h
  have h1 := h.add (resB W.heap.size ob) (bw_alloc W ob) (heap_alloc_new _ _) (by simp [resB])
  exact ⟨Z', Z, h1.rot3.rot3⟩
theorem ET.unbox {w W : World} {d : Nat} {S : DS} {p : Nat} {T : DS} {rs : List Res} {r : Res} (h : ET w W d S p T (r :: rs)) : ET w W d S p T rs := by
  obtain ⟨Z', Z, h⟩ := h
  exact ⟨Z', Z, h.rot3.drop⟩
theorem ET.blk {w W : World} {d : Nat} {S : DS} {p : Nat} {T : DS} {rs : List Res} {b : Nat} {ob : Obj} (h : ET w W d S p T (resB b ob :: rs)) : W.heap[b]? = some ob := by
  obtain ⟨Z', Z, h⟩ := h
  exact h.hold (resB b ob) (by simp)
theorem ET.opc {w W : World} {d : Nat} {S : DS} {p : Nat} {T : DS} {rs : List Res} {b : Nat} {x0 x1 x2 x3 x4 : Value} {t : TypeId} (h : ET w W d S p T (resB b (.cells #[x0, x1, x2, x3, x4] t (0, 0)) :: rs)) : W.cell? ⟨b, 0, none⟩ = some x0 ∧ W.cell? ⟨b, 1, none⟩ = some x1 ∧ W.cell? ⟨b, 2, none⟩ = some x2 ∧ W.cell? ⟨b, 3, none⟩ = some x3 ∧ W.cell? ⟨b, 4, none⟩ = some x4 := by
  have := h.blk
  refine ⟨?_, ?_, ?_, ?_, ?_⟩ <;> simp [World.cell?, this]
theorem ET.write {w W : World} {d : Nat} {S : DS} {p : Nat} {T : DS} {rs : List Res} (h : ET w W d S p T rs) (x : Int) (s : ByteArray) (hn : S.cnt < 4611686018427387904) (hq : S.since.length < 4611686018427387904) (hsl : s.size ≤ 140737488355328) :
    Calls Try.prog 18 #[.pointer (some ⟨d, 0, none⟩), .int .i64 x, .string s] W fun e W' => e = .returned (.int .i64 (S.write x s).2) ∧ ET w W' d (S.write x s).1 p T rs := by
  obtain ⟨Z', h⟩ := h
  refine (h.write hn hq x s hsl).mono ?_
  rintro e W' ⟨rfl, hE⟩
  exact ⟨rfl, Z', hE⟩
theorem ET.sync {w W : World} {d : Nat} {S : DS} {p : Nat} {T : DS} {rs : List Res} (h : ET w W d S p T rs)  (hn : S.cnt < 4611686018427387904) :
    Calls Try.prog 19 #[.pointer (some ⟨d, 0, none⟩)] W fun e W' => e = .returned (.int .i64 S.sync.2) ∧ ET w W' d S.sync.1 p T rs := by
  obtain ⟨Z', h⟩ := h
  refine (h.sync hn).mono ?_
  rintro e W' ⟨rfl, hE⟩
  exact ⟨rfl, Z', hE⟩
theorem ET.crash {w W : World} {d : Nat} {S : DS} {p : Nat} {T : DS} {rs : List Res} (h : ET w W d S p T rs) (bits : Int)  :
    Calls Try.prog 21 #[.pointer (some ⟨d, 0, none⟩), .int .i64 bits] W fun e W' => e = .returned (.int .i64 (S.crash bits).2) ∧ ET w W' d (S.crash bits).1 p T rs := by
  obtain ⟨Z', h⟩ := h
  refine (h.crash bits).mono ?_
  rintro e W' ⟨rfl, hE⟩
  exact ⟨rfl, Z', hE⟩
theorem ET.begin {w W : World} {d : Nat} {S : DS} {p : Nat} {T : DS} {rs : List Res} (h : ET w W d S p T rs)   :
    Calls Try.prog 22 #[.pointer (some ⟨d, 0, none⟩)] W fun e W' => e = .returned (.int .i64 S.start.2) ∧ ET w W' d S.start.1 p T rs := by
  obtain ⟨Z', h⟩ := h
  refine (h.begin).mono ?_
  rintro e W' ⟨rfl, hE⟩
  exact ⟨rfl, Z', hE⟩
theorem ET.cut {w W : World} {d : Nat} {S : DS} {p : Nat} {T : DS} {rs : List Res} (h : ET w W d S p T rs) (n bits : Int) (hn : n ≤ 9223372036854775807) :
    Calls Try.prog 24 #[.pointer (some ⟨d, 0, none⟩), .int .i64 n, .int .i64 bits] W fun e W' => e = .returned (.int .i64 (S.doCut n bits).2) ∧ ET w W' d (S.doCut n bits).1 p T rs := by
  obtain ⟨Z', h⟩ := h
  refine (h.cut n bits hn).mono ?_
  rintro e W' ⟨rfl, hE⟩
  exact ⟨rfl, Z', hE⟩
theorem ET.read {w W : World} {d : Nat} {S : DS} {p : Nat} {T : DS} {rs : List Res} (h : ET w W d S p T rs) (x : Int) :
    Calls Try.prog 20 #[.pointer (some ⟨d, 0, none⟩), .int .i64 x] W fun e W' => e = .returned (.tuple #[.string (S.read x).1, .int .i64 (S.read x).2]) ∧ ET w W' d S p T rs := by
  obtain ⟨Z', h⟩ := h
  refine (h.read x).mono ?_
  rintro e W' ⟨rfl, hE, _⟩
  exact ⟨rfl, Z', hE⟩
/-- What an op leaves. -/
structure Went (S S' : DS) : Prop where
  N : S'.N = S.N
  cnt : S'.cnt ≤ S.cnt + 1
  len : S'.since.length ≤ S.since.length + 1
theorem Went.refl (S : DS) : Went S S := ⟨rfl, by omega, by omega⟩
theorem went_come {S : DS} (f : DS → DS) (f1 : ∀ T : DS, (f T).N = T.N) (f4 : ∀ T : DS, (f T).cnt = T.cnt) (f5 : ∀ T : DS, (f T).since.length ≤ T.since.length + 1) : Went S (S.come f).1 := by
  unfold DS.come
  split
  · exact ⟨f1 _, by simp only [DS.did, f4]; omega, f5 _⟩
  · exact ⟨rfl, by simp [DS.fall], by simp [DS.fall]⟩
  · exact ⟨by simp only [DS.did, f1], by simp only [DS.did, f4]; omega, by simp only [DS.did]; exact f5 _⟩
theorem went_write (S : DS) (x : Int) (s : ByteArray) : Went S (S.write x s).1 := by
  unfold DS.write
  split
  · exact Went.refl S
  · split
    · exact Went.refl S
    · exact went_come _ (fun _ => rfl) (fun _ => rfl) (fun _ => by simp [DS.put])
theorem went_sync (S : DS) : Went S S.sync.1 := by
  unfold DS.sync
  split
  · exact Went.refl S
  · exact went_come _ (fun _ => rfl) (fun _ => rfl) (fun _ => by simp [DS.settle])
theorem went_crash (S : DS) (b : Int) : Went S (S.crash b).1 := by
  unfold DS.crash
  split
  · exact Went.refl S
  · exact ⟨rfl, by simp [DS.fall], by simp [DS.fall]⟩
theorem went_start (S : DS) : Went S S.start.1 := by
  unfold DS.start
  split
  · exact ⟨rfl, by simp only; omega, by simp only; omega⟩
  · exact Went.refl S
theorem went_cut (S : DS) (n b : Int) : Went S (S.doCut n b).1 := by
  unfold DS.doCut
  split
  · exact Went.refl S
  · split
    · exact Went.refl S
    · exact ⟨rfl, by simp only; omega, by simp only; omega⟩
theorem eq_int (x : Int) : (x == x) = true := by simp
theorem eq_dec (x : Int) : decide (x = x) = true := by simp
set_option maxRecDepth 100000 in
set_option maxHeartbeats 4000000 in
theorem do_0 {w W : World} {d : Nat} {S : DS} {p : Nat} (h : ET w W d S p S []) (hn : S.cnt ≤ 1000000) (hq : S.since.length ≤ 1000000) (x : OpR) (hx : x.ok) (hk : x.kd = 0) :
    Calls Try.prog 13 #[.pointer (some ⟨d, 0, none⟩), .pointer (some ⟨p, 0, none⟩), .agg #[.int .i64 x.kd, .int .i64 x.at_, .int .u8 x.b, .int .i64 x.more, .int .i64 x.bits]] W fun e W' => e = .returned (.bool true) ∧ ∃ S', ET w W' d S' p S' [] ∧ Went S S' := by
  obtain ⟨xk, xa, xb, xm, xi⟩ := x
  obtain ⟨ha1, ha2, hb1, hb2, _, _, hi1, hi2⟩ := hx
  simp only at *
  have E1 := h.box (.cells #[.int .i64 xk, .int .i64 xa, .int .u8 xb, .int .i64 xm, .int .i64 xi] 34)
  obtain ⟨o0, o1, o2, o3, o4⟩ := E1.opc
  have HE1 := hide E1
  have HQ := hide (And.intro hn (And.intro hq (And.intro ha2 (And.intro hb1 hb2))))
  clear E1 h ha1 ha2 hb1 hb2 hi1 hi2 hn hq
  have KF := hide (fun W => filled_any xb xm (unhide HQ).2.2.2.1 (unhide HQ).2.2.2.2 W)
  have hfs : (fil xb (fln xm)).size ≤ 140737488355328 := by rw [fil_size]; have := fln_le xm; omega
  have HFS := hide hfs
  clear hfs
  generalize fil xb (fln xm) = sf at *
  subst hk
  go_enter Try.func13, Try.ntmps13
  go_wp2_with fail
  refine (unhide KF _).mono ?_
  rintro e w2 ⟨rfl, b2⟩
  have HE2 := hide ((unhide HE1).new b2).drew
  obtain ⟨p0, p1, p2, p3, p4⟩ := (unhide HE2).opc
  obtain ⟨q0, q1, q2, q3, q4⟩ := ((unhide HE1).new b2).opc
  have KW := hide ((unhide HE2).write xa sf (by have := unhide HQ; omega) (by have := unhide HQ; omega) (unhide HFS))
  clear b2 HE1 KF o0 o1 o2 o3 o4
  have HGO := hide (went_write S xa sf)
  have HRW := hide (fun (W1 : World) (hE : ET w W1 d (S.write xa sf).1 p S [resB W.heap.size (.cells #[.int .i64 0, .int .i64 xa, .int .u8 xb, .int .i64 xm, .int .i64 xi] 34 (0, 0))]) => hE.ref (fun Z' hR => rwrite_any hR (by have := unhide HQ; omega) (unhide HQ).2.1 xa sf (unhide HFS)))
  generalize S.write xa sf = r at *
  obtain ⟨r1, r2⟩ := r
  simp only at *
  go_wp2_with fail
  go_region_held3 (fun w' : World => w'.cell? ⟨W.heap.size, 1, none⟩ = some (.int .i64 xa)) (first | exact p1 | exact q1 | exact s1 | exact t1) (first
    | (go_at_call 27; with_reducible refine (unhide HRW _ E5).mono ?_; rintro e w6 ⟨rfl, E6⟩; obtain ⟨_, t1, _, _, _⟩ := E6.opc)
    | (go_at_call 18; with_reducible refine (unhide KW).mono ?_; rintro e w5 ⟨rfl, E5⟩; obtain ⟨_, s1, _, _, _⟩ := E5.opc))
  all_goals
    have HE6 := hide E6.unbox
    clear E6 E5 KW HRW s1 t1
    have e1 := eq_int r2
    have e2 := eq_dec r2
    go_wp2_with fail
    go_ret
    exact ⟨rfl, _, unhide HE6, unhide HGO⟩
set_option maxRecDepth 100000 in
set_option maxHeartbeats 4000000 in
theorem do_1 {w W : World} {d : Nat} {S : DS} {p : Nat} (h : ET w W d S p S []) (hn : S.cnt ≤ 1000000) (hq : S.since.length ≤ 1000000) (x : OpR) (hx : x.ok) (hk : x.kd = 1) :
    Calls Try.prog 13 #[.pointer (some ⟨d, 0, none⟩), .pointer (some ⟨p, 0, none⟩), .agg #[.int .i64 x.kd, .int .i64 x.at_, .int .u8 x.b, .int .i64 x.more, .int .i64 x.bits]] W fun e W' => e = .returned (.bool true) ∧ ∃ S', ET w W' d S' p S' [] ∧ Went S S' := by
  obtain ⟨xk, xa, xb, xm, xi⟩ := x
  obtain ⟨ha1, ha2, hb1, hb2, _, _, hi1, hi2⟩ := hx
  simp only at *
  have E1 := h.box (.cells #[.int .i64 xk, .int .i64 xa, .int .u8 xb, .int .i64 xm, .int .i64 xi] 34)
  obtain ⟨o0, o1, o2, o3, o4⟩ := E1.opc
  have HE1 := hide E1
  have HQ := hide (And.intro hn (And.intro hq (And.intro ha2 (And.intro hb1 hb2))))
  clear E1 h ha1 ha2 hb1 hb2 hi1 hi2 hn hq
  subst hk
  go_enter Try.func13, Try.ntmps13
  have KW := (unhide HE1).sync (by have := unhide HQ; omega)
  have HGO := hide (went_sync S)
  have HRW := hide (fun (W1 : World) (hE : ET w W1 d S.sync.1 p S [resB W.heap.size (.cells #[.int .i64 1, .int .i64 xa, .int .u8 xb, .int .i64 xm, .int .i64 xi] 34 (0, 0))]) => hE.ref (fun Z' hR => rsync_any hR (by have := unhide HQ; omega) (unhide HQ).2.1))
  generalize S.sync = r at *
  obtain ⟨r1, r2⟩ := r
  simp only at *
  go_wp2_with fail
  refine KW.mono ?_
  rintro e w5 ⟨rfl, E5⟩
  have KR := unhide HRW _ E5
  clear E5 KW HE1 o0 o1 o2 o3 o4
  go_wp2_with fail
  refine KR.mono ?_
  rintro e w6 ⟨rfl, E6⟩
  have HE6 := hide E6.unbox
  clear E6 KR HRW
  have e1 := eq_int r2
  have e2 := eq_dec r2
  go_wp2_with fail
  go_ret
  exact ⟨rfl, _, unhide HE6, unhide HGO⟩
set_option maxRecDepth 100000 in
set_option maxHeartbeats 4000000 in
theorem do_2 {w W : World} {d : Nat} {S : DS} {p : Nat} (h : ET w W d S p S []) (hn : S.cnt ≤ 1000000) (hq : S.since.length ≤ 1000000) (x : OpR) (hx : x.ok) (hk : x.kd = 2) :
    Calls Try.prog 13 #[.pointer (some ⟨d, 0, none⟩), .pointer (some ⟨p, 0, none⟩), .agg #[.int .i64 x.kd, .int .i64 x.at_, .int .u8 x.b, .int .i64 x.more, .int .i64 x.bits]] W fun e W' => e = .returned (.bool true) ∧ ∃ S', ET w W' d S' p S' [] ∧ Went S S' := by
  obtain ⟨xk, xa, xb, xm, xi⟩ := x
  obtain ⟨ha1, ha2, hb1, hb2, _, _, hi1, hi2⟩ := hx
  simp only at *
  have E1 := h.box (.cells #[.int .i64 xk, .int .i64 xa, .int .u8 xb, .int .i64 xm, .int .i64 xi] 34)
  obtain ⟨o0, o1, o2, o3, o4⟩ := E1.opc
  have HE1 := hide E1
  have HQ := hide (And.intro hn (And.intro hq (And.intro ha2 (And.intro hb1 hb2))))
  clear E1 h ha1 ha2 hb1 hb2 hi1 hi2 hn hq
  subst hk
  go_enter Try.func13, Try.ntmps13
  have KW := (unhide HE1).read xa
  have HRW := hide (fun (W1 : World) (hE : ET w W1 d S p S [resB W.heap.size (.cells #[.int .i64 2, .int .i64 xa, .int .u8 xb, .int .i64 xm, .int .i64 xi] 34 (0, 0))]) => rread_any hE.ref0.choose_spec xa (by have := unhide HQ; omega))
  generalize S.read xa = r at *
  obtain ⟨r1, r2⟩ := r
  simp only at *
  go_wp2_with fail
  refine KW.mono ?_
  rintro e w5 ⟨rfl, E5⟩
  have KR := unhide HRW _ E5
  obtain ⟨s0, s1, s2, s3, s4⟩ := E5.opc
  have HE5 := hide E5.unbox
  clear E5 KW HE1 o0 o1 o2 o3 o4 HRW
  go_wp2_with fail
  refine KR.mono ?_
  rintro e w5 ⟨rfl, rfl⟩
  clear KR
  have e1 := eq_int r2
  have e2 := eq_dec r2
  go_wp2_with fail
  go_ret
  exact ⟨rfl, _, unhide HE5, Went.refl S⟩
set_option maxRecDepth 100000 in
set_option maxHeartbeats 4000000 in
theorem do_3 {w W : World} {d : Nat} {S : DS} {p : Nat} (h : ET w W d S p S []) (hn : S.cnt ≤ 1000000) (hq : S.since.length ≤ 1000000) (x : OpR) (hx : x.ok) (hk : x.kd = 3) :
    Calls Try.prog 13 #[.pointer (some ⟨d, 0, none⟩), .pointer (some ⟨p, 0, none⟩), .agg #[.int .i64 x.kd, .int .i64 x.at_, .int .u8 x.b, .int .i64 x.more, .int .i64 x.bits]] W fun e W' => e = .returned (.bool true) ∧ ∃ S', ET w W' d S' p S' [] ∧ Went S S' := by
  obtain ⟨xk, xa, xb, xm, xi⟩ := x
  obtain ⟨ha1, ha2, hb1, hb2, _, _, hi1, hi2⟩ := hx
  simp only at *
  have E1 := h.box (.cells #[.int .i64 xk, .int .i64 xa, .int .u8 xb, .int .i64 xm, .int .i64 xi] 34)
  obtain ⟨o0, o1, o2, o3, o4⟩ := E1.opc
  have HE1 := hide E1
  have HQ := hide (And.intro hn (And.intro hq (And.intro ha2 (And.intro hb1 hb2))))
  clear E1 h ha1 ha2 hb1 hb2 hi1 hi2 hn hq
  subst hk
  go_enter Try.func13, Try.ntmps13
  have HE2 := hide (unhide HE1).drew
  obtain ⟨p0, p1, p2, p3, p4⟩ := (unhide HE2).opc
  have KW := hide ((unhide HE2).cut xa xi (unhide HQ).2.2.1)
  have HGO := hide (went_cut S xa xi)
  have HRW := hide (fun (W1 : World) (hE : ET w W1 d (S.doCut xa xi).1 p S [resB W.heap.size (.cells #[.int .i64 3, .int .i64 xa, .int .u8 xb, .int .i64 xm, .int .i64 xi] 34 (0, 0))]) => hE.ref (fun Z' hR => rcut_any hR xa xi (unhide HQ).2.2.1))
  generalize S.doCut xa xi = r at *
  obtain ⟨r1, r2⟩ := r
  simp only at *
  clear HE1
  go_wp2_with fail
  go_region_held3 (fun w' : World => w'.cell? ⟨W.heap.size, 1, none⟩ = some (.int .i64 xa) ∧ w'.cell? ⟨W.heap.size, 4, none⟩ = some (.int .i64 xi)) (first | exact ⟨o1, o4⟩ | exact ⟨p1, p4⟩ | exact ⟨s1, s4⟩ | exact ⟨t1, t4⟩) (first
    | (go_at_call 30; with_reducible refine (unhide HRW _ E5).mono ?_; rintro e w6 ⟨rfl, E6⟩; obtain ⟨_, t1, _, _, t4⟩ := E6.opc)
    | (go_at_call 24; with_reducible refine (unhide KW).mono ?_; rintro e w5 ⟨rfl, E5⟩; obtain ⟨_, s1, _, _, s4⟩ := E5.opc))
  all_goals
    have HE6 := hide E6.unbox
    clear E6 E5 KW HRW s1 t1 s4 t4
    have e1 := eq_int r2
    have e2 := eq_dec r2
    go_wp2_with fail
    go_ret
    exact ⟨rfl, _, unhide HE6, unhide HGO⟩
set_option maxRecDepth 100000 in
set_option maxHeartbeats 4000000 in
theorem do_4 {w W : World} {d : Nat} {S : DS} {p : Nat} (h : ET w W d S p S []) (hn : S.cnt ≤ 1000000) (hq : S.since.length ≤ 1000000) (x : OpR) (hx : x.ok) (hk : x.kd = 4) :
    Calls Try.prog 13 #[.pointer (some ⟨d, 0, none⟩), .pointer (some ⟨p, 0, none⟩), .agg #[.int .i64 x.kd, .int .i64 x.at_, .int .u8 x.b, .int .i64 x.more, .int .i64 x.bits]] W fun e W' => e = .returned (.bool true) ∧ ∃ S', ET w W' d S' p S' [] ∧ Went S S' := by
  obtain ⟨xk, xa, xb, xm, xi⟩ := x
  obtain ⟨ha1, ha2, hb1, hb2, _, _, hi1, hi2⟩ := hx
  simp only at *
  have E1 := h.box (.cells #[.int .i64 xk, .int .i64 xa, .int .u8 xb, .int .i64 xm, .int .i64 xi] 34)
  obtain ⟨o0, o1, o2, o3, o4⟩ := E1.opc
  have HE1 := hide E1
  have HQ := hide (And.intro hn (And.intro hq (And.intro ha2 (And.intro hb1 hb2))))
  clear E1 h ha1 ha2 hb1 hb2 hi1 hi2 hn hq
  subst hk
  go_enter Try.func13, Try.ntmps13
  have HE2 := hide (unhide HE1).drew
  obtain ⟨p0, p1, p2, p3, p4⟩ := (unhide HE2).opc
  have KW := hide ((unhide HE2).crash xi)
  have HGO := hide (went_crash S xi)
  have HRW := hide (fun (W1 : World) (hE : ET w W1 d (S.crash xi).1 p S [resB W.heap.size (.cells #[.int .i64 4, .int .i64 xa, .int .u8 xb, .int .i64 xm, .int .i64 xi] 34 (0, 0))]) => hE.ref (fun Z' hR => rcrash_any hR xi (by have := unhide HQ; omega)))
  generalize S.crash xi = r at *
  obtain ⟨r1, r2⟩ := r
  simp only at *
  clear HE1
  go_wp2_with fail
  go_region_held3 (fun w' : World => w'.cell? ⟨W.heap.size, 4, none⟩ = some (.int .i64 xi)) (first | exact o4 | exact p4 | exact s4 | exact t4) (first
    | (go_at_call 31; with_reducible refine (unhide HRW _ E5).mono ?_; rintro e w6 ⟨rfl, E6⟩; obtain ⟨_, _, _, _, t4⟩ := E6.opc)
    | (go_at_call 21; with_reducible refine (unhide KW).mono ?_; rintro e w5 ⟨rfl, E5⟩; obtain ⟨_, _, _, _, s4⟩ := E5.opc))
  all_goals
    have HE6 := hide E6.unbox
    clear E6 E5 KW HRW s4 t4
    have e1 := eq_int r2
    have e2 := eq_dec r2
    go_wp2_with fail
    go_ret
    exact ⟨rfl, _, unhide HE6, unhide HGO⟩
set_option maxRecDepth 100000 in
set_option maxHeartbeats 4000000 in
theorem do_5 {w W : World} {d : Nat} {S : DS} {p : Nat} (h : ET w W d S p S []) (hn : S.cnt ≤ 1000000) (hq : S.since.length ≤ 1000000) (x : OpR) (hx : x.ok) (h0 : x.kd ≠ 0) (h1 : x.kd ≠ 1) (h2 : x.kd ≠ 2) (h3 : x.kd ≠ 3) (h4 : x.kd ≠ 4) :
    Calls Try.prog 13 #[.pointer (some ⟨d, 0, none⟩), .pointer (some ⟨p, 0, none⟩), .agg #[.int .i64 x.kd, .int .i64 x.at_, .int .u8 x.b, .int .i64 x.more, .int .i64 x.bits]] W fun e W' => e = .returned (.bool true) ∧ ∃ S', ET w W' d S' p S' [] ∧ Went S S' := by
  obtain ⟨xk, xa, xb, xm, xi⟩ := x
  obtain ⟨ha1, ha2, hb1, hb2, _, _, hi1, hi2⟩ := hx
  simp only at *
  have E1 := h.box (.cells #[.int .i64 xk, .int .i64 xa, .int .u8 xb, .int .i64 xm, .int .i64 xi] 34)
  obtain ⟨o0, o1, o2, o3, o4⟩ := E1.opc
  have HE1 := hide E1
  have HQ := hide (And.intro hn (And.intro hq (And.intro ha2 (And.intro hb1 hb2))))
  clear E1 h ha1 ha2 hb1 hb2 hi1 hi2 hn hq
  have n0 : (xk == 0) = false := by rw [beq_eq_false_iff_ne]; exact h0
  have m0 : decide (xk = 0) = false := decide_eq_false h0
  have n1 : (xk == 1) = false := by rw [beq_eq_false_iff_ne]; exact h1
  have m1 : decide (xk = 1) = false := decide_eq_false h1
  have n2 : (xk == 2) = false := by rw [beq_eq_false_iff_ne]; exact h2
  have m2 : decide (xk = 2) = false := decide_eq_false h2
  have n3 : (xk == 3) = false := by rw [beq_eq_false_iff_ne]; exact h3
  have m3 : decide (xk = 3) = false := decide_eq_false h3
  have n4 : (xk == 4) = false := by rw [beq_eq_false_iff_ne]; exact h4
  have m4 : decide (xk = 4) = false := decide_eq_false h4
  go_enter Try.func13, Try.ntmps13
  have KW := (unhide HE1).begin
  have HGO := hide (went_start S)
  have HRW := hide (fun (W1 : World) (hE : ET w W1 d S.start.1 p S [resB W.heap.size (.cells #[.int .i64 xk, .int .i64 xa, .int .u8 xb, .int .i64 xm, .int .i64 xi] 34 (0, 0))]) => hE.ref (fun Z' hR => rstart_any hR))
  generalize S.start = r at *
  obtain ⟨r1, r2⟩ := r
  simp only at *
  go_wp2_with fail
  refine KW.mono ?_
  rintro e w5 ⟨rfl, E5⟩
  have KR := unhide HRW _ E5
  clear E5 KW HE1 o0 o1 o2 o3 o4
  go_wp2_with fail
  refine KR.mono ?_
  rintro e w6 ⟨rfl, E6⟩
  have HE6 := hide E6.unbox
  clear E6 KR HRW
  have e1 := eq_int r2
  have e2 := eq_dec r2
  go_wp2_with fail
  go_ret
  exact ⟨rfl, _, unhide HE6, unhide HGO⟩
theorem do_any {w W : World} {d : Nat} {S : DS} {p : Nat} (h : ET w W d S p S []) (hn : S.cnt ≤ 1000000) (hq : S.since.length ≤ 1000000) (x : OpR) (hx : x.ok) :
    Calls Try.prog 13 #[.pointer (some ⟨d, 0, none⟩), .pointer (some ⟨p, 0, none⟩), .agg #[.int .i64 x.kd, .int .i64 x.at_, .int .u8 x.b, .int .i64 x.more, .int .i64 x.bits]] W fun e W' => e = .returned (.bool true) ∧ ∃ S', ET w W' d S' p S' [] ∧ Went S S' := by
  by_cases h0 : x.kd = 0
  · exact do_0 h hn hq x hx h0
  by_cases h1 : x.kd = 1
  · exact do_1 h hn hq x hx h1
  by_cases h2 : x.kd = 2
  · exact do_2 h hn hq x hx h2
  by_cases h3 : x.kd = 3
  · exact do_3 h hn hq x hx h3
  by_cases h4 : x.kd = 4
  · exact do_4 h hn hq x hx h4
  exact do_5 h hn hq x hx h0 h1 h2 h3 h4

end Go.Proofs.Ytimhjheigejjmaa
