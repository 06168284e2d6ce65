/- Texts joined: JnJ JnK JnL. -/
import Derived.Shelf.Lays
import Derived.Shelf.Strings.BuilderK
import Derived.Test.YtfnpeiikjiffeaaGreatJnI
/- strings.Builder, laid off the library's shelf. -/
namespace Go.Proofs.YtfnpeiikjiffeaaGreat
open Go.Shelf Go.RowKit Go.Maps
def renB : Go.Shelf.Ren := ⟨fun | 166 => 87 | 169 => 88 | 240 => 109 | 276 => 120 | n => n, fun | 9 => 9 | 3 => 3 | 4 => 4 | 37 => 59 | 0 => 0 | 127 => 162 | 5 => 5 | 70 => 142 | 72 => 144 | 164 => 169 | 75 => 149 | 80 => 57 | 20 => 20 | 71 => 107 | n => n, fun | n => n⟩
set_option maxRecDepth 100000 in
theorem laysBs : Go.Proofs.Lays.n169 Tryz.prog renB := {
  mixed := by kernel_rfl
  f169 := Tryz.func88.trans (congrArg some (by kernel_rfl))
  t0 := Tryz.underlying0
  a0 := Tryz.isAgg0
  z0 := Tryz.sizeOf0
  v0 := Tryz.zeroValue0
  t3 := Tryz.underlying3
  a3 := Tryz.isAgg3
  z3 := Tryz.sizeOf3
  v3 := Tryz.zeroValue3
  t9 := Tryz.underlying9
  a9 := Tryz.isAgg9
  z9 := Tryz.sizeOf9
  v9 := Tryz.zeroValue9
  t37 := Tryz.underlying59
  a37 := Tryz.isAgg59
  z37 := Tryz.sizeOf59
  v37 := Tryz.zeroValue59
  t70 := Tryz.underlying142
  a70 := Tryz.isAgg142
  z70 := Tryz.sizeOf142
  v70 := Tryz.zeroValue142
  t72 := Tryz.underlying144
  a72 := Tryz.isAgg144
  z72 := Tryz.sizeOf144
  v72 := Tryz.zeroValue144
  t127 := Tryz.underlying162
  a127 := Tryz.isAgg162
  z127 := Tryz.sizeOf162
  v127 := Tryz.zeroValue162 }
set_option maxRecDepth 100000 in
theorem laysBw : Go.Proofs.Lays.n166 Tryz.prog renB := {
  mixed := by kernel_rfl
  f166 := Tryz.func87.trans (congrArg some (by kernel_rfl))
  f240 := Tryz.func109.trans (congrArg some (by kernel_rfl))
  f276 := Tryz.func120.trans (congrArg some (by kernel_rfl))
  t0 := Tryz.underlying0
  a0 := Tryz.isAgg0
  z0 := Tryz.sizeOf0
  v0 := Tryz.zeroValue0
  t3 := Tryz.underlying3
  a3 := Tryz.isAgg3
  z3 := Tryz.sizeOf3
  v3 := Tryz.zeroValue3
  t4 := Tryz.underlying4
  a4 := Tryz.isAgg4
  z4 := Tryz.sizeOf4
  v4 := Tryz.zeroValue4
  t9 := Tryz.underlying9
  a9 := Tryz.isAgg9
  z9 := Tryz.sizeOf9
  v9 := Tryz.zeroValue9
  t20 := Tryz.underlying20
  a20 := Tryz.isAgg20
  z20 := Tryz.sizeOf20
  v20 := Tryz.zeroValue20
  t37 := Tryz.underlying59
  a37 := Tryz.isAgg59
  z37 := Tryz.sizeOf59
  v37 := Tryz.zeroValue59
  t70 := Tryz.underlying142
  a70 := Tryz.isAgg142
  z70 := Tryz.sizeOf142
  v70 := Tryz.zeroValue142
  t72 := Tryz.underlying144
  a72 := Tryz.isAgg144
  z72 := Tryz.sizeOf144
  v72 := Tryz.zeroValue144
  t75 := Tryz.underlying149
  a75 := Tryz.isAgg149
  z75 := Tryz.sizeOf149
  v75 := Tryz.zeroValue149
  t164 := Tryz.underlying169
  a164 := Tryz.isAgg169
  z164 := Tryz.sizeOf169
  v164 := Tryz.zeroValue169 }
set_option maxRecDepth 100000 in
theorem extraB : Go.Proofs.Builder.Extra Tryz.prog renB := {
  sizeBuilder := by kernel_rfl
  liesBuilder := by kernel_rfl
  t5 := Tryz.underlying5
  a5 := Tryz.isAgg5
  z5 := Tryz.sizeOf5
  v5 := Tryz.zeroValue5
  infoByte := by kernel_rfl
  cellsByte := by kernel_rfl
  sizeByte := by kernel_rfl
  neB5 := by decide }
end Go.Proofs.YtfnpeiikjiffeaaGreat

/- Contracts of package journal: load. -/
namespace Go.Proofs.YtfnpeiikjiffeaaGreat
open Go.RowKit Go.Maps
attribute [local go_sem] Oper.semAt_some

theorem bString_any (B b : Nat) (l : List UInt8) (w : World) (h : Lib.IsBuilderF 144 5 B b (Lib.byteCells l) w) (hBw : B ≤ w.heap.size) :
    Calls Tryz.prog 88 #[.pointer (some ⟨b, 0, none⟩)] w fun e w' => e = .returned (.string ⟨l.toArray⟩) ∧ (Lib.IsBuilderF 144 5 B b (Lib.byteCells l) w' ∧ Below B w w' ∧ Lib.OthersKept 5 (some b) w w') := Any.Builder_String_any_k laysBs extraB B b l w h hBw
theorem bWrite_any (B b : Nat) (l : List UInt8) (s : ByteArray) (w : World) (h : Lib.IsBuilderF 144 5 B b (Lib.byteCells l) w) (hlen : l.length + s.size ≤ 140737488355328) (hBw : B ≤ w.heap.size) :
    Calls Tryz.prog 87 #[.pointer (some ⟨b, 0, none⟩), .string s] w fun e w' => e = .returned (.tuple #[.int .i64 s.size, .nilIface]) ∧ (Lib.IsBuilderF 144 5 B b (Lib.byteCells (l ++ s.data.toList)) w' ∧ Below B w w' ∧ Lib.OthersKept 5 (some b) w w') := by
  refine (Any.Builder_WriteString_k laysBw extraB B b (Lib.byteCells l) s w h (by rw [Lib.byteCells_length]; exact hlen) hBw).mono ?_
  rintro e w' ⟨he, h1, h2⟩
  refine ⟨he, Or.inr ?_, h2⟩
  have : Lib.byteCells (l ++ s.data.toList) = Lib.byteCells l ++ Lib.strCells s := by simp [Lib.byteCells, Lib.strCells]
  rw [this]; exact h1
theorem isB_blocks {T e : TypeId} {B b : Nat} {bs : List Value} {X Y : World} (h : Lib.IsBuilderF T e B b bs X) (hb : ∀ (k : Nat) o, X.heap[k]? = some o → isLp o = false → Y.heap[k]? = some o) : Lib.IsBuilderF T e B b bs Y := by
  have key : ∀ p, Lib.BuilderAtF T e B b p bs X → Lib.BuilderAtF T e B b p bs Y := by
    rintro p ⟨hB, v, hbk, hown, hne⟩
    refine ⟨hB, v, hb _ _ hbk rfl, ⟨hown.1, ?_⟩, hne⟩
    rcases hown.2 with h1 | ⟨g, cap, cur, fz, hv, hg, hk, r⟩
    · exact Or.inl h1
    · exact Or.inr ⟨g, cap, cur, fz, hv, hg, hb _ _ hk rfl, r⟩
  exact h.imp (key _) (key _)
/-- The bytes of the first i sectors from A on. -/
def cat (S : DS) (A : Nat) : Nat → List UInt8
  | 0 => []
  | i + 1 => cat S A i ++ (S.now (A + i)).data.toList
theorem cat_len {S : DS} (ok : S.ok) (A i : Nat) : (cat S A i).length = 64 * i := by
  induction i with
  | zero => rfl
  | succ i ih =>
    have : (S.now (A + i)).data.toList.length = 64 := Array.length_toList.trans (ok.now (A + i))
    simp only [cat, List.length_append, ih, this]; omega
/-- The text of a head. -/
def txt (S : DS) (n len : Nat) : ByteArray := (ByteArray.mk (cat S (at0 S.N n) (rnds len)).toArray).extract 0 len
/-- Where load is left. -/
theorem load_leave {W X : World} {D : Nat} {v : Value} (hb : Below W.heap.size W X) (hK : X.heap[D]? = some (.deferred (some []))) (hD : W.heap.size ≤ D) {tmps : Array Value} (ht : tmps[4]?.getD undef = v) :
    LeavesInM Fence.wide 2 Tryz.prog Tryz.f65 tmps (fun e W' => e = .returned v ∧ Below W.heap.size W W') [{ target := .collected D, args := #[] }] .returning X := by
  refine ⟨by simp, .inl ⟨_, _, rfl, run_takeDeferred hK, ?_⟩⟩
  have hP : Below W.heap.size W (X.putObj D (.deferred none)) := ⟨hb.os, hb.tape, hb.output, by simpa using hb.size, fun k hk => (World.putObj_heap_other (by omega)).trans (hb.block k hk)⟩
  generalize X.putObj D (.deferred none) = Y at *
  refine ⟨v, ?_, rfl, hP⟩
  simp [results, Tryz.results65, go_sem, ht]
set_option maxRecDepth 100000 in
set_option maxHeartbeats 4000000 in
theorem load_any {w W : World} {d : Nat} {S : DS} {rs : List Res} (h : ED w W d S rs) (hu : S.up = true) (h4 : 4 ≤ S.N) (n len : Nat) (hn : n ≤ 9223372036854775806) (hlen : len ≤ (S.N - 2) / 2 * 64) :
    Calls Tryz.prog 65 #[.pointer (some ⟨d, 0, none⟩), .agg #[.int .i64 (n : Int), .int .i64 (len : Int)]] W fun e W' => e = .returned (.string (txt S n len)) ∧ Below W.heap.size W W' := by
  have hN := h.ok.n2
  have hlz : len ≤ 1000000 := by omega
  obtain ⟨W5, hW5⟩ : ∃ X, X = ((((W.alloc (.cells #[.pointer (some ⟨d, 0, none⟩)] 33)).alloc (.cells #[.int .i64 (n : Int), .int .i64 (len : Int)] 111)).alloc (.cells #[.pointer none, .slice none 0 0] 144)).alloc (.cells #[.pointer (some ⟨d, 0, none⟩)] 33)).alloc (.cells #[.int .i64 (n : Int), .int .i64 (len : Int)] 111) := ⟨_, rfl⟩
  have hsx := six_new W (.cells #[.pointer (some ⟨d, 0, none⟩)] 33) (.cells #[.int .i64 (n : Int), .int .i64 (len : Int)] 111) (.cells #[.pointer none, .slice none 0 0] 144) (.cells #[.pointer (some ⟨d, 0, none⟩)] 33) (.cells #[.int .i64 (n : Int), .int .i64 (len : Int)] 111) (.cells #[] 0)
  simp only at hsx
  rw [← hW5] at hsx
  have sz5 : W5.heap.size = W.heap.size + 5 := by rw [hW5]; simp
  obtain ⟨q0, q1, q2, q3, q4, -, qb⟩ := hsx
  rw [Below.heap_alloc _ _ _ (by omega)] at q0 q1 q2 q3 q4
  have b5 : Below W.heap.size W W5 := ⟨by rw [hW5]; rfl, by rw [hW5]; rfl, by rw [hW5]; rfl, by omega, fun k hk => (Below.heap_alloc _ _ _ (by omega)).symm.trans (qb.block k hk)⟩
  clear qb
  have HSQ := hide (seq_any (h.new b5) (by omega) (W.heap.size + 1 + 1 + 1 + 1) (W.heap.size + 1 + 1 + 1) n len (by omega) hlz q4 q3)
  have HW5 := hide hW5
  have HQ := hide (And.intro q0 (And.intro q1 b5))
  have HBI : Hid (Lib.IsBuilderF 144 5 (W.heap.size + 1 + 1) (W.heap.size + 1 + 1) (Lib.byteCells []) W5) := Lib.IsBuilderF.of (Or.inl ⟨Nat.le_refl _, .slice none 0 0, q2, World.ownsRow_nil _ _ _ _, by simp [Value.ownBlock]⟩)
  clear q0 q1 q2 q3 q4 b5
  refine (callsIn_wide (n := 2)).1 (callsIn_of_wp_marks Tryz.func65 rfl trivial ?_ rfl)
  simp only [Tryz.ntmps65, List.size_toArray, List.length_cons, List.length_nil, Nat.reduceAdd, Nat.reduceSub, Array.replicate_succ, Array.replicate_zero, List.push_toArray, List.append_toArray, List.nil_append, List.cons_append]
  refine wpIn_wide.2 ?_
  go_wp2_with fail
  refine (sectors_any d n len _).mono ?_
  rintro e w1 ⟨rfl, rfl⟩
  go_wp2_with fail
  rw [← unhide HW5]
  clear hW5
  obtain ⟨A0, hA0⟩ : ∃ A, A = at0 S.N n := ⟨_, rfl⟩
  have hok := h.ok
  have HPB : Hid (∀ (A Y : World) (b : Nat) (o o' : Obj), W5.heap.size ≤ b → A.heap[b]? = some o → isLp o = true → Y = A.putObj b o' → Below (W.heap.size + 1 + 1) A Y ∧ ∀ (k : Nat) o, A.heap[k]? = some o → isLp o = false → Y.heap[k]? = some o) := by
    rintro A Y b o o' hb hA ho rfl
    refine ⟨⟨rfl, rfl, rfl, by simp, fun k hk => World.putObj_heap_other (by omega)⟩, fun k o2 hk hi => ?_⟩
    by_cases c : k = b
    · subst c; rw [hA] at hk; cases hk; rw [ho] at hi; cases hi
    · exact (World.putObj_heap_other c).trans hk
  refine range_own (unhide HSQ) rfl (enters_of Tryz.func106 (by kernel_rfl) rfl) (fun _ => rfl)
    (fun i X => Below (W.heap.size + 1 + 1) W5 X ∧ Lib.IsBuilderF 144 5 (W.heap.size + 1 + 1) (W.heap.size + 1 + 1) (Lib.byteCells (cat S A0 i)) X)
    (fun _ _ => False)
    (fun i A B hi hb => ⟨hi.1.trans (bw_mono hb (by have := hi.1.size; omega)), isB_blocks hi.2 (fun k o hk _ => (hb.block k (lt_of_blk hk)).trans hk)⟩)
    (fun i A b o o' hb hi hA ho => ⟨hi.1.trans (unhide HPB A _ b o o' hb hA ho rfl).1, isB_blocks hi.2 (unhide HPB A _ b o o' hb hA ho rfl).2⟩)
    (fun i A b o o' hb hi hA ho => hi)
    (fun A b o o' hb hi hA ho => (World.putObj_heap_other (by omega)).trans hi)
    ⟨Below.refl _ _, unhide HBI⟩
    (fun i => { tmps := #[.pointer (some ⟨d, 0, none⟩), .agg #[.int .i64 (n : Int), .int .i64 (len : Int)], .pointer (some ⟨W.heap.size, 0, none⟩), .pointer (some ⟨W.heap.size + 1, 0, none⟩), .string { data := #[] }, .pointer (some ⟨W.heap.size + 1 + 1, 0, none⟩), .int .i64 ((at0 S.N n + i : Nat) : Int), undef, undef, .pointer (some ⟨d, 0, none⟩), .agg #[.int .i64 (n : Int), .int .i64 (len : Int)], .func (.func 106) #[] #[.pointer (some ⟨W.heap.size + 1 + 1 + 1 + 1, 0, none⟩), .pointer (some ⟨W.heap.size + 1 + 1 + 1, 0, none⟩)], .int .i64 ((at0 S.N n + i : Nat) : Int), .int .i64 ((64 * i : Nat) : Int), undef, undef, undef, undef, undef, undef, undef, undef, undef, undef, undef, undef], defers := [] })
    ?assign ?body ?done ?stop
  case assign =>
    intro l i X K hK
    unfold encN
    gi_wp2
    exact hK
  case stop => rintro D i X hD hi hf hK; exact hf.elim
  case body =>
    rintro D l i X r hD rfl hi ⟨hX, hB⟩ hK hl hDd
    rw [hA0] at *
    have hri : i < 16000 := by unfold rnds at hi; omega
    have hat : at0 S.N n + i < S.N := by
      have h1 : (n + 1) % 2 ≤ 1 := by omega
      have h2 := Nat.mul_le_mul h1 (Nat.le_refl ((S.N - 2) / 2))
      unfold rnds at hi; unfold at0; omega
    have hrd : S.read ((at0 S.N n + i : Nat) : Int) = (S.now (at0 S.N n + i), 0) := by unfold DS.read; rw [if_neg (by simp [hu]), if_neg (by omega)]; rfl
    have bX : Below W.heap.size W X := (unhide HQ).2.2.trans (bw_mono hX (by omega))
    have ED0 := h.new bX
    have KR := hide (ED0.read ((at0 S.N n + i : Nat) : Int))
    rw [hrd] at KR
    have c0 : X.cell? ⟨W.heap.size, 0, none⟩ = some (.pointer (some ⟨d, 0, none⟩)) := by
      have q : X.heap[W.heap.size]? = _ := (hX.block _ (by omega)).trans (unhide HQ).1
      simp [World.cell?, q]
    have hXs := hX.size
    have KW := hide (fun Y (hY : Below X.heap.size X Y) => bWrite_any (W.heap.size + 1 + 1) (W.heap.size + 1 + 1) (cat S (at0 S.N n) i) (S.now (at0 S.N n + i)) Y (isB_blocks hB (fun k o hk _ => (hY.block k (lt_of_blk hk)).trans hk)) (by rw [cat_len hok, hok.now]; omega) (by have := hY.size; omega))
    have HP : Hid (∀ Y Z : World, Below X.heap.size X Y → Below (W.heap.size + 1 + 1) Y Z → Lib.OthersKept 5 (some (W.heap.size + 1 + 1)) Y Z → Lib.IsBuilderF 144 5 (W.heap.size + 1 + 1) (W.heap.size + 1 + 1) (Lib.byteCells (cat S (at0 S.N n) i ++ (S.now (at0 S.N n + i)).data.toList)) Z →
        ∀ (a : Act), postN (fun i X => Below (W.heap.size + 1 + 1) W5 X ∧ Lib.IsBuilderF 144 5 (W.heap.size + 1 + 1) (W.heap.size + 1 + 1) (Lib.byteCells (cat S (at0 S.N n) i)) X) (fun _ _ => False) (boxH (W.heap.size + 1 + 1 + 1 + 1) n len) D (D + 1) i X .normal a Z) := by
      intro Y Z hY hZ hO hI a
      have blk : ∀ (k : Nat) o, X.heap[k]? = some o → k ≠ W.heap.size + 1 + 1 → (∀ c fz, o ≠ .cells c 5 fz) → Z.heap[k]? = some o := fun k o hk hn hc => hO k o ((hY.block k (lt_of_blk hk)).trans hk) (by simpa using hn) hc
      refine ⟨(blk _ _ hl (by omega) (by intros; simp)).trans hl.symm, (blk _ _ hDd (by omega) (by intros; simp)).trans hDd.symm, blk _ _ hK (by omega) (by intros; simp), hX.trans ((bw_mono hY (by omega)).trans hZ), hI⟩
    clear hX hB hK hl hDd ED0 bX hrd hXs
    generalize ((at0 S.N n + i : Nat) : Int) = av at *
    generalize S.now (at0 S.N n + i) = sv at *
    clear hat hri hi hok
    gi_wp2
    refine ⟨trivial, rfl, ?_⟩
    refine (CallsIn.inRound _ (callsIn_wide.2 (unhide KR))).mono ?_
    rintro e y1 ⟨rfl, -, b1⟩
    gi_wp2
    refine ⟨trivial, rfl, ?_⟩
    refine (CallsIn.inRound _ (callsIn_wide.2 (unhide KW y1 b1))).mono ?_
    rintro e y2 ⟨rfl, i2, b2, o2⟩
    have HF := hide (unhide HP y1 y2 b1 b2 o2 i2)
    clear HP KW KR i2 b2 o2 b1
    gi_wp2
    exact unhide HF _
  case done =>
    rintro D X hD ⟨hX, hB⟩ hK
    have hXs := hX.size
    have KS := hide (fun Y (hY : Below X.heap.size X Y) => bString_any (W.heap.size + 1 + 1) (W.heap.size + 1 + 1) (cat S A0 (rnds len)) Y (isB_blocks hB (fun k o hk _ => (hY.block k (lt_of_blk hk)).trans hk)) (by have := hY.size; omega))
    have HC : Hid (∀ Y, Below (W.heap.size + 1 + 1) X Y → Y.cell? ⟨W.heap.size + 1, 0, none⟩ = some (.int .i64 (n : Int)) ∧ Y.cell? ⟨W.heap.size + 1, 1, none⟩ = some (.int .i64 (len : Int))) := fun Y hY => by
      have q : Y.heap[W.heap.size + 1]? = _ := ((hY.block _ (by omega)).trans (hX.block _ (by omega))).trans (unhide HQ).2.1
      exact ⟨by simp [World.cell?, q], by simp [World.cell?, q]⟩
    have HL : Hid (∀ Y Z : World, Below X.heap.size X Y → Below (W.heap.size + 1 + 1) Y Z → Lib.OthersKept 5 (some (W.heap.size + 1 + 1)) Y Z → ∀ (v : Value) (tmps : Array Value), tmps[4]?.getD undef = v → LeavesInM Fence.wide 2 Tryz.prog Tryz.f65 tmps (fun e W' => e = .returned v ∧ Below W.heap.size W W') [{ target := .collected D, args := #[] }] .returning Z) := by
      intro Y Z hY hZ hO v tmps ht
      have bX : Below W.heap.size W X := (unhide HQ).2.2.trans (bw_mono hX (by omega))
      exact load_leave ((bX.trans (bw_mono hY (by omega))).trans (bw_mono hZ (by omega))) (hO _ _ ((hY.block D (lt_of_blk hK)).trans hK) (by simp; omega) (by intros; simp)) (by omega) ht
    have hcl : (len : Int) ≤ ((cat S A0 (rnds len)).length : Int) := by rw [cat_len hok]; unfold rnds; omega
    have HT : Hid (∀ v : ByteArray, v = (ByteArray.mk (cat S A0 (rnds len)).toArray).extract 0 len → v = txt S n len) := by intro v hv; rw [hv, hA0]; rfl
    have hsz : (ByteArray.mk (cat S A0 (rnds len)).toArray).size = (cat S A0 (rnds len)).length := by simp [ByteArray.size]
    have hcb : (cat S A0 (rnds len)).length ≤ 2000000 := by rw [cat_len hok]; unfold rnds; omega
    obtain ⟨c0, c1⟩ := unhide HC X (Below.refl _ _)
    obtain ⟨d0, d1⟩ := unhide HC X.drew (bw_mono (bw_drew X) (by omega))
    clear hX hB hK
    generalize hcs : ByteArray.mk (cat S A0 (rnds len)).toArray = cs at *
    rw [← hsz] at hcl hcb
    clear hsz hcs hA0
    go_wp2_with fail
    go_region_held3 (fun w' : World => w'.cell? ⟨W.heap.size + 1, 0, none⟩ = some (.int .i64 (n : Int)) ∧ w'.cell? ⟨W.heap.size + 1, 1, none⟩ = some (.int .i64 (len : Int))) (first | exact ⟨c0, c1⟩ | exact ⟨d0, d1⟩ | exact ⟨e0, e1⟩) (first
      | (go_at_call 88; with_reducible refine (unhide KS _ (bw_drew X)).mono ?_; rintro e z1 ⟨rfl, -, b2, o2⟩; obtain ⟨e0, e1⟩ := unhide HC z1 ((bw_mono (bw_drew X) (by omega)).trans b2)))
    all_goals
      have HF := hide (unhide HL X.drew z1 (bw_drew X) b2 o2 (.string (txt S n len)))
      clear KS HL HC b2 o2 c0 c1 d0 d1 e0 e1 HPB HSQ HQ HBI HW5
      go_wp2_with fail
      refine unhide HF _ ?_
      exact congrArg Value.string (unhide HT _ rfl)
end Go.Proofs.YtfnpeiikjiffeaaGreat

/- Contracts of package journal: the methods that change nothing, Cost. -/
namespace Go.Proofs.YtfnpeiikjiffeaaGreat
open Go.RowKit Go.Maps

/-- A Journal in memory. -/
def jc (d n : Nat) (t : ByteArray) (lost : Bool) : Obj := .cells #[.pointer (some ⟨d, 0, none⟩), .int .i64 (n : Int), .string t, .bool lost] 116 (0, 0)
def jr (jb d n : Nat) (t : ByteArray) (lost : Bool) : Res := resBs [(jb, jc d n t lost)]
theorem jr_solid (jb d n : Nat) (t : ByteArray) (lost : Bool) : Solid (jr jb d n t lost) := solid_Bs (by intro p hp; simp at hp; subst hp; rfl)
theorem jr_blk {w W : World} {d : Nat} {S : DS} {rs : List Res} {jb n : Nat} {t : ByteArray} {lost : Bool} (h : ED w W d S (jr jb d n t lost :: rs)) : W.heap[jb]? = some (jc d n t lost) := ED.bs h (jb, jc d n t lost) (by simp)
theorem jr_cells {W : World} {jb d n : Nat} {t : ByteArray} {lost : Bool} (h : W.heap[jb]? = some (jc d n t lost)) : W.cell? ⟨jb, 0, none⟩ = some (.pointer (some ⟨d, 0, none⟩)) ∧ W.cell? ⟨jb, 1, none⟩ = some (.int .i64 (n : Int)) ∧ W.cell? ⟨jb, 2, none⟩ = some (.string t) ∧ W.cell? ⟨jb, 3, none⟩ = some (.bool lost) ∧ ∀ k, W.frozen? ⟨jb, k, none⟩ = false := by
  refine ⟨?_, ?_, ?_, ?_, fun k => ?_⟩ <;> simp [World.cell?, World.frozen?, h, jc]
theorem jmiss_nil (W : World) : Calls Tryz.prog 73 #[.pointer none] W fun e W' => e = .returned (.bool true) ∧ W' = W := by
  go_enter Tryz.func73, Tryz.ntmps73
  go_wp2
  go_ret
  exact ⟨rfl, rfl⟩
theorem jmiss_zero (W : World) (jb : Nat) (c0 : W.cell? ⟨jb, 0, none⟩ = some (.pointer none)) : Calls Tryz.prog 73 #[.pointer (some ⟨jb, 0, none⟩)] W fun e W' => e = .returned (.bool true) ∧ W' = W := by
  go_enter Tryz.func73, Tryz.ntmps73
  go_wp2
  go_ret
  exact ⟨rfl, rfl⟩
theorem jmiss_at (W : World) (jb d : Nat) (c0 : W.cell? ⟨jb, 0, none⟩ = some (.pointer (some ⟨d, 0, none⟩))) : Calls Tryz.prog 73 #[.pointer (some ⟨jb, 0, none⟩)] W fun e W' => e = .returned (.bool false) ∧ W' = W := by
  go_enter Tryz.func73, Tryz.ntmps73
  go_wp2
  go_ret
  exact ⟨rfl, rfl⟩
theorem jready_any {w W : World} {d : Nat} {S : DS} {rs : List Res} {jb n : Nat} {t : ByteArray} {lost : Bool} (h : ED w W d S (jr jb d n t lost :: rs)) :
    Calls Tryz.prog 89 #[.pointer (some ⟨jb, 0, none⟩)] W fun e W' => e = .returned (.int .i64 (if lost = true ∨ S.up = false then 6 else 0)) ∧ W' = W := by
  obtain ⟨c0, c1, c2, c3, -⟩ := jr_cells (jr_blk h)
  have KU := hide h.up
  have KM := hide (jmiss_at W jb d c0)
  generalize S.up = up at *
  clear h
  cases lost <;> cases up
  all_goals
    go_enter Tryz.func89, Tryz.ntmps89
    go_wp2_with (go_at_call 73; refine (unhide KM).mono ?_; rintro e w1 ⟨rfl, rfl⟩)
    first
      | (go_ret; exact ⟨by simp, rfl⟩)
      | (go_wp2_with (go_at_call 18; refine (unhide KU).mono ?_; rintro e w1 ⟨rfl, rfl⟩)
         go_ret
         exact ⟨by simp, rfl⟩)
theorem get_any {w W : World} {d : Nat} {S : DS} {rs : List Res} {jb n : Nat} {t : ByteArray} {lost : Bool} (h : ED w W d S (jr jb d n t lost :: rs)) :
    Calls Tryz.prog 66 #[.pointer (some ⟨jb, 0, none⟩)] W fun e W' => e = .returned (.tuple #[.string (if lost = true ∨ S.up = false then ByteArray.empty else t), .int .i64 (if lost = true ∨ S.up = false then 6 else 0)]) ∧ W' = W := by
  obtain ⟨c0, c1, c2, c3, -⟩ := jr_cells (jr_blk h)
  have KR := hide (jready_any h)
  clear h
  by_cases c : lost = true ∨ S.up = false
  · rw [if_pos c] at KR ⊢
    rw [if_pos c]
    clear c
    go_enter Tryz.func66, Tryz.ntmps66
    go_wp2_with (go_at_call 89; refine (unhide KR).mono ?_; rintro e w1 ⟨rfl, rfl⟩)
    go_ret2
    exact ⟨rfl, rfl⟩
  · rw [if_neg c] at KR ⊢
    rw [if_neg c]
    clear c
    go_enter Tryz.func66, Tryz.ntmps66
    go_wp2_with (go_at_call 89; refine (unhide KR).mono ?_; rintro e w1 ⟨rfl, rfl⟩)
    go_ret2
    exact ⟨rfl, rfl⟩
theorem jseq_any {w W : World} {d : Nat} {S : DS} {rs : List Res} {jb n : Nat} {t : ByteArray} {lost : Bool} (h : ED w W d S (jr jb d n t lost :: rs)) :
    Calls Tryz.prog 49 #[.pointer (some ⟨jb, 0, none⟩)] W fun e W' => e = .returned (.int .i64 (n : Int)) ∧ W' = W := by
  obtain ⟨c0, c1, c2, c3, -⟩ := jr_cells (jr_blk h)
  have KM := hide (jmiss_at W jb d c0)
  clear h
  go_enter Tryz.func49, Tryz.ntmps49
  go_wp2_with (go_at_call 73; refine (unhide KM).mono ?_; rintro e w1 ⟨rfl, rfl⟩)
  go_ret
  exact ⟨rfl, rfl⟩
theorem jRoom_any {w W : World} {d : Nat} {S : DS} {rs : List Res} {jb n : Nat} {t : ByteArray} {lost : Bool} (h : ED w W d S (jr jb d n t lost :: rs)) (h2 : 2 ≤ S.N) :
    Calls Tryz.prog 69 #[.pointer (some ⟨jb, 0, none⟩)] W fun e W' => e = .returned (.int .i64 (((S.N - 2) / 2 * 64 : Nat) : Int)) ∧ W' = W := by
  obtain ⟨c0, c1, c2, c3, -⟩ := jr_cells (jr_blk h)
  have KM := hide (jmiss_at W jb d c0)
  have KR := hide (room_any h h2)
  generalize (S.N - 2) / 2 * 64 = rm at *
  clear h
  go_enter Tryz.func69, Tryz.ntmps69
  go_wp2_with (first | (go_at_call 73; refine (unhide KM).mono ?_; rintro e w1 ⟨rfl, rfl⟩) | (go_at_call 92; refine (unhide KR).mono ?_; rintro e w1 ⟨rfl, rfl⟩))
  go_ret
  exact ⟨rfl, rfl⟩
end Go.Proofs.YtfnpeiikjiffeaaGreat
