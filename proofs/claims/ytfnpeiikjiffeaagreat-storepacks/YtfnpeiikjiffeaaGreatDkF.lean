/- Contract of fall of package disk: back to what was synced. -/
import Derived.Test.YtfnpeiikjiffeaaGreatBaD
import Derived.Maps.Ext
import Derived.Test.YtfnpeiikjiffeaaGreatDkD0
namespace Go.Proofs.YtfnpeiikjiffeaaGreat
open Go.RowKit Go.Maps

/-- What stands in the sectors when those whose turn is over are back. -/
def mix (h : Nat → Bool) (left : Lit → Bool) (f g : Nat → ByteArray) : Nat → ByteArray := fun k => if h k && !left (.int .i64 (k : Int)) then f k else g k
theorem mix_start {D : DataW Unit} {N : Nat} {h : Nat → Bool} {f : Nat → ByteArray} (B : BD D N h f) (g : Nat → ByteArray) (k : Nat) (hk : k < N) : mix h (Maps.has D) f g k = g k := by
  simp only [mix, B.has k hk]; cases h k <;> rfl
theorem mix_end (h : Nat → Bool) {left : Lit → Bool} (hl : ∀ kl, left kl = false) (f g : Nat → ByteArray) (k : Nat) : mix h left f g k = if h k then f k else g k := by
  simp [mix, hl]
theorem mix_step {h : Nat → Bool} {left : Lit → Bool} {f g : Nat → ByteArray} {m : Nat} (hm : h m = true) (k : Nat) : upd (mix h left f g) m (f m) k = mix h (fun z => left z && !z.sameKey (.int .i64 (m : Int))) f g k := by
  unfold upd mix
  by_cases c : k = m
  · subst c
    have : (Lit.int .i64 (k : Int)).sameKey (.int .i64 (k : Int)) = true := by simp [Lit.sameKey]
    simp [hm, this]
  · have : (Lit.int .i64 (k : Int)).sameKey (.int .i64 (m : Int)) = false := sameKey_ne (lit_ne c)
    simp [c, this]
theorem str_inj {a b : ByteArray} (h : a.data.toList = b.data.toList) : a = b := by
  cases a; cases b; congr 1; exact Array.ext' h
/-- What the rounds keep: all is as at first but for the map 'now' and new blocks. -/
structure Rd (w wr : World) (sb r nb N : Nat) (D : DataW Unit) (h : Nat → Bool) (f g : Nat → ByteArray) (left : Lit → Bool) (cnt : Nat) : Prop where
  rg : wr.ranges Tryz.prog 3 R5 sb r N D left cnt
  nm : NMap wr nb N (mix h left f g)
  fr : Fr [nb] w wr
  lo : w.heap.size ≤ r
  sub : ∀ kl, left kl = true → Maps.has D kl = true
theorem Rd.next {w wr w' : World} {sb r nb N : Nat} {D : DataW Unit} {h : Nat → Bool} {f g : Nat → ByteArray} {left left' : Lit → Bool} {cnt cnt' : Nat} (R : Rd w wr sb r nb N D h f g left cnt) (hne : r ≠ nb) (hg : wr.grownBy w' (some r)) (hr : w'.ranges Tryz.prog 3 R5 sb r N D left' cnt') :
    w'.ranges Tryz.prog 3 R5 sb r N D left' cnt' ∧ NMap w' nb N (mix h left f g) ∧ Fr [nb] w w' :=
  ⟨hr, R.nm.keep (hg.block nb R.nm.lt (by simpa using Ne.symm hne)), R.fr.trans (Fr.ofGrown hg) (fun _ _ c => c) (fun x hx c => by simp at c; have := R.lo; omega)⟩
theorem ranges_fr {w w' : World} {sb r N : Nat} {D : DataW Unit} {left : Lit → Bool} {cnt : Nat} (h : w.ranges Tryz.prog 3 R5 sb r N D left cnt) {T : List Nat} (hf : Fr T w w') (h1 : sb ∉ T) (h2 : r ∉ T) : w'.ranges Tryz.prog 3 R5 sb r N D left cnt := by
  have hb1 := hf.block sb h.owns.lt h1
  have hb2 := hf.block r h.lt h2
  unfold World.ranges at *
  rw [hb1, hb2]
  exact h
theorem range_blk {X : World} {b : Nat} {s : ByteArray} (h : X.heap[b]? = some (.cells (blkC s).toArray 123 (0, 0))) : X.rangeAt b 0 (blkC s) := fun j v hv => by
  rw [cell_of_row X b _ _ _ _ h, Nat.zero_add]
  simpa using hv
theorem inv_key (key : Value) (kl : Lit) (h : keyOf Tryz.prog 3 key = some kl) : ∃ x, key = Value.int .i64 x := by
  obtain ⟨x, rfl, _⟩ := Maps.keyOf_int_inv Tryz.underlying3 h; exact ⟨x, rfl⟩
theorem inv_blk (v : Value) (y : DataW Unit × List MemPlace) (h : R5 v = some y) : ∃ c, v = blkV c := by
  obtain ⟨s, _, rfl, _⟩ := R5_inv h; exact ⟨s, rfl⟩
/-- An entry has come: which one it is. -/
theorem Rd.entry {w wr : World} {sb r nb N : Nat} {D : DataW Unit} {h : Nat → Bool} {f g : Nat → ByteArray} {left : Lit → Bool} {cnt : Nat} (R : Rd w wr sb r nb N D h f g left cnt) (B : BD D N h f) {x : Int} {c : ByteArray} {kl : Lit} {y : DataW Unit × List MemPlace}
    (hkey : keyOf Tryz.prog 3 (.int .i64 x) = some kl) (hlk : left kl = true) (hv : R5 (blkV c) = some y) (hat : ∀ zd, D.atKey kl zd = y.1) : ∃ m : Nat, x = (m : Int) ∧ m < N ∧ kl = .int .i64 (m : Int) ∧ h m = true ∧ c = f m ∧ c.size = 64 := by
  obtain ⟨x', e1, rfl, _⟩ := Maps.keyOf_int_inv Tryz.underlying3 hkey
  simp only [Value.int.injEq, true_and] at e1
  subst e1
  have hh := R.sub _ hlk
  obtain ⟨m, hm, e2⟩ := B.key _ hh
  have e3 : x = (m : Int) := by simpa using e2
  subst e3
  have hm2 : h m = true := by rw [← B.has m hm]; exact hh
  obtain ⟨c', hc', ec, ey⟩ := R5_inv hv
  have ec2 : c = c' := by
    unfold blkV at ec
    simp only [Value.agg.injEq, Array.mk.injEq] at ec
    exact blkC_inj ec
  subst ec2
  have := hat (.lit (.int .i64 0))
  rw [B.at_ m hm hm2, ey] at this
  simp only [DataW.lit.injEq, Lit.string.injEq] at this
  exact ⟨m, rfl, hm, rfl, hm2, (str_inj this).symm, hc'⟩
theorem Rd.done {w wr w2 w3 : World} {sb r nb N : Nat} {D : DataW Unit} {h : Nat → Bool} {f g : Nat → ByteArray} {left : Lit → Bool} {cnt cnt1 m : Nat} (R : Rd w wr sb r nb N D h f g left cnt) (hne : r ≠ nb) (hsn : nb ≠ sb) (hm : h m = true)
    (hr : w2.ranges Tryz.prog 3 R5 sb r N D (fun z => left z && !z.sameKey (.int .i64 (m : Int))) cnt1) (hf2 : Fr [nb] w w2) (hg : w2.grownBy w3 (some nb)) (hn : NMap w3 nb N (upd (mix h left f g) m (f m))) :
    Rd w w3 sb r nb N D h f g (fun z => left z && !z.sameKey (.int .i64 (m : Int))) cnt1 :=
  ⟨ranges_fr hr (Fr.ofGrown hg) (by simpa using Ne.symm hsn) (by simpa using hne), hn.congr (fun k _ => mix_step hm k), hf2.tr (Fr.ofGrown hg), R.lo, fun kl hkl => R.sub kl (by simp at hkl; exact hkl.1)⟩

def lit65 : Array Value := #[.int .i64 0, .int .u8 0, .int .u8 0, .int .u8 0, .int .u8 0, .int .u8 0, .int .u8 0, .int .u8 0, .int .u8 0, .int .u8 0, .int .u8 0, .int .u8 0, .int .u8 0, .int .u8 0, .int .u8 0, .int .u8 0, .int .u8 0, .int .u8 0, .int .u8 0, .int .u8 0, .int .u8 0, .int .u8 0, .int .u8 0, .int .u8 0, .int .u8 0, .int .u8 0, .int .u8 0, .int .u8 0, .int .u8 0, .int .u8 0, .int .u8 0, .int .u8 0, .int .u8 0, .int .u8 0, .int .u8 0, .int .u8 0, .int .u8 0, .int .u8 0, .int .u8 0, .int .u8 0, .int .u8 0, .int .u8 0, .int .u8 0, .int .u8 0, .int .u8 0, .int .u8 0, .int .u8 0, .int .u8 0, .int .u8 0, .int .u8 0, .int .u8 0, .int .u8 0, .int .u8 0, .int .u8 0, .int .u8 0, .int .u8 0, .int .u8 0, .int .u8 0, .int .u8 0, .int .u8 0, .int .u8 0, .int .u8 0, .int .u8 0, .int .u8 0, .int .u8 0]
set_option maxRecDepth 100000 in
theorem zeroWrite : ∃ Zw : Array Value, Zw.size = 65 ∧ ∀ w, (zeroValue 125).run Tryz.prog w = .ok (.agg Zw) w := by
  have h : (Tryz.prog.info? 125).map (fun i => (i.zero, i.size)) = some (some (.agg lit65), 65) := by kernel_rfl
  exact ⟨lit65, rfl, (zero_of_info h).1⟩
theorem take_one {l : List (Nat × ByteArray)} {i : Nat} {p : Nat × ByteArray} (h : l[i]? = some p) : l.take (i + 1) = l.take i ++ [p] := by rw [List.take_add_one, h]; rfl
theorem fall_end {w wr w5 : World} {d nb sb cb : Nat} {fv cv : Value} {S : DS} {bits : Int} {i : Nat} (h : Dk w d nb sb cb fv cv S) (hi : i = (S.since.take 31).length) (hn : NMap wr nb S.N (fl bits 0 S.base ((S.since.take 31).take i))) (hf : Fr [nb] w wr)
    (hr : Raw w5 d (S.N : Int) S.up (S.cnt : Int) 0 (.map (some nb)) (.map (some wr.heap.size)) (.slice none 0 0) cv) (hf5 : Fr [d] wr w5) (hm : w5.heap[wr.heap.size]? = some (.map #[] 0)) :
    ∃ Z', DkS (w5.setCell ⟨d, 1, none⟩ (.bool false)) d (S.fall bits) Z' ∧ Mv w (w5.setCell ⟨d, 1, none⟩ (.bool false)) (dfoot d nb sb cb fv S) Z' := by
  have a1 := h.apart.1
  have hdl := lt_of_blk h.blk
  have hwr := hf.size
  have sc : ∀ x, x ≠ d → (w5.setCell ⟨d, 1, none⟩ (.bool false)).heap[x]? = w5.heap[x]? := fun x hx => Below.heap_setCell _ _ _ _ hx
  have hn' : NMap (w5.setCell ⟨d, 1, none⟩ (.bool false)) nb S.N (S.fall bits).base := by
    have e : (S.since.take 31).take i = S.since.take 31 := List.take_of_length_le (by omega)
    rw [e] at hn
    exact hn.keep ((sc nb (Ne.symm a1)).trans (hf5.block nb hn.lt (by simpa using Ne.symm a1)))
  refine ⟨_, ⟨nb, wr.heap.size, cb, .slice none 0 0, cv, rfl, Dk.settled (S := S) (S' := S.fall bits) ?_ hn' ((sc _ (by omega)).trans hm) rfl rfl rfl (ComeAt.down h.come.1 rfl) (h.ok.fall bits) (Nat.ne_of_lt hn.lt)⟩, ?_, ?_⟩
  · unfold Raw at *
    rw [dset hr 1 (.bool false)]; rfl
  · refine Fr.setCell ((hf.trans hf5 (T := dfoot d nb sb cb fv S) (fun x _ c => ?_) (fun x _ c => ?_))) (Or.inr (mem_dfoot.2 (Or.inl rfl))) _
    · simp at c; exact mem_dfoot.2 (Or.inr (Or.inl c))
    · simp at c; exact mem_dfoot.2 (Or.inl c)
  · intro x hx
    rcases mem_dfoot.1 hx with rfl | rfl | rfl | hx | ⟨_, q, _⟩
    · exact Or.inl (mem_dfoot.2 (Or.inl rfl))
    · exact Or.inl (mem_dfoot.2 (Or.inr (Or.inl rfl)))
    · exact Or.inr hwr
    · simp [Value.ownBlock] at hx
    · simp [DS.fall] at q
set_option maxRecDepth 100000 in
set_option maxHeartbeats 8000000 in
theorem fall_core {d nb sb cb : Nat} {fv cv : Value} {S : DS} {w : World} (h : Dk w d nb sb cb fv cv S) (bits : Int) :
    Calls Tryz.prog 48 #[ptr d, .int .i64 bits] w fun e w' => e = .returned (.tuple #[]) ∧ ∃ Z', DkS w' d (S.fall bits) Z' ∧ Mv w w' (dfoot d nb sb cb fv S) Z' := by
  obtain ⟨D, hown, B⟩ := h.syn
  obtain ⟨a1, a2, a3, a4, a5⟩ := h.apart
  have hN := h.ok.n2
  have c5 := dcell h.blk 5 rfl
  have hr0 : w.heap.size ≠ nb := by have := h.now.lt; omega
  have hD4 : ∀ W : World, Fr [nb] w W → W.heap[d]? = w.heap[d]? := fun W hW => hW.block d (lt_of_blk h.blk) (by simpa using a1)
  have H := hide h
  have HB := hide B
  have HM := hide (And.intro hr0 (And.intro hD4 (And.intro hN h.ne)))
  clear h B hr0 hD4 hN a1 a2 a3 a4 a5
  unfold ptr
  go_enter Tryz.func48, Tryz.ntmps48
  go_wp2_with (at_range; refine wpList_range_own _ rfl _ 73 rfl 3 123 lawInt Tryz.underlying73 R5 sb S.N D rfl hown ?_; intro w0 hrg0 hg0 hs0)
  go_frame
  have HR0 : Hid (Rd w w0 sb w.heap.size nb S.N D (fun k => S.since.any (fun p => p.1 == k)) S.base S.now (Maps.has D) (size D)) :=
    ⟨hrg0, ((unhide H).now.keep (hg0.block nb (unhide H).now.lt (by simp))).congr (fun k hk => (mix_start (unhide HB) S.now k hk).symm), (Fr.ofGrown hg0).mono (fun _ _ c => by simp at c), Nat.le_refl _, fun _ q => q⟩
  clear hrg0 hg0 hs0 hown c5
  go_loopw [4] (fun _ wr => ∃ left cnt, Hid (Rd w wr sb w.heap.size nb S.N D (fun k => S.since.any (fun p => p.1 == k)) S.base S.now left cnt)) (fun _ wr => wr.rangeLeft sb w.heap.size)
  case atStart => exact ⟨_, _, HR0⟩
  case round =>
    clear HR0
    obtain ⟨left, cnt, HR⟩ := hrel
    go_wp2_with (at_next; refine wpList_next_ranges _ rfl _ rfl 3 lawInt R5 (Value.int .i64) blkV inv_key inv_blk sb w.heap.size S.N D left cnt rfl (unhide HR).rg ?_ ?_)
    · intro _ hl0
      have HL := hide hl0
      clear hl0
      have f1 := (unhide HR).fr
      have D1 := (unhide HM).2.1 wr f1
      rw [(unhide H).blk] at D1
      have c6 := dcell D1 6 rfl
      have hrl : (S.since.take 31).length ≤ 31 := by simp; omega
      have hrow0 := (unhide H).row
      unfold FRow at hrow0
      obtain ⟨n, hn⟩ : ∃ n, n = (S.since.take 31).length := ⟨_, rfl⟩
      rw [← hn] at hrow0 hrl
      obtain ⟨fa, fc, hfv⟩ := own_slice hrow0
      subst hfv
      have hn31 : (n : Int) ≤ 31 := by omega
      have N1 : NMap wr nb S.N (fl bits 0 S.base ((S.since.take 31).take 0)) := (unhide HR).nm.congr (fun k hk => by
        rw [mix_end _ (unhide HL)]
        simp only [List.take_zero, fl]
        split
        · rfl
        · rename_i c; exact cur_other (by simpa only [Bool.not_eq_true] using c))
      have HL0 : Hid (NMap wr nb S.N (fl bits 0 S.base ((S.since.take 31).take 0)) ∧ Fr [nb] w wr) := ⟨N1, f1⟩
      have HN := hide (And.intro hn (And.intro hrl hrow0))
      clear f1 D1 N1 hn hrl hrow0 HR HL
      obtain ⟨w1, hw1⟩ : ∃ w1, w1 = wr := ⟨_, rfl⟩
      rw [← hw1] at c6 HL0 ⊢
      clear hw1
      go_wp2_with fail
      go_loopw [29] (fun iv wr => ∃ i : Nat, i ≤ n ∧ iv = .int .i64 (i : Int) ∧ Hid (NMap wr nb S.N (fl bits 0 S.base ((S.since.take 31).take i)) ∧ Fr [nb] w wr)) (fun iv _ => (n - intOf iv).toNat)
      case atStart => exact ⟨0, by omega, rfl, HL0⟩
      case round =>
        clear HL0 c6
        obtain ⟨i, hi, rfl, HR⟩ := hrel
        by_cases hlt : i < n
        · obtain ⟨p, hp⟩ : ∃ p, (S.since.take 31)[i]? = some p := ⟨_, List.getElem?_eq_getElem (by have := (unhide HN).1; omega)⟩
          obtain ⟨k, s⟩ := p
          have hmem := List.mem_of_mem_take (List.mem_of_getElem? hp)
          obtain ⟨hkN, hs⟩ := (unhide H).ok.ats _ hmem
          have hlsz : ∀ p ∈ S.since.take 31, p.2.size = 64 := fun p hp => ((unhide H).ok.ats p (List.mem_of_mem_take hp)).2
          obtain ⟨g, cap, hg, hgl, _, _⟩ := own_open (unhide HN).2.2 (by omega)
          simp only [Value.slice.injEq] at hg
          obtain ⟨rfl, _, rfl⟩ := hg
          have hrg : wr.rangeAt g (i * 65) (wrC (k, s)) := FRow.range (v := .slice (some ⟨g, 0, none⟩) n fc) (own_keep (unhide H).row (fun x hx => (unhide HR).2.block x (World.ownsRow.lt (unhide H).row x hx).2 (fun c => by simp at c; subst c; exact (unhide H).apart.2.2.2.1 hx))) hlsz rfl hp
          have hw65 := wrC_len (p := (k, s)) hs
          have z1 : (Tryz.prog.info? 125).map (·.size) = some (wrC (k, s)).toArray.size := by simp only [List.size_toArray]; rw [hw65]; exact Tryz.infoWrite
          have z2 : (wrC (k, s)).toArray.size = 65 := by simp only [List.size_toArray]; exact hw65
          have z3 := all_oneCell_toArray (wrC_one (k, s))
          have HZ := hide (And.intro hrg (And.intro z1 (And.intro z2 (And.intro z3 (And.intro hp (And.intro hkN (And.intro hs hw65)))))))
          obtain ⟨Zw, hZw, hzv⟩ := zeroWrite
          have hi1 : (i : Int) < (n : Int) := by omega
          have hnn : (n : Int) ≤ 31 := hn31
          clear hp hmem hkN hs hlsz hgl hrg hw65 z1 z2 z3 hi
          go_upto_region 7 with (first | refine wpList_load_mid rfl 125 (.tmp 32) rfl g (i * 65) (by simp [Act.eval]) (wrC (k, s)) _ (unhide HZ).1 Tryz.underlying125 rfl (by rw [(unhide HZ).2.2.2.2.2.2.2]; exact Tryz.infoWrite) ?_ | refine wpList_store_row rfl 125 (.tmp 7) (.tmp 33) rfl wr.heap.size (wrC (k, s)).toArray rfl rfl 125 Zw (heap_alloc_new _ _) (unhide HZ).2.1 (by rw [(unhide HZ).2.2.1]; exact hZw) (unhide HZ).2.2.2.1 ?_)
          generalize hW : World.setRow (wr.alloc _) wr.heap.size (wrC (k, s)).toArray = W2
          have g0 : W2.heap[wr.heap.size]? = some (.cells (wrC (k, s)).toArray 125 (0, 0)) := by rw [← hW]; exact setRow_heap _ _ _ _ _ _ (heap_alloc_new _ _)
          have g1 : Below wr.heap.size wr W2 := by rw [← hW]; exact below_setRow ((Below.refl _ _).alloc (Nat.le_refl _) _) (Nat.le_refl _) _
          clear hW hzv hZw
          have g2 : Fr [nb] w W2 := (unhide HR).2.below g1
          have g3 : NMap W2 nb S.N (fl bits 0 S.base ((S.since.take 31).take i)) := (unhide HR).1.keep (g1.block nb (unhide HR).1.lt)
          have D2 := (unhide HM).2.1 W2 g2
          rw [(unhide H).blk] at D2
          have lk := NMap.look (w := W2.drew) (g3.keep rfl) (unhide HM).2.2.1 (unhide HZ).2.2.2.2.2.1
          have hcs : (fl bits 0 S.base ((S.since.take 31).take i) k).size = 64 := fl_size (unhide H).ok.sz (fun p hp => ((unhide H).ok.ats p (List.mem_of_mem_take (List.mem_of_mem_take hp))).2) k
          have HK : Hid (∀ (W : World), Calls Tryz.prog 71 #[.agg (blkC (fl bits 0 S.base ((S.since.take 31).take i) k)).toArray, .agg (blkC s).toArray, .int .i64 (Go.bits BinOp.and IntKind.i64 (bits / 2 ^ (2 * (i : Int)).toNat) 3)] W fun e w' => e = .returned (.agg (blkC (torn (fl bits 0 S.base ((S.since.take 31).take i) k) s (fate bits i))).toArray) ∧ Below W.heap.size W w') := fun W => torn_any _ _ (fate bits i) hcs (unhide HZ).2.2.2.2.2.2.1 W
          have HS0 : Hid (∀ W : World, Below W2.drew.heap.size W2.drew W → (fun w' : World => w'.cell? ⟨d, 4, none⟩ = some (.map (some nb)) ∧ w'.cell? ⟨wr.heap.size, 0, none⟩ = some (.int .i64 (k : Int)) ∧ w'.rangeAt wr.heap.size 1 (blkC s)) W) := fun W hW => by
            have e1 : W.heap[d]? = _ := (hW.block d (lt_of_blk (w := W2.drew) D2)).trans D2
            have e2 : W.heap[wr.heap.size]? = _ := (hW.block _ (lt_of_blk (w := W2.drew) g0)).trans g0
            exact ⟨dcell e1 4 rfl, dcell e2 0 rfl, range_bytes e2⟩
          have HS1 := hide ((unhide HS0) W2.drew (Below.refl _ _))
          have HT := hide (And.intro g2 (And.intro g3 hcs))
          have HD2 := hide (And.intro D2 g0)
          have HU : Hid (∀ z1 : World, Below W2.drew.heap.size W2.drew z1 → ∃ W4, (Instr.mapUpdate 73 (.map (some nb)) (.int .i64 (k : Int)) (.agg (blkC (torn (fl bits 0 S.base ((S.since.take 31).take i) k) s (fate bits i))).toArray)).run Tryz.prog z1 = .ok () W4 ∧ (NMap W4 nb S.N (fl bits 0 S.base ((S.since.take 31).take (i + 1))) ∧ Fr [nb] w W4) ∧ (W4.cell? ⟨d, 4, none⟩ = some (.map (some nb)) ∧ W4.cell? ⟨wr.heap.size, 0, none⟩ = some (.int .i64 (k : Int)) ∧ W4.rangeAt wr.heap.size 1 (blkC s))) := by
            intro z1 hb
            have n1 : NMap z1 nb S.N _ := (unhide HT).2.1.keep (hb.block nb (unhide HT).2.1.lt)
            obtain ⟨W4, r4, n4, k4⟩ := n1.store (unhide HM).2.2.1 (unhide HZ).2.2.2.2.2.1 (torn_size (fate bits i) (unhide HT).2.2 (unhide HZ).2.2.2.2.2.2.1)
            have e1 : z1.heap[d]? = _ := (hb.block d (lt_of_blk (w := W2.drew) (unhide HD2).1)).trans (unhide HD2).1
            have e2 : z1.heap[wr.heap.size]? = _ := (hb.block _ (lt_of_blk (w := W2.drew) (unhide HD2).2)).trans (unhide HD2).2
            have e3 := grown_keep k4 e1 (unhide H).apart.1
            have e4 := grown_keep k4 e2 (by have := (unhide HR).1.lt; omega)
            refine ⟨W4, r4, ⟨n4.congr (fun j _ => ?_), ((unhide HT).1.drew.below hb).tr (Fr.ofGrown k4)⟩, dcell e3 4 rfl, dcell e4 0 rfl, range_bytes e4⟩
            rw [take_one (unhide HZ).2.2.2.2.1, fl_snoc]
            have : ((S.since.take 31).take i).length = i := by rw [List.length_take]; have := (unhide HN).1; omega
            rw [this, Nat.zero_add]
          have hu63 := Tryz.underlying123
          have hi63 : (Tryz.prog.info? 123).map (·.size) = some (blkC s).length := by rw [blkC_len, (unhide HZ).2.2.2.2.2.2.1]; exact Tryz.infoBlock
          unfold blkV at lk
          clear g0 g1 g2 g3 D2 hcs
          have m1 : IntKind.i64.wrap (2 * (i : Int)) = ((2 * i : Nat) : Int) := by rw [wrap_i64 (by omega) (by omega)]; omega
          have m2 : ¬ (((2 * i : Nat) : Int) < 0) := by omega
          have m3 : min (((2 * i : Nat) : Int)).toNat 64 = 2 * i := by omega
          go_region_held3 (fun w' : World => w'.cell? ⟨d, 4, none⟩ = some (.map (some nb)) ∧ w'.cell? ⟨wr.heap.size, 0, none⟩ = some (.int .i64 (k : Int)) ∧ w'.rangeAt wr.heap.size 1 (blkC s)) (first | exact unhide HS1 | exact S1 | exact S4) (first
            | (go_at_call 71; refine (unhide HK _).mono ?_; rintro e z1 ⟨rfl, b1⟩; have S1 := unhide HS0 z1 b1; obtain ⟨W4, r4, E4, S4⟩ := unhide HU z1 b1))
          have HE4 := hide E4
          clear E4 r4 S4 S1 b1 lk hu63 hi63
          go_wp2_with fail
          go_roundw
          case rel => exact ⟨i + 1, by omega, by go_num, HE4⟩
          case measure => simp only [intOf]; omega
        · obtain rfl : i = n := by omega
          clear hlt hi
          have D1 := (unhide HM).2.1 wr (unhide HR).2
          rw [(unhide H).blk] at D1
          have K := settle_raw (w := wr) (d := d) (by unfold Raw; exact D1)
          unfold ptr at K
          clear D1
          go_wp2_with fail
          refine K.mono ?_
          rintro e w5 ⟨rfl, hr5, hf5, hn5⟩
          have c1 := dcell hr5 1 rfl
          have f1 := dfroz hr5 1
          have HF := hide (And.intro hr5 (And.intro hf5 hn5))
          clear hr5 hf5 hn5 K
          go_wp2_with fail
          go_end0
          exact ⟨rfl, fall_end (unhide H) ((unhide HN).1) (unhide HR).1 (unhide HR).2 (unhide HF).1 (unhide HF).2.1 (unhide HF).2.2⟩
    · intro x c kl y1 y2 w1 cnt1 hkey hlk hv hat hrg1 hlt hg1 hs1 hen
      obtain ⟨m, rfl, hmN, rfl, hm, rfl, hc⟩ := (unhide HR).entry (unhide HB) hkey hlk hv hat
      obtain ⟨q1, q2, q3⟩ := (unhide HR).next (unhide HM).1 hg1 hrg1
      have HQ := hide (And.intro q1 (And.intro q2 (And.intro q3 (And.intro hm (And.intro hmN (And.intro hc hlt))))))
      have z1 := infoRow (blk_sz hc)
      have z2 : lit64.size = (blkC (S.base m)).toArray.size := by rw [blk_sz hc]; rfl
      have z3 := blk_one (S.base m)
      have HZ := hide (And.intro z1 (And.intro z2 z3))
      clear hkey hlk hv hat hrg1 hlt hg1 hs1 hmN hm hc q1 q2 q3 z1 z2 z3
      unfold blkV at hen
      go_upto_region 3 with (refine wpList_store_row rfl 123 (.tmp 5) (.tmp 17) rfl w1.heap.size (blkC (S.base m)).toArray rfl rfl 123 lit64 (heap_alloc_new _ _) (unhide HZ).1 (unhide HZ).2.1 (unhide HZ).2.2 ?_)
      generalize hW : World.setRow (w1.alloc _) w1.heap.size (blkC (S.base m)).toArray = W2
      have g0 : W2.heap[w1.heap.size]? = some (.cells (blkC (S.base m)).toArray 123 (0, 0)) := by rw [← hW]; exact setRow_heap _ _ _ _ _ _ (heap_alloc_new _ _)
      have g1 : Below w1.heap.size w1 W2 := by rw [← hW]; exact below_setRow ((Below.refl _ _).alloc (Nat.le_refl _) _) (Nat.le_refl _) _
      clear hW hen
      have g2 : Fr [nb] w W2 := (unhide HQ).2.2.1.below g1
      have g3 : NMap W2 nb S.N (mix (fun k => S.since.any (fun p => p.1 == k)) left S.base S.now) := (unhide HQ).2.1.keep (g1.block nb (unhide HQ).2.1.lt)
      have g4 := ranges_fr (unhide HQ).1 (Fr.ofBelow g1) (by simp) (by simp)
      obtain ⟨W3, r3, n3, k3⟩ := NMap.store (w := W2.drew) (g3.keep rfl) (unhide HM).2.2.1 (unhide HQ).2.2.2.2.1 (unhide HQ).2.2.2.2.2.1
      have D2 := (unhide HM).2.1 W2 g2
      rw [(unhide H).blk] at D2
      have D3 := grown_keep (X := W2.drew) k3 D2 (by intro c; have := (unhide H).apart.1; omega)
      have B3 := grown_keep (X := W2.drew) k3 g0 (by have := (unhide HQ).2.1.lt; omega)
      have HE := hide ((unhide HR).done (unhide HM).1 (unhide HM).2.2.2 (unhide HQ).2.2.2.1 (w2 := W2.drew) g4 g2.drew k3 n3)
      have HS2 : Hid ((fun w' : World => w'.cell? ⟨d, 4, none⟩ = some (.map (some nb)) ∧ w'.rangeAt w1.heap.size 0 (blkC (S.base m))) W2.drew) := ⟨dcell (X := W2.drew) D2 4 rfl, range_blk (X := W2.drew) g0⟩
      have HS3 : Hid ((fun w' : World => w'.cell? ⟨d, 4, none⟩ = some (.map (some nb)) ∧ w'.rangeAt w1.heap.size 0 (blkC (S.base m))) W3) := ⟨dcell D3 4 rfl, range_blk B3⟩
      have hu63 := Tryz.underlying123
      have hi63 : (Tryz.prog.info? 123).map (·.size) = some (blkC (S.base m)).length := by rw [blkC_len, (unhide HQ).2.2.2.2.2.1]; exact Tryz.infoBlock
      unfold blkV at r3
      clear g0 g1 g2 g3 g4 n3 k3 D2 D3 B3
      go_region_held3 (fun w' : World => w'.cell? ⟨d, 4, none⟩ = some (.map (some nb)) ∧ w'.rangeAt w1.heap.size 0 (blkC (S.base m))) (first | exact unhide HS2 | exact unhide HS3) (fail)
      go_wp2_with fail
      go_roundw
      case rel => exact ⟨_, _, HE⟩
      case measure => rw [(unhide HE).rg.left_eq, (unhide HR).rg.left_eq]; exact (unhide HQ).2.2.2.2.2.2

end Go.Proofs.YtfnpeiikjiffeaaGreat
