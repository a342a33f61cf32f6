/-
  What Put does: it appends the low n bits of v to the stream, or returns an error and changes nothing. Condition: fewer than 2^40 bits.
-/
import Derived.Test.YtpjbjbohbdlciaaQPen
import Derived.Deep.RegionLaw
import Derived.Deep.AppendLies
namespace Go.Proofs.Ytpjbjbohbdlciaa.Bt
open Go.RowKit

/-- The bits bs have been appended. -/
def PutPost (w : World) (x : Nat) (v : Value) (L : List Bool) (e : Ending) (w' : World) : Prop :=
  e = .returned (.int .i64 0) ∧ ∃ v', Wr w' x v' L ∧ Chg w w' x v.ownBlock ∧ New w v.ownBlock v'.ownBlock

set_option maxHeartbeats 400000 in
theorem put_nil (w : World) (q n : Int) : Calls Try.prog 49 #[.pointer none, .int .u64 q, .int .i64 n] w fun e w' => e = .returned (.int .i64 1) ∧ w = w' := by
  go_enter Try.func49, Try.ntmps49
  go_wp2
  go_ret
  exact ⟨rfl, rfl⟩

set_option maxHeartbeats 1000000 in
theorem put_arg (w : World) (x : Nat) (q n : Int) (hn : n < 0 ∨ 64 < n) : Calls Try.prog 49 #[.pointer (some ⟨x, 0, none⟩), .int .u64 q, .int .i64 n] w fun e w' => e = .returned (.int .i64 2) ∧ w = w' := by
  rcases hn with hn | hn
  · have hd : decide (n < 0) = true := decide_eq_true hn
    go_enter Try.func49, Try.ntmps49
    go_wp2
    go_ret
    exact ⟨rfl, rfl⟩
  · have hd : decide (n < 0) = false := decide_eq_false (by omega)
    have hd2 : decide (64 < n) = true := decide_eq_true hn
    go_enter Try.func49, Try.ntmps49
    go_wp2
    go_ret
    exact ⟨rfl, rfl⟩

set_option maxHeartbeats 1000000 in
theorem put_bit (w : World) (x : Nat) (q n : Nat) (hn : n ≤ 64) (hq : 2 ^ n ≤ q) : Calls Try.prog 49 #[.pointer (some ⟨x, 0, none⟩), .int .u64 (q : Int), .int .i64 (n : Int)] w fun e w' => e = .returned (.int .i64 2) ∧ w = w' := by
  have hd : decide ((n : Int) < 0) = false := decide_eq_false (by omega)
  have hd2 : decide ((64 : Int) < (n : Int)) = false := decide_eq_false (by omega)
  have hne : ((q : Int) / 2 ^ n != 0) = true := by
    have h1 : 0 < q / 2 ^ n := Nat.div_pos hq (Nat.two_pow_pos n)
    have h2 : ((q : Int) / 2 ^ n) = ((q / 2 ^ n : Nat) : Int) := by simp
    rw [h2]
    simp only [bne_iff_ne, ne_eq]
    omega
  clear hq
  go_enter Try.func49, Try.ntmps49
  go_wp2
  go_ret
  exact ⟨rfl, rfl⟩

theorem filled_yes {w : World} {x p : Nat} {v : Value} (h : WrBlk w x p 8 v) :
    Calls Try.prog 70 #[.pointer (some ⟨x, 0, none⟩)] w fun e w' => e = .returned (.bool true) ∧ w = w' := filled_any h
theorem filled_no {w : World} {x p c : Nat} {v : Value} (h : WrBlk w x p c v) (hc : c ≠ 8) :
    Calls Try.prog 70 #[.pointer (some ⟨x, 0, none⟩)] w fun e w' => e = .returned (.bool false) ∧ w = w' := by
  have := filled_any h
  rw [show ((c : Int) == 8) = false by simp; omega] at this
  exact this

/-- What the loop of Put holds on to. -/
def PutRel (w : World) (x : Nat) (v : Value) (L : List Bool) (k m : Nat) (wr : World) : Prop :=
  ∃ v' l', Wr wr x v' l' ∧ l' ++ bitsOf k m = L ∧ Chg w wr x v.ownBlock ∧ New w v.ownBlock v'.ownBlock

theorem put_no {w wr w1 : World} {x : Nat} {v v' : Value} {L l2 : List Bool} {k m C p2 p3 c3 : Nat} {F : List UInt8} (hch : Chg w wr x v.ownBlock) (hnw : New w v.ownBlock v'.ownBlock) (ho : wr.ownsRow 0 5 1 v' F.length (F.map byt))
    (hb : WrBlk wr x p3 c3 v') (hc : C < 8) (hs : Str F p2 C l2) (hl : l2 ++ bitsOf k m = L) (hg : wr.grownBy w1 (some x)) (hb1 : WrBlk w1 x p2 C v') : PutRel w x v L k m w1 := by
  refine ⟨v', l2, ⟨F, p2, C, hb1, hc, hs, own_same ho fun g hgg => hg.block g (own_lt ho hgg) ?_⟩, hl, hch.trans (Chg.of_self _ hg) hnw, hnw⟩
  intro e
  exact hb.row_ne ho (hgg.trans e)

theorem byt_of {p : Nat} (h : p < 256) : byt (UInt8.ofNat p) = .int .u8 (p : Int) := by
  simp only [byt]
  rw [UInt8.toNat_ofNat', Nat.mod_eq_of_lt h]

theorem WrBlk.alloc {w : World} {x p c : Nat} {v : Value} (h : WrBlk w x p c v) (o : Obj) : WrBlk (w.alloc o) x p c v := h.same (heap_alloc_old w o h.lt)
theorem WrBlk.grown_row {w w' : World} {x p c n : Nat} {v : Value} {xs : List Value} (h : WrBlk w x p c v) (ho : w.ownsRow 0 5 1 v n xs) (hg : w.grownBy w' v.ownBlock) : WrBlk w' x p c v :=
  h.same (hg.block x h.lt fun e => h.row_ne ho e.symm)
theorem own_turn {wr w1 w4 : World} {x p c n : Nat} {v : Value} {xs : List Value} (ho : wr.ownsRow 0 5 1 v n xs) (hb : WrBlk wr x p c v) (hg1 : wr.grownBy w1 (some x)) (hg4 : w1.drew.grownBy w4 (some x)) (o : Obj) : (w4.alloc o).ownsRow 0 5 1 v n xs := by
  refine own_same ho fun g hgg => ?_
  have hne : some g ≠ some x := fun e => hb.row_ne ho (hgg.trans e)
  have hlt := own_lt ho hgg
  have s1 := hg1.size
  have s4 : w1.heap.size ≤ w4.heap.size := hg4.size
  rw [heap_alloc_old w4 o (show g < w4.heap.size by omega)]
  exact (hg4.block g (show g < w1.heap.size by omega) hne).trans (hg1.block g hlt hne)

theorem put_yes {w wr w1 w4 w5 : World} {x : Nat} {v v' : Value} {L l2 : List Bool} {k m p2 g cap : Nat} {F : List UInt8} {o : Obj} (hch : Chg w wr x v.ownBlock) (hnw : New w v.ownBlock v'.ownBlock)
    (hs : Str F p2 8 l2) (hl : l2 ++ bitsOf k m = L) (hg1 : wr.grownBy w1 (some x)) (hg4 : w1.drew.grownBy w4 (some x)) (hg5 : (w4.alloc o).grownBy w5 v'.ownBlock) (hb5 : WrBlk w5 x 0 0 v')
    (ho5 : w5.ownsRow 0 5 1 (.slice (some ⟨g, 0, none⟩) (F.length + 1) cap) (F.length + 1) (F.map byt ++ [.int .u8 (p2 : Int)])) (hlie : v'.ownBlock = some g ∨ g = w4.heap.size + 1) :
    PutRel w x v L k m (w5.setCell ⟨x, 2, none⟩ (.slice (some ⟨g, 0, none⟩) (F.length + 1) cap)) := by
  have hgx : g ≠ x := fun e => hb5.row_ne ho5 (by rw [e]; rfl)
  have hp : p2 < 256 := hs.lt
  have s1 := hg1.size
  have s4 : w1.heap.size ≤ w4.heap.size := hg4.size
  have s5 : w4.heap.size + 1 ≤ w5.heap.size := by have := hg5.size; simpa using this
  have n5 : New w v.ownBlock (some g) := by
    have s0 := hch.size
    refine New.trans (b := w4) hnw ?_ (by omega)
    rcases hlie with e | e
    · exact .inl e.symm
    · exact .inr ⟨g, rfl, by omega⟩
  have c1 : Chg wr w1 x v'.ownBlock := Chg.of_self _ hg1
  have c4 : Chg w1 w4 x v'.ownBlock := ⟨hg4.os, hg4.tape, hg4.output, hg4.size, fun j hj hx _ => hg4.block j hj (by simpa using hx)⟩
  have c4' : Chg w4 (w4.alloc o) x v'.ownBlock := Chg.of_below _ _ ((Below.refl _ _).alloc (Nat.le_refl _) _)
  have c5 : Chg (w4.alloc o) w5 x v'.ownBlock := Chg.of_row x hg5
  have c6 : Chg w5 (w5.setCell ⟨x, 2, none⟩ (.slice (some ⟨g, 0, none⟩) (F.length + 1) cap)) x v'.ownBlock := Chg.of_self _ (grown_setCell _ _ _ _)
  have cc : Chg wr (w5.setCell ⟨x, 2, none⟩ (.slice (some ⟨g, 0, none⟩) (F.length + 1) cap)) x v'.ownBlock :=
    (((c1.trans c4 (New.refl _ _)).trans c4' (New.refl _ _)).trans c5 (New.refl _ _)).trans c6 (New.refl _ _)
  refine ⟨_, l2, ⟨F ++ [UInt8.ofNat p2], 0, 0, hb5.set2 _, by decide, hs.full, ?_⟩, hl, hch.trans cc hnw, n5⟩
  have ho6 : (w5.setCell ⟨x, 2, none⟩ (.slice (some ⟨g, 0, none⟩) (F.length + 1) cap)).ownsRow 0 5 1 (.slice (some ⟨g, 0, none⟩) (F.length + 1) cap) (F.length + 1) (F.map byt ++ [.int .u8 (p2 : Int)]) := by
    refine own_same ho5 fun j hj => ?_
    have hj' : g = j := by simpa [Value.ownBlock] using hj
    subst hj'
    exact Below.heap_setCell w5 ⟨x, 2, none⟩ _ g hgx
  rw [← byt_of hp] at ho6
  simpa using ho6

set_option maxRecDepth 100000 in
set_option maxHeartbeats 4000000 in
theorem put_ok {w : World} {x : Nat} {v : Value} {l : List Bool} (h : Wr w x v l) (hs : l.length ≤ 1099511627776) (q n : Nat) (hn : n ≤ 64) (hq : q < 2 ^ n) :
    Calls Try.prog 49 #[.pointer (some ⟨x, 0, none⟩), .int .u64 (q : Int), .int .i64 (n : Int)] w (PutPost w x v (l ++ bitsOf q n)) := by
  obtain ⟨L, hL⟩ : ∃ L, l ++ bitsOf q n = L := ⟨_, rfl⟩
  have hLs : L.length ≤ 1099511627840 := by rw [← hL, List.length_append, bitsOf_len]; omega
  have HLS := Lib.hid hLs
  rw [hL]
  have R0 : PutRel w x v L q n w := ⟨v, l, h, hL, Chg.refl _ _ _, New.refl _ _⟩
  have HR0 := Lib.hid R0
  have HQ := Lib.hid hq
  have hd : decide ((n : Int) < 0) = false := decide_eq_false (by omega)
  have hd2 : decide ((64 : Int) < (n : Int)) = false := decide_eq_false (by omega)
  have hne : ((q : Int) / 2 ^ n != 0) = false := by
    have h2 : ((q : Int) / 2 ^ n) = ((q / 2 ^ n : Nat) : Int) := by simp
    rw [h2, Nat.div_eq_of_lt hq]
    rfl
  obtain ⟨i0, hi, hz0, hz1, hz2⟩ := info_parts byte_info
  have HI := Lib.hid (And.intro hi (And.intro hz0 (And.intro hz1 hz2)))
  clear h hs hL hLs R0 hq hi hz0 hz1 hz2
  go_enter Try.func49, Try.ntmps49
  go_wp2_with fail
  clear hd hd2 hne
  go_loopw [1, 2] (fun a b wr => ∃ k m : Nat, a = .int .u64 (k : Int) ∧ b = .int .i64 (m : Int) ∧ m ≤ 64 ∧ Hid (k < 2 ^ m) ∧ Hid (PutRel w x v L k m wr)) (fun _ b _ => (intOf b).toNat)
  case atStart => exact ⟨q, n, rfl, rfl, hn, HQ, HR0⟩
  case round =>
    obtain ⟨k, m, rfl, rfl, hm, HK, HR⟩ := hrel
    by_cases h0 : 0 < m
    · obtain ⟨v', l', hw, hl', hch, hnw⟩ := HR.out
      obtain ⟨F, p, c, hb, hc, hst, ho⟩ := hw
      obtain ⟨A', c', rfl, _⟩ := own_form ho
      have HB := Lib.hid hb
      have HLT := Lib.hid hb.lt
      have AD := Lib.hid (add_any hb hc hst.lt k m HK.out)
      obtain ⟨a, ha⟩ : ∃ a, min m (8 - c) = a := ⟨_, rfl⟩
      rw [ha] at AD
      have hst2 := hst.add k a
      have hl2 : (l' ++ bitsOf k a) ++ bitsOf (k / 2 ^ a) (m - a) = L := by
        rw [← hl', List.append_assoc, ← bitsOf_add, show a + (m - a) = m by omega]
      have hk2 : k / 2 ^ a < 2 ^ (m - a) := by
        refine Nat.div_lt_of_lt_mul ?_
        rw [← Nat.pow_add, show a + (m - a) = m by omega]
        exact HK.out
      have ha1 : 0 < a := by omega
      have ha2 : a ≤ m := by omega
      have ha8 : a ≤ 64 := by omega
      have hac : c + a ≤ 8 := by omega
      have HAC := Lib.hid hac
      obtain ⟨C, hC⟩ : ∃ C, c + a = C := ⟨_, rfl⟩
      obtain ⟨p2, hp2⟩ : ∃ p2, p + 2 ^ c * (k % 2 ^ a) = p2 := ⟨_, rfl⟩
      unfold AddPost at AD
      rw [hC, hp2] at hst2
      rw [hC, hp2] at AD
      rw [hC] at HAC
      have S2 := Lib.hid hst2
      have K2 := Lib.hid hk2
      have L2 := Lib.hid hl2
      have HO := Lib.hid ho
      have HCH := Lib.hid hch
      have HNW := Lib.hid hnw
      have HFL : Hid (8 * F.length ≤ 1099511627840) := Lib.hid (by
        have e1 := hst.len
        have e2 := HLS.out
        rw [← hl', List.length_append] at e2
        omega)
      clear hl' hch hnw hb hc hst ho ha hst2 hl2 hk2 hac hC hp2 HK HR HR0 HQ
      go_wp2_with fail
      refine AD.out.mono ?_
      rintro e w1 ⟨rfl, hb1, hg1⟩
      have B1 := Lib.hid hb1
      have G1 := Lib.hid hg1
      clear hb1 hg1 AD
      by_cases h8 : C = 8
      · subst h8
        have FY := Lib.hid (filled_yes B1.out)
        go_wp2_with fail
        refine FY.out.mono ?_
        rintro e w2 ⟨rfl, rfl⟩
        have DR := Lib.hid (drain_any (w := w1.drew) (B1.out : WrBlk w1.drew x p2 8 (.slice A' F.length c')))
        have c1 := B1.out.cell2
        clear FY
        go_wp2_with fail
        go_region_law (first
          | (go_simp; go_at_call 71; refine DR.out.mono ?_; rintro e w4 ⟨rfl, hb4, hg4⟩; have c4 := hb4.cell2; have BA := Lib.hid (hb4.alloc (.cells #[.int .u8 (p2 : Int)] 5)); have ca := BA.out.cell2; have G4 := Lib.hid hg4; have O4 := Lib.hid (own_turn HO.out HB.out G1.out hg4 (.cells #[.int .u8 (p2 : Int)] 5)); clear hb4 hg4)
          | (refine step_append_lies _ rfl (.tmp 44) (.tmp 49) 26 rfl 0 5 i0 (.int .u8 0) 1 1 Try.underlying26 HI.out.1 HI.out.2.1 HI.out.2.2.1 HI.out.2.2.2 rfl (by decide) (.slice A' F.length c') F.length (F.map byt) (by simp [Act.eval]) O4.out ⟨w4.heap.size, 0, none⟩ 1 1 [.int .u8 (p2 : Int)] (by simp [Act.eval]) rfl (cell_one_new _ _ _) (by simp [Value.oneCell']) (by decide) (by have := HFL.out; unfold maxLen; omega) (by have := HFL.out; omega) (by simp) (w4.heap.size + 1) (by simp) ?_; intro g cap w5 ho5 hg5 hlie _; have B5 := Lib.hid (WrBlk.grown_row BA.out O4.out hg5); have c5 := B5.out.cell2; have f5 := B5.out.free 2; have H5 := Lib.hid (And.intro ho5 (And.intro hg5 hlie)); clear ho5 hg5 hlie))
        all_goals (go_wp2_with fail; exact ⟨⟨k / 2 ^ a, m - a, by simp, by simp; omega, by omega, K2, Lib.hid (put_yes HCH.out HNW.out S2.out L2.out G1.out G4.out H5.out.2.1 B5.out H5.out.1 H5.out.2.2)⟩, by simp [intOf]; omega⟩)
      · have FN := Lib.hid (filled_no B1.out h8)
        have h8' := Lib.hid h8
        clear h8
        go_wp2_with fail
        refine FN.out.mono ?_
        rintro e w2 ⟨rfl, rfl⟩
        clear FN
        go_wp2_with fail
        refine ⟨⟨k / 2 ^ a, m - a, by simp, by simp; omega, by omega, K2, Lib.hid (put_no HCH.out HNW.out HO.out HB.out (by have := HAC.out; have := h8'.out; omega) S2.out L2.out G1.out B1.out)⟩, by simp [intOf]; omega⟩
    · have hm0 : m = 0 := by omega
      subst hm0
      obtain ⟨v', l', hw, hl', hch, hnw⟩ := HR.out
      rw [show bitsOf k 0 = [] by cases k <;> rfl, List.append_nil] at hl'
      have H := Lib.hid (And.intro hw (And.intro hl' (And.intro hch hnw)))
      clear hw hl' hch hnw HR
      go_wp2
      go_ret
      obtain ⟨hw, rfl, hch, hnw⟩ := H.out
      exact ⟨rfl, v', hw, hch, hnw⟩

end Go.Proofs.Ytpjbjbohbdlciaa.Bt
