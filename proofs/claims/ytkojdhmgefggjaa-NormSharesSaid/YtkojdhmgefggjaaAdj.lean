/-
  What division.adjust does with the two directions of division.settle: one state after the other is given or taken. Nothing but the division's blocks and new memory changes. Condition: the numbers are in their ranges.
-/
import Derived.Test.YtkojdhmgefggjaaGrt
namespace Go.Proofs.Ytkojdhmgefggjaa
open Go.RowKit Go.Shelf

theorem Dv.setst {W : World} {B b g n c : Nat} {U : List Nat} {sh st : Nat → Int} {t : Nat} {lf : Int} (h : Dv W B b (.slice (some ⟨g, 0, none⟩) n c) U sh st t lf) (hU : U.length = n) (hn : U.Nodup) {j i : Nat} (hj : U[j]? = some i) (y : Int) :
    Dv (W.setCell ⟨g, j * 3 + 2, none⟩ (.int .i64 y)) B b (.slice (some ⟨g, 0, none⟩) n c) U sh (fun a => if a = i then y else st a) t lf := by
  have hgb : b ≠ g := fun e => h.off (by rw [e]; rfl)
  subst hU
  refine ⟨(Below.heap_setCell W ⟨g, j * 3 + 2, none⟩ _ b hgb).trans h.blk, ?_, h.low, h.off⟩
  rw [← flat_set hn hj]
  exact (h.own.stored (j * 3 + 2) _).1

/-- The two blocks of a division. -/
abbrev Two (b : Nat) (v : Value) : Nat → Prop := fun x => x = b ∨ v.ownBlock = some x

/-- A division on its way from st, lf: what is still to do leads to the same end. -/
structure Adj (sg : Int) (ok : Int → Bool) (kf : Int → Int) (nn : Int → Nat) (w wr : World) (B b : Nat) (v : Value) (U : List Nat) (sh : Nat → Int) (T : Nat) (st : Nat → Int) (lf : Int) (st' : Nat → Int) (lf' : Int) : Prop where
  dv : Dv wr B b v U sh st' T lf'
  chg : Chg (Two b v) w wr
  todo : goN sg ok kf sh T U (nn lf') st' = goN sg ok kf sh T U (nn lf) st
  lef : lf' - sg * nn lf' = lf - sg * nn lf
  rng : Rg U sh st' (1000000 - nn lf')
  sum : sm st' U + lf' = sm st U + lf
  mem : nn lf' ≤ nn lf

theorem Adj.zero {sg : Int} {ok : Int → Bool} {kf : Int → Int} {nn : Int → Nat} {w : World} {B b : Nat} {v : Value} {U : List Nat} {sh : Nat → Int} {T : Nat} {st : Nat → Int} {lf : Int} (h : Dv w B b v U sh st T lf) (hr : Rg U sh st (1000000 - nn lf)) : Adj sg ok kf nn w w B b v U sh T st lf st lf :=
  ⟨h, Chg.refl _ _, rfl, rfl, hr, rfl, Nat.le_refl _⟩

theorem Adj.step {sg : Int} {ok : Int → Bool} {kf : Int → Int} {nn : Int → Nat} {w wr w2 : World} {B b : Nat} {v : Value} {U : List Nat} {sh : Nat → Int} {T : Nat} {st : Nat → Int} {lf : Int} {st' : Nat → Int} {lf' : Int} {i q : Nat}
    (h : Adj sg ok kf nn w wr B b v U sh T st lf st' lf') (hp : pick (fun i => ok (st' i)) (fun i => kf (sh i - st' i * (T : Int))) U = some i) (hq : nn lf' = q + 1) (hq2 : nn (lf' - sg) = q) (hn : U.Nodup) (hlo : 0 ≤ st' i + sg) (hsg : sg ≤ 1)
    (hd : Dv w2 B b v U sh (fun a => if a = i then st' i + sg else st' a) T (lf' - sg)) (hc : Chg (Two b v) wr w2) :
    Adj sg ok kf nn w w2 B b v U sh T st lf (go1 sg ok kf sh T U st') (lf' - sg) := by
  have e1 : go1 sg ok kf sh T U st' = fun a => if a = i then st' a + sg else st' a := go1_of hp
  have e2 : go1 sg ok kf sh T U st' = fun a => if a = i then st' i + sg else st' a := by
    rw [e1]
    funext a
    by_cases h1 : a = i
    · rw [if_pos h1, if_pos h1, h1]
    · rw [if_neg h1, if_neg h1]
  have hi := (pick_some hp).2.1
  refine ⟨by rw [e2]; exact hd, h.chg.trans hc, ?_, ?_, ⟨h.rng.sh, fun a ha => ?_⟩, ?_, by have := h.mem; omega⟩
  · rw [hq2, ← h.todo, hq]; rfl
  · have h3 := h.lef
    rw [hq] at h3
    rw [hq2, ← h3, Int.natCast_add, Int.mul_add]
    omega
  · have h3 := h.rng.st a ha
    rw [hq] at h3
    rw [hq2, e2]
    show 0 ≤ (if a = i then st' i + sg else st' a) ∧ (if a = i then st' i + sg else st' a) ≤ _
    split
    · next h4 => subst h4; omega
    · omega
  · rw [e1, sm_upd hn hi]
    have := h.sum
    omega

/-- The states that nobody has, as the memory says. -/
def lfo (b : Nat) (W : World) : Int := intOf ((W.cell? ⟨b, 2, none⟩).getD undef)
theorem Dv.lfo {W : World} {B b : Nat} {v : Value} {U : List Nat} {sh st : Nat → Int} {t : Nat} {lf : Int} (h : Dv W B b v U sh st t lf) : lfo b W = lf := by
  unfold Go.Proofs.Ytkojdhmgefggjaa.lfo
  rw [h.c2]
  rfl

/-- A direction's block. -/
def Dir (W : World) (y : Nat) (sg : Int) (f1 f2 f3 : Value) : Prop := W.heap[y]? = some (.cells #[.int .i64 sg, f1, f2, f3] 60 (0, 0))
section
variable {W : World} {y : Nat} {sg : Int} {f1 f2 f3 : Value}
theorem Dir.c0 (h : Dir W y sg f1 f2 f3) : W.cell? ⟨y, 0, none⟩ = some (.int .i64 sg) := by rw [cell_of_row W y 0 _ _ _ h]; rfl
theorem Dir.c1 (h : Dir W y sg f1 f2 f3) : W.cell? ⟨y, 1, none⟩ = some f1 := by rw [cell_of_row W y 1 _ _ _ h]; rfl
theorem Dir.c2 (h : Dir W y sg f1 f2 f3) : W.cell? ⟨y, 2, none⟩ = some f2 := by rw [cell_of_row W y 2 _ _ _ h]; rfl
theorem Dir.c3 (h : Dir W y sg f1 f2 f3) : W.cell? ⟨y, 3, none⟩ = some f3 := by rw [cell_of_row W y 3 _ _ _ h]; rfl
theorem Dir.lt (h : Dir W y sg f1 f2 f3) : y < W.heap.size := (Array.getElem?_eq_some_iff.1 h).1
theorem Dir.same {W' : World} (h : Dir W y sg f1 f2 f3) (hb : W'.heap[y]? = W.heap[y]?) : Dir W' y sg f1 f2 f3 := hb.trans h
end

theorem Adj.drew {sg : Int} {ok : Int → Bool} {kf : Int → Int} {nn : Int → Nat} {w wr : World} {B b : Nat} {v : Value} {U : List Nat} {sh : Nat → Int} {T : Nat} {st : Nat → Int} {lf : Int} {st' : Nat → Int} {lf' : Int} (h : Adj sg ok kf nn w wr B b v U sh T st lf st' lf') : Adj sg ok kf nn w wr.drew B b v U sh T st lf st' lf' :=
  ⟨h.dv.drew, ⟨h.chg.os, h.chg.tape, h.chg.output, h.chg.size, h.chg.block⟩, h.todo, h.lef, h.rng, h.sum, h.mem⟩
theorem lfo_drew (b : Nat) (W : World) : lfo b W.drew = lfo b W := rfl
theorem Bst.found {ok : Nat → Bool} {key : Nat → Int} {U : List Nat} {n i : Nat} {r : Int} (h : Bst ok key U n r) (hU : U.length = n) (hp : pick ok key U = some i) : ∃ j : Nat, j < n ∧ r = (j : Int) ∧ U[j]? = some i := by
  unfold Bst at h
  rw [List.take_of_length_le (by omega)] at h
  rcases h with ⟨_, h2⟩ | ⟨j, a, h1, h2, h3, h4⟩
  · rw [h2] at hp; cases hp
  · rw [h4] at hp
    cases hp
    exact ⟨j, h1, h2, h3⟩

set_option maxRecDepth 100000 in
set_option maxHeartbeats 2000000 in
theorem adjust_up (w : World) (B b g n c : Nat) (U : List Nat) (sh st : Nat → Int) (T : Nat) (lf : Int) (bd : Nat) (hd : Dv w B b (.slice (some ⟨g, 0, none⟩) n c) U sh st T lf) (he : w.cell? ⟨bd, 0, none⟩ = some (.pointer (some ⟨b, 0, none⟩))) (hbd : bd ≠ b ∧ bd ≠ g) (hU : U.length = n) (hn0 : 0 < n) (hnb : n ≤ 512) (hnd : U.Nodup) (hT : T ≤ 1099511627776) (hr : Rg U sh st (1000000 - (lf).toNat)) (hlf : -262144 ≤ lf ∧ lf ≤ 262144) :
    Calls Try.prog 33 #[.pointer (some ⟨b, 0, none⟩), .agg #[.int .i64 1, (fv 34 #[]), (fv 35 #[]), (fv 32 #[.pointer (some ⟨bd, 0, none⟩)])]] w
      fun e w' => e = .returned (.tuple #[]) ∧ Dv w' B b (.slice (some ⟨g, 0, none⟩) n c) U sh (upN sh T U (lf).toNat st) T (lf - 1 * (lf).toNat) ∧ Chg (Two b (.slice (some ⟨g, 0, none⟩) n c)) w w' := by
  simp only [fv]
  have Y1 : Hid (Dir (w.alloc (.cells #[.int .i64 1, (fv 34 #[]), (fv 35 #[]), (fv 32 #[.pointer (some ⟨bd, 0, none⟩)])] 60)) w.heap.size 1 (fv 34 #[]) (fv 35 #[]) (fv 32 #[.pointer (some ⟨bd, 0, none⟩)])) := Lib.hid (World.alloc_heap_new w _)
  have G1 : Hid (Below w.heap.size w (w.alloc (.cells #[.int .i64 1, (fv 34 #[]), (fv 35 #[]), (fv 32 #[.pointer (some ⟨bd, 0, none⟩)])] 60))) := Lib.hid ((Below.refl _ w).alloc (Nat.le_refl _) _)
  simp only [fv] at Y1 G1
  have HD := Lib.hid hd
  have HE := Lib.hid he
  have HR := Lib.hid hr
  have HU := Lib.hid hU
  have HND := Lib.hid hnd
  have HBD := Lib.hid hbd
  clear hd he hr hU hnd hbd
  go_enter Try.func33, Try.ntmps33
  go_wp2
  generalize w.alloc (.cells #[.int .i64 1, (.func (Fn.func 34) #[] #[]), (.func (Fn.func 35) #[] #[]), (.func (Fn.func 32) #[] #[.pointer (some ⟨bd, 0, none⟩)])] 60) = w1 at Y1 G1 ⊢
  have A0 : Hid (Adj 1 upOk upKf (fun z => z.toNat) w1 w1 B b (.slice (some ⟨g, 0, none⟩) n c) U sh T st lf st lf) := Lib.hid (Adj.zero (HD.out.below G1.out) HR.out)
  have YB : Hid (w.heap.size ≠ b ∧ w.heap.size ≠ g) := Lib.hid ⟨by have := HD.out.lt; omega, by have : g < w.heap.size := own_lt3 HD.out.own rfl; omega⟩
  obtain ⟨y, hy⟩ : ∃ y, w.heap.size = y := ⟨_, rfl⟩
  rw [hy] at Y1 YB
  simp only [hy]
  have HY := Lib.hid hy
  clear hy
  go_loopw [4] (fun q wr => ∃ (st' : Nat → Int) (lf' : Int), Hid (Adj 1 upOk upKf (fun z => z.toNat) w1 wr B b (.slice (some ⟨g, 0, none⟩) n c) U sh T st lf st' lf')) (fun _ wr => (fun z => z.toNat) (lfo b wr))
  case atStart => exact ⟨st, lf, A0⟩
  case round =>
    obtain ⟨st', lf', HA⟩ := hrel
    clear A0
    have hlf' : -262144 ≤ lf' ∧ lf' ≤ 262144 := by have h1 := HA.out.lef; have h2 := HA.out.mem; (try dsimp only at h1 h2); omega
    have hde := HA.out.dv
    have hdy : Dir wr y 1 (.func (Fn.func 34) #[] #[]) (.func (Fn.func 35) #[] #[]) (.func (Fn.func 32) #[] #[.pointer (some ⟨bd, 0, none⟩)]) := Y1.out.same (HA.out.chg.block y Y1.out.lt (fun (e : _ ∨ _) => by rcases e with e | e; exact YB.out.1 e; injection e with e; exact YB.out.2 e.symm))
    have c0 := hde.c0
    have c2 := hde.c2
    have y1 := hdy.c1
    have y2 := hdy.c2
    have y3 := hdy.c3
    have HDY := Lib.hid hdy
    have HM := Lib.hid hde.lfo
    clear hde hdy
    by_cases hdue : 0 < lf'
    · have hdd : decide (0 < lf') = true := decide_eq_true hdue
      obtain ⟨i, hiU, hpk⟩ := up_pick (sh := sh) (t := (T : Int)) (U := U) (st := st') (fun e => by have := HU.out; rw [e] at this; simp at this; omega)
      have hstb := HA.out.rng.st i hiU
      (try dsimp only at hstb)
      have kbd : ∀ v, w.cell? ⟨bd, 0, none⟩ = some v → wr.cell? ⟨bd, 0, none⟩ = some v := fun v hv => by
        rw [World.cell?_of_block (HA.out.chg.block bd (Nat.lt_of_lt_of_le (cell_lt hv) G1.out.size) (fun (e : _ ∨ _) => by rcases e with e | e; exact HBD.out.1 e; injection e with e; exact HBD.out.2 e.symm)), World.cell?_of_block (G1.out.block bd (cell_lt hv))]; exact hv
      have HG : Hid (∀ W, W.heap = wr.heap → Calls Try.prog 41 #[(.slice (some ⟨g, 0, none⟩) n c), (.func (Fn.func 35) #[] #[]), (.func (Fn.func 32) #[] #[.pointer (some ⟨bd, 0, none⟩)])] W fun e w' => ∃ r, e = .returned (.int .i64 r) ∧ Bst (fun i => upOk (st' i)) (fun i => upKf (sh i - st' i * (T : Int))) U n r ∧ Below W.heap.size W w') := Lib.hid (fun W hW => by
        refine greatest_up W B g n c U sh st' bd b T (by have := own_same3 (W' := W) HA.out.dv.own (fun g' _ => by rw [hW]); rwa [HU.out] at this) HU.out hnb ⟨?_, ?_⟩ hT ⟨HA.out.rng.sh, fun i hi => ?_⟩
        · rw [World.cell?_of_block (w' := W) (w := wr) (by rw [hW])]; exact kbd _ HE.out
        · rw [World.cell?_of_block (w' := W) (w := wr) (by rw [hW])]; exact HA.out.dv.c1
        · have := HA.out.rng.st i hi; (try dsimp only at this); omega)
      obtain ⟨x, hx⟩ : ∃ x, st' i = x := ⟨_, rfl⟩
      rw [hx] at hstb
      have HX := Lib.hid hx
      have HPK := Lib.hid hpk
      clear hx hpk kbd
      go_wp2
      go_region_held3 (fun W => W.cell? ⟨y, 1, none⟩ = some (.func (Fn.func 34) #[] #[]) ∧ W.cell? ⟨b, 2, none⟩ = some (.int .i64 lf')) (first | exact ⟨y1, c2⟩) (first
        | (go_at_call 34; refine (due_up _ _).mono ?_; rintro e wq ⟨rfl, rfl⟩))
      go_wp2
      go_region_held3 (fun W => W.cell? ⟨b, 0, none⟩ = some (.slice (some ⟨g, 0, none⟩) n c) ∧ W.cell? ⟨y, 2, none⟩ = some (.func (Fn.func 35) #[] #[]) ∧ W.cell? ⟨y, 3, none⟩ = some (.func (Fn.func 32) #[] #[.pointer (some ⟨bd, 0, none⟩)])) (first | exact ⟨c0, y2, y3⟩ | exact ⟨d0, z2, z3⟩) (first
        | (go_at_call 41; refine (HG.out wr.drew.drew rfl).mono ?_; rintro e wd ⟨r, rfl, hbst, hq⟩; have hbd : Below wr.heap.size wr wd := ⟨hq.os, hq.tape, hq.output, hq.size, hq.block⟩; have hdv := HA.out.dv.below hbd; have hdy := HDY.out.same (hbd.block _ HDY.out.lt); have d0 := hdv.c0; have z2 := hdy.c2; have z3 := hdy.c3; have DD := Lib.hid hdv; have DY := Lib.hid hdy; have BD := Lib.hid hbd; have BST := Lib.hid hbst; clear hq hbd hdv hdy hbst))
      obtain ⟨j, hjn, rfl, hji⟩ := BST.out.found HU.out HPK.out
      have ow := DD.out.own
      rw [HU.out] at ow
      have hcs : wd.cell? ⟨g, j * 3 + 2, none⟩ = some (.int .i64 x) := by rw [ow.cellAt _ (by omega), (flat_get hji).2.2, HX.out]
      have hfs := ow.frozenAt (j * 3 + 2)
      clear ow
      have z0 := DY.out.c0
      obtain ⟨W1, hW1⟩ : ∃ W1, wd.setCell ⟨g, j * 3 + 2, none⟩ (.int .i64 (x + 1)) = W1 := ⟨_, rfl⟩
      have D1 : Hid (Dv W1 B b (.slice (some ⟨g, 0, none⟩) n c) U sh (fun a => if a = i then st' i + 1 else st' a) T lf') := Lib.hid (by rw [← hW1, HX.out]; exact DD.out.setst HU.out HND.out hji _)
      have Y2 : Hid (Dir W1 y 1 (.func (Fn.func 34) #[] #[]) (.func (Fn.func 35) #[] #[]) (.func (Fn.func 32) #[] #[.pointer (some ⟨bd, 0, none⟩)])) := Lib.hid (DY.out.same (by rw [← hW1]; exact Below.heap_setCell _ ⟨g, j * 3 + 2, none⟩ _ _ YB.out.2))
      have u2 := D1.out.c2
      have uf := D1.out.free 2
      have u0 := Y2.out.c0
      have HC : Hid (Chg (Two b (.slice (some ⟨g, 0, none⟩) n c)) wr (W1.setCell ⟨b, 2, none⟩ (.int .i64 (lf' - 1)))) := Lib.hid (by
        refine Chg.set ?_ ⟨b, 2, none⟩ (.inl rfl) _
        rw [← hW1]
        exact Chg.set (Chg.of_below BD.out) ⟨g, j * 3 + 2, none⟩ (.inr rfl) _)
      have HN : Hid ((fun z => z.toNat) (lfo b (W1.setCell ⟨b, 2, none⟩ (.int .i64 (lf' - 1)))) < (fun z => z.toNat) (lfo b wr)) := Lib.hid (by rw [(D1.out.set2 (lf' - 1)).lfo, HM.out]; (try dsimp only); omega)
      have HS : Hid (Adj 1 upOk upKf (fun z => z.toNat) w1 (W1.setCell ⟨b, 2, none⟩ (.int .i64 (lf' - 1))) B b (.slice (some ⟨g, 0, none⟩) n c) U sh T st lf (go1 1 upOk upKf sh T U st') (lf' - 1)) :=
        Lib.hid (HA.out.step (q := (lf').toNat - 1) HPK.out (by (try dsimp only); omega) (by (try dsimp only); omega) HND.out (by rw [HX.out]; omega) (by omega) (D1.out.set2 _) HC.out)
      clear BST HA HG hji HPK HM D1 Y2 HC DD DY BD
      go_wp2
      go_region
      all_goals
        go_wp2
        go_region
        all_goals
          go_wp2
          exact ⟨⟨_, _, Lib.hid HS.out.drew.drew⟩, HN.out⟩
    · have hdd : decide (0 < lf') = false := decide_eq_false hdue
      have HZ : Hid ((lf').toNat = 0) := Lib.hid (by omega)
      go_wp2
      go_region_held3 (fun W => W.cell? ⟨y, 1, none⟩ = some (.func (Fn.func 34) #[] #[]) ∧ W.cell? ⟨b, 2, none⟩ = some (.int .i64 lf')) (first | exact ⟨y1, c2⟩) (first
        | (go_at_call 34; refine (due_up _ _).mono ?_; rintro e wq ⟨rfl, rfl⟩))
      go_wp2
      go_end0
      have h1 := HA.out.todo
      have h2 := HA.out.lef
      have h3 := HA.out.dv
      have hz := HZ.out
      (try dsimp only at h1 h2)
      rw [hz] at h1 h2
      have e1 : st' = upN sh T U (lf).toNat st := h1
      have e2 : lf' = lf - 1 * (lf).toNat := by rw [← h2]; simp
      refine ⟨rfl, ?_, ((Chg.of_below G1.out).trans HA.out.chg).drew 1⟩
      rw [← e1, ← e2]
      exact h3.drew


set_option maxRecDepth 100000 in
set_option maxHeartbeats 2000000 in
theorem adjust_dn (w : World) (B b g n c : Nat) (U : List Nat) (sh st : Nat → Int) (T : Nat) (lf : Int) (bl bd : Nat) (hd : Dv w B b (.slice (some ⟨g, 0, none⟩) n c) U sh st T lf) (he : w.cell? ⟨bd, 0, none⟩ = some (.pointer (some ⟨b, 0, none⟩))) (hbd : bd ≠ b ∧ bd ≠ g) (hl : w.cell? ⟨bl, 0, none⟩ = some (.func (Fn.func 32) #[] #[.pointer (some ⟨bd, 0, none⟩)])) (hbl : bl ≠ b ∧ bl ≠ g) (hsm : (n : Int) ≤ sm st U + lf) (hU : U.length = n) (hnb : n ≤ 512) (hnd : U.Nodup) (hT : T ≤ 1099511627776) (hr : Rg U sh st (1000000 - (-(lf)).toNat)) (hlf : -262144 ≤ lf ∧ lf ≤ 262144) :
    Calls Try.prog 33 #[.pointer (some ⟨b, 0, none⟩), .agg #[.int .i64 (-1), (fv 36 #[]), (fv 37 #[]), (fv 38 #[.pointer (some ⟨bl, 0, none⟩)])]] w
      fun e w' => e = .returned (.tuple #[]) ∧ Dv w' B b (.slice (some ⟨g, 0, none⟩) n c) U sh (dnN sh T U (-(lf)).toNat st) T (lf - (-1) * (-(lf)).toNat) ∧ Chg (Two b (.slice (some ⟨g, 0, none⟩) n c)) w w' := by
  simp only [fv]
  have Y1 : Hid (Dir (w.alloc (.cells #[.int .i64 (-1), (fv 36 #[]), (fv 37 #[]), (fv 38 #[.pointer (some ⟨bl, 0, none⟩)])] 60)) w.heap.size (-1) (fv 36 #[]) (fv 37 #[]) (fv 38 #[.pointer (some ⟨bl, 0, none⟩)])) := Lib.hid (World.alloc_heap_new w _)
  have G1 : Hid (Below w.heap.size w (w.alloc (.cells #[.int .i64 (-1), (fv 36 #[]), (fv 37 #[]), (fv 38 #[.pointer (some ⟨bl, 0, none⟩)])] 60))) := Lib.hid ((Below.refl _ w).alloc (Nat.le_refl _) _)
  simp only [fv] at Y1 G1
  have HD := Lib.hid hd
  have HE := Lib.hid he
  have HR := Lib.hid hr
  have HU := Lib.hid hU
  have HND := Lib.hid hnd
  have HBD := Lib.hid hbd
  have HL := Lib.hid hl
  have HBL := Lib.hid hbl
  have HSM := Lib.hid hsm
  clear hl hbl hsm
  clear hd he hr hU hnd hbd
  go_enter Try.func33, Try.ntmps33
  go_wp2
  generalize w.alloc (.cells #[.int .i64 (-1), (.func (Fn.func 36) #[] #[]), (.func (Fn.func 37) #[] #[]), (.func (Fn.func 38) #[] #[.pointer (some ⟨bl, 0, none⟩)])] 60) = w1 at Y1 G1 ⊢
  have A0 : Hid (Adj (-1) dnOk dnKf (fun z => (-z).toNat) w1 w1 B b (.slice (some ⟨g, 0, none⟩) n c) U sh T st lf st lf) := Lib.hid (Adj.zero (HD.out.below G1.out) HR.out)
  have YB : Hid (w.heap.size ≠ b ∧ w.heap.size ≠ g) := Lib.hid ⟨by have := HD.out.lt; omega, by have : g < w.heap.size := own_lt3 HD.out.own rfl; omega⟩
  obtain ⟨y, hy⟩ : ∃ y, w.heap.size = y := ⟨_, rfl⟩
  rw [hy] at Y1 YB
  simp only [hy]
  have HY := Lib.hid hy
  clear hy
  go_loopw [4] (fun q wr => ∃ (st' : Nat → Int) (lf' : Int), Hid (Adj (-1) dnOk dnKf (fun z => (-z).toNat) w1 wr B b (.slice (some ⟨g, 0, none⟩) n c) U sh T st lf st' lf')) (fun _ wr => (fun z => (-z).toNat) (lfo b wr))
  case atStart => exact ⟨st, lf, A0⟩
  case round =>
    obtain ⟨st', lf', HA⟩ := hrel
    clear A0
    have hlf' : -262144 ≤ lf' ∧ lf' ≤ 262144 := by have h1 := HA.out.lef; have h2 := HA.out.mem; (try dsimp only at h1 h2); omega
    have hde := HA.out.dv
    have hdy : Dir wr y (-1) (.func (Fn.func 36) #[] #[]) (.func (Fn.func 37) #[] #[]) (.func (Fn.func 38) #[] #[.pointer (some ⟨bl, 0, none⟩)]) := Y1.out.same (HA.out.chg.block y Y1.out.lt (fun (e : _ ∨ _) => by rcases e with e | e; exact YB.out.1 e; injection e with e; exact YB.out.2 e.symm))
    have c0 := hde.c0
    have c2 := hde.c2
    have y1 := hdy.c1
    have y2 := hdy.c2
    have y3 := hdy.c3
    have HDY := Lib.hid hdy
    have HM := Lib.hid hde.lfo
    clear hde hdy
    by_cases hdue : lf' < 0
    · have hdd : decide (lf' < 0) = true := decide_eq_true hdue
      obtain ⟨i, hiU, hi1, hpk⟩ := dn_pick (sh := sh) (t := (T : Int)) (U := U) (st := st') (by rw [HU.out]; have h1 := HA.out.sum; have h2 := HSM.out; omega)
      have hstb := HA.out.rng.st i hiU
      (try dsimp only at hstb)
      have kbd : ∀ v, w.cell? ⟨bd, 0, none⟩ = some v → wr.cell? ⟨bd, 0, none⟩ = some v := fun v hv => by
        rw [World.cell?_of_block (HA.out.chg.block bd (Nat.lt_of_lt_of_le (cell_lt hv) G1.out.size) (fun (e : _ ∨ _) => by rcases e with e | e; exact HBD.out.1 e; injection e with e; exact HBD.out.2 e.symm)), World.cell?_of_block (G1.out.block bd (cell_lt hv))]; exact hv
      have kbl : ∀ v, w.cell? ⟨bl, 0, none⟩ = some v → wr.cell? ⟨bl, 0, none⟩ = some v := fun v hv => by
        rw [World.cell?_of_block (HA.out.chg.block bl (Nat.lt_of_lt_of_le (cell_lt hv) G1.out.size) (fun (e : _ ∨ _) => by rcases e with e | e; exact HBL.out.1 e; injection e with e; exact HBL.out.2 e.symm)), World.cell?_of_block (G1.out.block bl (cell_lt hv))]; exact hv
      have HG : Hid (∀ W, W.heap = wr.heap → Calls Try.prog 41 #[(.slice (some ⟨g, 0, none⟩) n c), (.func (Fn.func 37) #[] #[]), (.func (Fn.func 38) #[] #[.pointer (some ⟨bl, 0, none⟩)])] W fun e w' => ∃ r, e = .returned (.int .i64 r) ∧ Bst (fun i => dnOk (st' i)) (fun i => dnKf (sh i - st' i * (T : Int))) U n r ∧ Below W.heap.size W w') := Lib.hid (fun W hW => by
        refine greatest_dn W B g n c U sh st' bl bd b T (by rw [World.cell?_of_block (w' := W) (w := wr) (by rw [hW])]; exact kbl _ HL.out) (by have := own_same3 (W' := W) HA.out.dv.own (fun g' _ => by rw [hW]); rwa [HU.out] at this) HU.out hnb ⟨?_, ?_⟩ hT ⟨HA.out.rng.sh, fun i hi => ?_⟩
        · rw [World.cell?_of_block (w' := W) (w := wr) (by rw [hW])]; exact kbd _ HE.out
        · rw [World.cell?_of_block (w' := W) (w := wr) (by rw [hW])]; exact HA.out.dv.c1
        · have := HA.out.rng.st i hi; (try dsimp only at this); omega)
      obtain ⟨x, hx⟩ : ∃ x, st' i = x := ⟨_, rfl⟩
      rw [hx] at hstb hi1
      have HX := Lib.hid hx
      have HPK := Lib.hid hpk
      clear hx hpk kbd kbl
      go_wp2
      go_region_held3 (fun W => W.cell? ⟨y, 1, none⟩ = some (.func (Fn.func 36) #[] #[]) ∧ W.cell? ⟨b, 2, none⟩ = some (.int .i64 lf')) (first | exact ⟨y1, c2⟩) (first
        | (go_at_call 36; refine (due_dn _ _).mono ?_; rintro e wq ⟨rfl, rfl⟩))
      go_wp2
      go_region_held3 (fun W => W.cell? ⟨b, 0, none⟩ = some (.slice (some ⟨g, 0, none⟩) n c) ∧ W.cell? ⟨y, 2, none⟩ = some (.func (Fn.func 37) #[] #[]) ∧ W.cell? ⟨y, 3, none⟩ = some (.func (Fn.func 38) #[] #[.pointer (some ⟨bl, 0, none⟩)])) (first | exact ⟨c0, y2, y3⟩ | exact ⟨d0, z2, z3⟩) (first
        | (go_at_call 41; refine (HG.out wr.drew.drew rfl).mono ?_; rintro e wd ⟨r, rfl, hbst, hq⟩; have hbd : Below wr.heap.size wr wd := ⟨hq.os, hq.tape, hq.output, hq.size, hq.block⟩; have hdv := HA.out.dv.below hbd; have hdy := HDY.out.same (hbd.block _ HDY.out.lt); have d0 := hdv.c0; have z2 := hdy.c2; have z3 := hdy.c3; have DD := Lib.hid hdv; have DY := Lib.hid hdy; have BD := Lib.hid hbd; have BST := Lib.hid hbst; clear hq hbd hdv hdy hbst))
      obtain ⟨j, hjn, rfl, hji⟩ := BST.out.found HU.out HPK.out
      have ow := DD.out.own
      rw [HU.out] at ow
      have hcs : wd.cell? ⟨g, j * 3 + 2, none⟩ = some (.int .i64 x) := by rw [ow.cellAt _ (by omega), (flat_get hji).2.2, HX.out]
      have hfs := ow.frozenAt (j * 3 + 2)
      clear ow
      have z0 := DY.out.c0
      obtain ⟨W1, hW1⟩ : ∃ W1, wd.setCell ⟨g, j * 3 + 2, none⟩ (.int .i64 (x + (-1))) = W1 := ⟨_, rfl⟩
      have D1 : Hid (Dv W1 B b (.slice (some ⟨g, 0, none⟩) n c) U sh (fun a => if a = i then st' i + (-1) else st' a) T lf') := Lib.hid (by rw [← hW1, HX.out]; exact DD.out.setst HU.out HND.out hji _)
      have Y2 : Hid (Dir W1 y (-1) (.func (Fn.func 36) #[] #[]) (.func (Fn.func 37) #[] #[]) (.func (Fn.func 38) #[] #[.pointer (some ⟨bl, 0, none⟩)])) := Lib.hid (DY.out.same (by rw [← hW1]; exact Below.heap_setCell _ ⟨g, j * 3 + 2, none⟩ _ _ YB.out.2))
      have u2 := D1.out.c2
      have uf := D1.out.free 2
      have u0 := Y2.out.c0
      have HC : Hid (Chg (Two b (.slice (some ⟨g, 0, none⟩) n c)) wr (W1.setCell ⟨b, 2, none⟩ (.int .i64 (lf' - (-1))))) := Lib.hid (by
        refine Chg.set ?_ ⟨b, 2, none⟩ (.inl rfl) _
        rw [← hW1]
        exact Chg.set (Chg.of_below BD.out) ⟨g, j * 3 + 2, none⟩ (.inr rfl) _)
      have HN : Hid ((fun z => (-z).toNat) (lfo b (W1.setCell ⟨b, 2, none⟩ (.int .i64 (lf' - (-1))))) < (fun z => (-z).toNat) (lfo b wr)) := Lib.hid (by rw [(D1.out.set2 (lf' - (-1))).lfo, HM.out]; (try dsimp only); omega)
      have HS : Hid (Adj (-1) dnOk dnKf (fun z => (-z).toNat) w1 (W1.setCell ⟨b, 2, none⟩ (.int .i64 (lf' - (-1)))) B b (.slice (some ⟨g, 0, none⟩) n c) U sh T st lf (go1 (-1) dnOk dnKf sh T U st') (lf' - (-1))) :=
        Lib.hid (HA.out.step (q := (-(lf')).toNat - 1) HPK.out (by (try dsimp only); omega) (by (try dsimp only); omega) HND.out (by rw [HX.out]; omega) (by omega) (D1.out.set2 _) HC.out)
      clear BST HA HG hji HPK HM D1 Y2 HC DD DY BD
      go_wp2
      go_region
      all_goals
        go_wp2
        go_region
        all_goals
          go_wp2
          exact ⟨⟨_, _, Lib.hid HS.out.drew.drew⟩, HN.out⟩
    · have hdd : decide (lf' < 0) = false := decide_eq_false hdue
      have HZ : Hid ((-(lf')).toNat = 0) := Lib.hid (by omega)
      go_wp2
      go_region_held3 (fun W => W.cell? ⟨y, 1, none⟩ = some (.func (Fn.func 36) #[] #[]) ∧ W.cell? ⟨b, 2, none⟩ = some (.int .i64 lf')) (first | exact ⟨y1, c2⟩) (first
        | (go_at_call 36; refine (due_dn _ _).mono ?_; rintro e wq ⟨rfl, rfl⟩))
      go_wp2
      go_end0
      have h1 := HA.out.todo
      have h2 := HA.out.lef
      have h3 := HA.out.dv
      have hz := HZ.out
      (try dsimp only at h1 h2)
      rw [hz] at h1 h2
      have e1 : st' = dnN sh T U (-(lf)).toNat st := h1
      have e2 : lf' = lf - (-1) * (-(lf)).toNat := by rw [← h2]; simp
      refine ⟨rfl, ?_, ((Chg.of_below G1.out).trans HA.out.chg).drew 1⟩
      rw [← e1, ← e2]
      exact h3.drew


end Go.Proofs.Ytkojdhmgefggjaa
