/-
  What division.adjust does with the two directions of division.settle: one state after the other is given or taken. Nothing but the division's blocks and new memory changes. Condition: the numbers are in their ranges.
  What division.settle does: states are given or taken one at a time until all are given and none is given twice. Nothing but the division's blocks and new memory changes. Condition: the numbers are in their ranges; not more symbols than states.
  What division.norms does: the norms of the symbols up to the last one that occurs, in new memory. Nothing that was there has changed. Condition: the division is settled; its last symbol is its greatest.
  What norm.Normalize does: it returns the normalized table of valid counts, its norms in new memory, or the error. Nothing that was there has changed. Condition: at most 1000000 counts.
  What norm.Normalize does: it returns the normalized table of valid counts, its norms in new memory, or the error. Nothing that was there has changed. Condition: at most 1000000 counts.
-/
import Derived.Test.YtnlhokfhkohdpaaGreatNb
namespace Go.Proofs.YtnlhokfhkohdpaaGreat.No
open Go.RowKit Go.Shelf

theorem Dv.setst {W : World} {B b g n c : Nat} {U : List Nat} {sh st : Nat → Int} {t : Nat} {lf : Int} (h : Dv W B b (.slice (some ⟨g, 0, none⟩) n c) U sh st t lf) (hU : U.length = n) (hn : U.Nodup) {j i : Nat} (hj : U[j]? = some i) (y : Int) :
    Dv (W.setCell ⟨g, j * 3 + 2, none⟩ (.int .i64 y)) B b (.slice (some ⟨g, 0, none⟩) n c) U sh (fun a => if a = i then y else st a) t lf := by
  have hgb : b ≠ g := fun e => h.off (by rw [e]; rfl)
  subst hU
  refine ⟨(Below.heap_setCell W ⟨g, j * 3 + 2, none⟩ _ b hgb).trans h.blk, ?_, h.low, h.off⟩
  rw [← flat_set hn hj]
  exact (h.own.stored (j * 3 + 2) _).1

/-- The two blocks of a division. -/
abbrev Two (b : Nat) (v : Value) : Nat → Prop := fun x => x = b ∨ v.ownBlock = some x

/-- A division on its way from st, lf: what is still to do leads to the same end. -/
structure Adj (sg : Int) (ok : Int → Bool) (kf : Int → Int) (nn : Int → Nat) (w wr : World) (B b : Nat) (v : Value) (U : List Nat) (sh : Nat → Int) (T : Nat) (st : Nat → Int) (lf : Int) (st' : Nat → Int) (lf' : Int) : Prop where
  dv : Dv wr B b v U sh st' T lf'
  chg : Chg (Two b v) w wr
  todo : goN sg ok kf sh T U (nn lf') st' = goN sg ok kf sh T U (nn lf) st
  lef : lf' - sg * nn lf' = lf - sg * nn lf
  rng : Rg U sh st' (1000000 - nn lf')
  sum : sm st' U + lf' = sm st U + lf
  mem : nn lf' ≤ nn lf

theorem Adj.zero {sg : Int} {ok : Int → Bool} {kf : Int → Int} {nn : Int → Nat} {w : World} {B b : Nat} {v : Value} {U : List Nat} {sh : Nat → Int} {T : Nat} {st : Nat → Int} {lf : Int} (h : Dv w B b v U sh st T lf) (hr : Rg U sh st (1000000 - nn lf)) : Adj sg ok kf nn w w B b v U sh T st lf st lf :=
  ⟨h, Chg.refl _ _, rfl, rfl, hr, rfl, Nat.le_refl _⟩

theorem Adj.step {sg : Int} {ok : Int → Bool} {kf : Int → Int} {nn : Int → Nat} {w wr w2 : World} {B b : Nat} {v : Value} {U : List Nat} {sh : Nat → Int} {T : Nat} {st : Nat → Int} {lf : Int} {st' : Nat → Int} {lf' : Int} {i q : Nat}
    (h : Adj sg ok kf nn w wr B b v U sh T st lf st' lf') (hp : pick (fun i => ok (st' i)) (fun i => kf (sh i - st' i * (T : Int))) U = some i) (hq : nn lf' = q + 1) (hq2 : nn (lf' - sg) = q) (hn : U.Nodup) (hlo : 0 ≤ st' i + sg) (hsg : sg ≤ 1)
    (hd : Dv w2 B b v U sh (fun a => if a = i then st' i + sg else st' a) T (lf' - sg)) (hc : Chg (Two b v) wr w2) :
    Adj sg ok kf nn w w2 B b v U sh T st lf (go1 sg ok kf sh T U st') (lf' - sg) := by
  have e1 : go1 sg ok kf sh T U st' = fun a => if a = i then st' a + sg else st' a := go1_of hp
  have e2 : go1 sg ok kf sh T U st' = fun a => if a = i then st' i + sg else st' a := by
    rw [e1]
    funext a
    by_cases h1 : a = i
    · rw [if_pos h1, if_pos h1, h1]
    · rw [if_neg h1, if_neg h1]
  have hi := (pick_some hp).2.1
  refine ⟨by rw [e2]; exact hd, h.chg.trans hc, ?_, ?_, ⟨h.rng.sh, fun a ha => ?_⟩, ?_, by have := h.mem; omega⟩
  · rw [hq2, ← h.todo, hq]; rfl
  · have h3 := h.lef
    rw [hq] at h3
    rw [hq2, ← h3, Int.natCast_add, Int.mul_add]
    omega
  · have h3 := h.rng.st a ha
    rw [hq] at h3
    rw [hq2, e2]
    show 0 ≤ (if a = i then st' i + sg else st' a) ∧ (if a = i then st' i + sg else st' a) ≤ _
    split
    · next h4 => subst h4; omega
    · omega
  · rw [e1, sm_upd hn hi]
    have := h.sum
    omega

/-- The states that nobody has, as the memory says. -/
def lfo (b : Nat) (W : World) : Int := intOf ((W.cell? ⟨b, 2, none⟩).getD undef)
theorem Dv.lfo {W : World} {B b : Nat} {v : Value} {U : List Nat} {sh st : Nat → Int} {t : Nat} {lf : Int} (h : Dv W B b v U sh st t lf) : lfo b W = lf := by
  unfold Go.Proofs.YtnlhokfhkohdpaaGreat.No.lfo
  rw [h.c2]
  rfl

/-- A direction's block. -/
def Dir (W : World) (y : Nat) (sg : Int) (f1 f2 f3 : Value) : Prop := W.heap[y]? = some (.cells #[.int .i64 sg, f1, f2, f3] 107 (0, 0))
section
variable {W : World} {y : Nat} {sg : Int} {f1 f2 f3 : Value}
theorem Dir.c0 (h : Dir W y sg f1 f2 f3) : W.cell? ⟨y, 0, none⟩ = some (.int .i64 sg) := by rw [cell_of_row W y 0 _ _ _ h]; rfl
theorem Dir.c1 (h : Dir W y sg f1 f2 f3) : W.cell? ⟨y, 1, none⟩ = some f1 := by rw [cell_of_row W y 1 _ _ _ h]; rfl
theorem Dir.c2 (h : Dir W y sg f1 f2 f3) : W.cell? ⟨y, 2, none⟩ = some f2 := by rw [cell_of_row W y 2 _ _ _ h]; rfl
theorem Dir.c3 (h : Dir W y sg f1 f2 f3) : W.cell? ⟨y, 3, none⟩ = some f3 := by rw [cell_of_row W y 3 _ _ _ h]; rfl
theorem Dir.lt (h : Dir W y sg f1 f2 f3) : y < W.heap.size := (Array.getElem?_eq_some_iff.1 h).1
theorem Dir.same {W' : World} (h : Dir W y sg f1 f2 f3) (hb : W'.heap[y]? = W.heap[y]?) : Dir W' y sg f1 f2 f3 := hb.trans h
end

theorem Adj.drew {sg : Int} {ok : Int → Bool} {kf : Int → Int} {nn : Int → Nat} {w wr : World} {B b : Nat} {v : Value} {U : List Nat} {sh : Nat → Int} {T : Nat} {st : Nat → Int} {lf : Int} {st' : Nat → Int} {lf' : Int} (h : Adj sg ok kf nn w wr B b v U sh T st lf st' lf') : Adj sg ok kf nn w wr.drew B b v U sh T st lf st' lf' :=
  ⟨h.dv.drew, ⟨h.chg.os, h.chg.tape, h.chg.output, h.chg.size, h.chg.block⟩, h.todo, h.lef, h.rng, h.sum, h.mem⟩
theorem lfo_drew (b : Nat) (W : World) : lfo b W.drew = lfo b W := rfl
theorem Bst.found {ok : Nat → Bool} {key : Nat → Int} {U : List Nat} {n i : Nat} {r : Int} (h : Bst ok key U n r) (hU : U.length = n) (hp : pick ok key U = some i) : ∃ j : Nat, j < n ∧ r = (j : Int) ∧ U[j]? = some i := by
  unfold Bst at h
  rw [List.take_of_length_le (by omega)] at h
  rcases h with ⟨_, h2⟩ | ⟨j, a, h1, h2, h3, h4⟩
  · rw [h2] at hp; cases hp
  · rw [h4] at hp
    cases hp
    exact ⟨j, h1, h2, h3⟩

set_option maxRecDepth 100000 in
set_option maxHeartbeats 2000000 in
theorem adjust_up (w : World) (B b g n c : Nat) (U : List Nat) (sh st : Nat → Int) (T : Nat) (lf : Int) (bd : Nat) (hd : Dv w B b (.slice (some ⟨g, 0, none⟩) n c) U sh st T lf) (he : w.cell? ⟨bd, 0, none⟩ = some (.pointer (some ⟨b, 0, none⟩))) (hbd : bd ≠ b ∧ bd ≠ g) (hU : U.length = n) (hn0 : 0 < n) (hnb : n ≤ 512) (hnd : U.Nodup) (hT : T ≤ 1099511627776) (hr : Rg U sh st (1000000 - (lf).toNat)) (hlf : -262144 ≤ lf ∧ lf ≤ 262144) :
    Calls Tryz.prog 44 #[.pointer (some ⟨b, 0, none⟩), .agg #[.int .i64 1, (fv 45 #[]), (fv 46 #[]), (fv 43 #[.pointer (some ⟨bd, 0, none⟩)])]] w
      fun e w' => e = .returned (.tuple #[]) ∧ Dv w' B b (.slice (some ⟨g, 0, none⟩) n c) U sh (upN sh T U (lf).toNat st) T (lf - 1 * (lf).toNat) ∧ Chg (Two b (.slice (some ⟨g, 0, none⟩) n c)) w w' := by
  simp only [fv]
  have Y1 : Hid (Dir (w.alloc (.cells #[.int .i64 1, (fv 45 #[]), (fv 46 #[]), (fv 43 #[.pointer (some ⟨bd, 0, none⟩)])] 107)) w.heap.size 1 (fv 45 #[]) (fv 46 #[]) (fv 43 #[.pointer (some ⟨bd, 0, none⟩)])) := Lib.hid (World.alloc_heap_new w _)
  have G1 : Hid (Below w.heap.size w (w.alloc (.cells #[.int .i64 1, (fv 45 #[]), (fv 46 #[]), (fv 43 #[.pointer (some ⟨bd, 0, none⟩)])] 107))) := Lib.hid ((Below.refl _ w).alloc (Nat.le_refl _) _)
  simp only [fv] at Y1 G1
  have HD := Lib.hid hd
  have HE := Lib.hid he
  have HR := Lib.hid hr
  have HU := Lib.hid hU
  have HND := Lib.hid hnd
  have HBD := Lib.hid hbd
  clear hd he hr hU hnd hbd
  go_enter Tryz.func44, Tryz.ntmps44
  go_wp2
  generalize w.alloc (.cells #[.int .i64 1, (.func (Fn.func 45) #[] #[]), (.func (Fn.func 46) #[] #[]), (.func (Fn.func 43) #[] #[.pointer (some ⟨bd, 0, none⟩)])] 107) = w1 at Y1 G1 ⊢
  have A0 : Hid (Adj 1 upOk upKf (fun z => z.toNat) w1 w1 B b (.slice (some ⟨g, 0, none⟩) n c) U sh T st lf st lf) := Lib.hid (Adj.zero (HD.out.below G1.out) HR.out)
  have YB : Hid (w.heap.size ≠ b ∧ w.heap.size ≠ g) := Lib.hid ⟨by have := HD.out.lt; omega, by have : g < w.heap.size := own_lt3 HD.out.own rfl; omega⟩
  obtain ⟨y, hy⟩ : ∃ y, w.heap.size = y := ⟨_, rfl⟩
  rw [hy] at Y1 YB
  simp only [hy]
  have HY := Lib.hid hy
  clear hy
  go_loopw [4] (fun q wr => ∃ (st' : Nat → Int) (lf' : Int), Hid (Adj 1 upOk upKf (fun z => z.toNat) w1 wr B b (.slice (some ⟨g, 0, none⟩) n c) U sh T st lf st' lf')) (fun _ wr => (fun z => z.toNat) (lfo b wr))
  case atStart => exact ⟨st, lf, A0⟩
  case round =>
    obtain ⟨st', lf', HA⟩ := hrel
    clear A0
    have hlf' : -262144 ≤ lf' ∧ lf' ≤ 262144 := by have h1 := HA.out.lef; have h2 := HA.out.mem; (try dsimp only at h1 h2); omega
    have hde := HA.out.dv
    have hdy : Dir wr y 1 (.func (Fn.func 45) #[] #[]) (.func (Fn.func 46) #[] #[]) (.func (Fn.func 43) #[] #[.pointer (some ⟨bd, 0, none⟩)]) := Y1.out.same (HA.out.chg.block y Y1.out.lt (fun (e : _ ∨ _) => by rcases e with e | e; exact YB.out.1 e; injection e with e; exact YB.out.2 e.symm))
    have c0 := hde.c0
    have c2 := hde.c2
    have y1 := hdy.c1
    have y2 := hdy.c2
    have y3 := hdy.c3
    have HDY := Lib.hid hdy
    have HM := Lib.hid hde.lfo
    clear hde hdy
    by_cases hdue : 0 < lf'
    · have hdd : decide (0 < lf') = true := decide_eq_true hdue
      obtain ⟨i, hiU, hpk⟩ := up_pick (sh := sh) (t := (T : Int)) (U := U) (st := st') (fun e => by have := HU.out; rw [e] at this; simp at this; omega)
      have hstb := HA.out.rng.st i hiU
      (try dsimp only at hstb)
      have kbd : ∀ v, w.cell? ⟨bd, 0, none⟩ = some v → wr.cell? ⟨bd, 0, none⟩ = some v := fun v hv => by
        rw [World.cell?_of_block (HA.out.chg.block bd (Nat.lt_of_lt_of_le (cell_lt hv) G1.out.size) (fun (e : _ ∨ _) => by rcases e with e | e; exact HBD.out.1 e; injection e with e; exact HBD.out.2 e.symm)), World.cell?_of_block (G1.out.block bd (cell_lt hv))]; exact hv
      have HG : Hid (∀ W, W.heap = wr.heap → Calls Tryz.prog 78 #[(.slice (some ⟨g, 0, none⟩) n c), (.func (Fn.func 46) #[] #[]), (.func (Fn.func 43) #[] #[.pointer (some ⟨bd, 0, none⟩)])] W fun e w' => ∃ r, e = .returned (.int .i64 r) ∧ Bst (fun i => upOk (st' i)) (fun i => upKf (sh i - st' i * (T : Int))) U n r ∧ Below W.heap.size W w') := Lib.hid (fun W hW => by
        refine greatest_up W B g n c U sh st' bd b T (by have := own_same3 (W' := W) HA.out.dv.own (fun g' _ => by rw [hW]); rwa [HU.out] at this) HU.out hnb ⟨?_, ?_⟩ hT ⟨HA.out.rng.sh, fun i hi => ?_⟩
        · rw [World.cell?_of_block (w' := W) (w := wr) (by rw [hW])]; exact kbd _ HE.out
        · rw [World.cell?_of_block (w' := W) (w := wr) (by rw [hW])]; exact HA.out.dv.c1
        · have := HA.out.rng.st i hi; (try dsimp only at this); omega)
      obtain ⟨x, hx⟩ : ∃ x, st' i = x := ⟨_, rfl⟩
      rw [hx] at hstb
      have HX := Lib.hid hx
      have HPK := Lib.hid hpk
      clear hx hpk kbd
      go_wp2
      go_region_held3 (fun W => W.cell? ⟨y, 1, none⟩ = some (.func (Fn.func 45) #[] #[]) ∧ W.cell? ⟨b, 2, none⟩ = some (.int .i64 lf')) (first | exact ⟨y1, c2⟩) (first
        | (go_at_call 45; refine (due_up _ _).mono ?_; rintro e wq ⟨rfl, rfl⟩))
      go_wp2
      go_region_held3 (fun W => W.cell? ⟨b, 0, none⟩ = some (.slice (some ⟨g, 0, none⟩) n c) ∧ W.cell? ⟨y, 2, none⟩ = some (.func (Fn.func 46) #[] #[]) ∧ W.cell? ⟨y, 3, none⟩ = some (.func (Fn.func 43) #[] #[.pointer (some ⟨bd, 0, none⟩)])) (first | exact ⟨c0, y2, y3⟩ | exact ⟨d0, z2, z3⟩) (first
        | (go_at_call 78; refine (HG.out wr.drew.drew rfl).mono ?_; rintro e wd ⟨r, rfl, hbst, hq⟩; have hbd : Below wr.heap.size wr wd := ⟨hq.os, hq.tape, hq.output, hq.size, hq.block⟩; have hdv := HA.out.dv.below hbd; have hdy := HDY.out.same (hbd.block _ HDY.out.lt); have d0 := hdv.c0; have z2 := hdy.c2; have z3 := hdy.c3; have DD := Lib.hid hdv; have DY := Lib.hid hdy; have BD := Lib.hid hbd; have BST := Lib.hid hbst; clear hq hbd hdv hdy hbst))
      obtain ⟨j, hjn, rfl, hji⟩ := BST.out.found HU.out HPK.out
      have ow := DD.out.own
      rw [HU.out] at ow
      have hcs : wd.cell? ⟨g, j * 3 + 2, none⟩ = some (.int .i64 x) := by rw [ow.cellAt _ (by omega), (flat_get hji).2.2, HX.out]
      have hfs := ow.frozenAt (j * 3 + 2)
      clear ow
      have z0 := DY.out.c0
      obtain ⟨W1, hW1⟩ : ∃ W1, wd.setCell ⟨g, j * 3 + 2, none⟩ (.int .i64 (x + 1)) = W1 := ⟨_, rfl⟩
      have D1 : Hid (Dv W1 B b (.slice (some ⟨g, 0, none⟩) n c) U sh (fun a => if a = i then st' i + 1 else st' a) T lf') := Lib.hid (by rw [← hW1, HX.out]; exact DD.out.setst HU.out HND.out hji _)
      have Y2 : Hid (Dir W1 y 1 (.func (Fn.func 45) #[] #[]) (.func (Fn.func 46) #[] #[]) (.func (Fn.func 43) #[] #[.pointer (some ⟨bd, 0, none⟩)])) := Lib.hid (DY.out.same (by rw [← hW1]; exact Below.heap_setCell _ ⟨g, j * 3 + 2, none⟩ _ _ YB.out.2))
      have u2 := D1.out.c2
      have uf := D1.out.free 2
      have u0 := Y2.out.c0
      have HC : Hid (Chg (Two b (.slice (some ⟨g, 0, none⟩) n c)) wr (W1.setCell ⟨b, 2, none⟩ (.int .i64 (lf' - 1)))) := Lib.hid (by
        refine Chg.set ?_ ⟨b, 2, none⟩ (.inl rfl) _
        rw [← hW1]
        exact Chg.set (Chg.of_below BD.out) ⟨g, j * 3 + 2, none⟩ (.inr rfl) _)
      have HN : Hid ((fun z => z.toNat) (lfo b (W1.setCell ⟨b, 2, none⟩ (.int .i64 (lf' - 1)))) < (fun z => z.toNat) (lfo b wr)) := Lib.hid (by rw [(D1.out.set2 (lf' - 1)).lfo, HM.out]; (try dsimp only); omega)
      have HS : Hid (Adj 1 upOk upKf (fun z => z.toNat) w1 (W1.setCell ⟨b, 2, none⟩ (.int .i64 (lf' - 1))) B b (.slice (some ⟨g, 0, none⟩) n c) U sh T st lf (go1 1 upOk upKf sh T U st') (lf' - 1)) :=
        Lib.hid (HA.out.step (q := (lf').toNat - 1) HPK.out (by (try dsimp only); omega) (by (try dsimp only); omega) HND.out (by rw [HX.out]; omega) (by omega) (D1.out.set2 _) HC.out)
      clear BST HA HG hji HPK HM D1 Y2 HC DD DY BD
      go_wp2
      go_region
      all_goals
        go_wp2
        go_region
        all_goals
          go_wp2
          exact ⟨⟨_, _, Lib.hid HS.out.drew.drew⟩, HN.out⟩
    · have hdd : decide (0 < lf') = false := decide_eq_false hdue
      have HZ : Hid ((lf').toNat = 0) := Lib.hid (by omega)
      go_wp2
      go_region_held3 (fun W => W.cell? ⟨y, 1, none⟩ = some (.func (Fn.func 45) #[] #[]) ∧ W.cell? ⟨b, 2, none⟩ = some (.int .i64 lf')) (first | exact ⟨y1, c2⟩) (first
        | (go_at_call 45; refine (due_up _ _).mono ?_; rintro e wq ⟨rfl, rfl⟩))
      go_wp2
      go_end0
      have h1 := HA.out.todo
      have h2 := HA.out.lef
      have h3 := HA.out.dv
      have hz := HZ.out
      (try dsimp only at h1 h2)
      rw [hz] at h1 h2
      have e1 : st' = upN sh T U (lf).toNat st := h1
      have e2 : lf' = lf - 1 * (lf).toNat := by rw [← h2]; simp
      refine ⟨rfl, ?_, ((Chg.of_below G1.out).trans HA.out.chg).drew 1⟩
      rw [← e1, ← e2]
      exact h3.drew


set_option maxRecDepth 100000 in
set_option maxHeartbeats 2000000 in
theorem adjust_dn (w : World) (B b g n c : Nat) (U : List Nat) (sh st : Nat → Int) (T : Nat) (lf : Int) (bl bd : Nat) (hd : Dv w B b (.slice (some ⟨g, 0, none⟩) n c) U sh st T lf) (he : w.cell? ⟨bd, 0, none⟩ = some (.pointer (some ⟨b, 0, none⟩))) (hbd : bd ≠ b ∧ bd ≠ g) (hl : w.cell? ⟨bl, 0, none⟩ = some (.func (Fn.func 43) #[] #[.pointer (some ⟨bd, 0, none⟩)])) (hbl : bl ≠ b ∧ bl ≠ g) (hsm : (n : Int) ≤ sm st U + lf) (hU : U.length = n) (hnb : n ≤ 512) (hnd : U.Nodup) (hT : T ≤ 1099511627776) (hr : Rg U sh st (1000000 - (-(lf)).toNat)) (hlf : -262144 ≤ lf ∧ lf ≤ 262144) :
    Calls Tryz.prog 44 #[.pointer (some ⟨b, 0, none⟩), .agg #[.int .i64 (-1), (fv 47 #[]), (fv 48 #[]), (fv 49 #[.pointer (some ⟨bl, 0, none⟩)])]] w
      fun e w' => e = .returned (.tuple #[]) ∧ Dv w' B b (.slice (some ⟨g, 0, none⟩) n c) U sh (dnN sh T U (-(lf)).toNat st) T (lf - (-1) * (-(lf)).toNat) ∧ Chg (Two b (.slice (some ⟨g, 0, none⟩) n c)) w w' := by
  simp only [fv]
  have Y1 : Hid (Dir (w.alloc (.cells #[.int .i64 (-1), (fv 47 #[]), (fv 48 #[]), (fv 49 #[.pointer (some ⟨bl, 0, none⟩)])] 107)) w.heap.size (-1) (fv 47 #[]) (fv 48 #[]) (fv 49 #[.pointer (some ⟨bl, 0, none⟩)])) := Lib.hid (World.alloc_heap_new w _)
  have G1 : Hid (Below w.heap.size w (w.alloc (.cells #[.int .i64 (-1), (fv 47 #[]), (fv 48 #[]), (fv 49 #[.pointer (some ⟨bl, 0, none⟩)])] 107))) := Lib.hid ((Below.refl _ w).alloc (Nat.le_refl _) _)
  simp only [fv] at Y1 G1
  have HD := Lib.hid hd
  have HE := Lib.hid he
  have HR := Lib.hid hr
  have HU := Lib.hid hU
  have HND := Lib.hid hnd
  have HBD := Lib.hid hbd
  have HL := Lib.hid hl
  have HBL := Lib.hid hbl
  have HSM := Lib.hid hsm
  clear hl hbl hsm
  clear hd he hr hU hnd hbd
  go_enter Tryz.func44, Tryz.ntmps44
  go_wp2
  generalize w.alloc (.cells #[.int .i64 (-1), (.func (Fn.func 47) #[] #[]), (.func (Fn.func 48) #[] #[]), (.func (Fn.func 49) #[] #[.pointer (some ⟨bl, 0, none⟩)])] 107) = w1 at Y1 G1 ⊢
  have A0 : Hid (Adj (-1) dnOk dnKf (fun z => (-z).toNat) w1 w1 B b (.slice (some ⟨g, 0, none⟩) n c) U sh T st lf st lf) := Lib.hid (Adj.zero (HD.out.below G1.out) HR.out)
  have YB : Hid (w.heap.size ≠ b ∧ w.heap.size ≠ g) := Lib.hid ⟨by have := HD.out.lt; omega, by have : g < w.heap.size := own_lt3 HD.out.own rfl; omega⟩
  obtain ⟨y, hy⟩ : ∃ y, w.heap.size = y := ⟨_, rfl⟩
  rw [hy] at Y1 YB
  simp only [hy]
  have HY := Lib.hid hy
  clear hy
  go_loopw [4] (fun q wr => ∃ (st' : Nat → Int) (lf' : Int), Hid (Adj (-1) dnOk dnKf (fun z => (-z).toNat) w1 wr B b (.slice (some ⟨g, 0, none⟩) n c) U sh T st lf st' lf')) (fun _ wr => (fun z => (-z).toNat) (lfo b wr))
  case atStart => exact ⟨st, lf, A0⟩
  case round =>
    obtain ⟨st', lf', HA⟩ := hrel
    clear A0
    have hlf' : -262144 ≤ lf' ∧ lf' ≤ 262144 := by have h1 := HA.out.lef; have h2 := HA.out.mem; (try dsimp only at h1 h2); omega
    have hde := HA.out.dv
    have hdy : Dir wr y (-1) (.func (Fn.func 47) #[] #[]) (.func (Fn.func 48) #[] #[]) (.func (Fn.func 49) #[] #[.pointer (some ⟨bl, 0, none⟩)]) := Y1.out.same (HA.out.chg.block y Y1.out.lt (fun (e : _ ∨ _) => by rcases e with e | e; exact YB.out.1 e; injection e with e; exact YB.out.2 e.symm))
    have c0 := hde.c0
    have c2 := hde.c2
    have y1 := hdy.c1
    have y2 := hdy.c2
    have y3 := hdy.c3
    have HDY := Lib.hid hdy
    have HM := Lib.hid hde.lfo
    clear hde hdy
    by_cases hdue : lf' < 0
    · have hdd : decide (lf' < 0) = true := decide_eq_true hdue
      obtain ⟨i, hiU, hi1, hpk⟩ := dn_pick (sh := sh) (t := (T : Int)) (U := U) (st := st') (by rw [HU.out]; have h1 := HA.out.sum; have h2 := HSM.out; omega)
      have hstb := HA.out.rng.st i hiU
      (try dsimp only at hstb)
      have kbd : ∀ v, w.cell? ⟨bd, 0, none⟩ = some v → wr.cell? ⟨bd, 0, none⟩ = some v := fun v hv => by
        rw [World.cell?_of_block (HA.out.chg.block bd (Nat.lt_of_lt_of_le (cell_lt hv) G1.out.size) (fun (e : _ ∨ _) => by rcases e with e | e; exact HBD.out.1 e; injection e with e; exact HBD.out.2 e.symm)), World.cell?_of_block (G1.out.block bd (cell_lt hv))]; exact hv
      have kbl : ∀ v, w.cell? ⟨bl, 0, none⟩ = some v → wr.cell? ⟨bl, 0, none⟩ = some v := fun v hv => by
        rw [World.cell?_of_block (HA.out.chg.block bl (Nat.lt_of_lt_of_le (cell_lt hv) G1.out.size) (fun (e : _ ∨ _) => by rcases e with e | e; exact HBL.out.1 e; injection e with e; exact HBL.out.2 e.symm)), World.cell?_of_block (G1.out.block bl (cell_lt hv))]; exact hv
      have HG : Hid (∀ W, W.heap = wr.heap → Calls Tryz.prog 78 #[(.slice (some ⟨g, 0, none⟩) n c), (.func (Fn.func 48) #[] #[]), (.func (Fn.func 49) #[] #[.pointer (some ⟨bl, 0, none⟩)])] W fun e w' => ∃ r, e = .returned (.int .i64 r) ∧ Bst (fun i => dnOk (st' i)) (fun i => dnKf (sh i - st' i * (T : Int))) U n r ∧ Below W.heap.size W w') := Lib.hid (fun W hW => by
        refine greatest_dn W B g n c U sh st' bl bd b T (by rw [World.cell?_of_block (w' := W) (w := wr) (by rw [hW])]; exact kbl _ HL.out) (by have := own_same3 (W' := W) HA.out.dv.own (fun g' _ => by rw [hW]); rwa [HU.out] at this) HU.out hnb ⟨?_, ?_⟩ hT ⟨HA.out.rng.sh, fun i hi => ?_⟩
        · rw [World.cell?_of_block (w' := W) (w := wr) (by rw [hW])]; exact kbd _ HE.out
        · rw [World.cell?_of_block (w' := W) (w := wr) (by rw [hW])]; exact HA.out.dv.c1
        · have := HA.out.rng.st i hi; (try dsimp only at this); omega)
      obtain ⟨x, hx⟩ : ∃ x, st' i = x := ⟨_, rfl⟩
      rw [hx] at hstb hi1
      have HX := Lib.hid hx
      have HPK := Lib.hid hpk
      clear hx hpk kbd kbl
      go_wp2
      go_region_held3 (fun W => W.cell? ⟨y, 1, none⟩ = some (.func (Fn.func 47) #[] #[]) ∧ W.cell? ⟨b, 2, none⟩ = some (.int .i64 lf')) (first | exact ⟨y1, c2⟩) (first
        | (go_at_call 47; refine (due_dn _ _).mono ?_; rintro e wq ⟨rfl, rfl⟩))
      go_wp2
      go_region_held3 (fun W => W.cell? ⟨b, 0, none⟩ = some (.slice (some ⟨g, 0, none⟩) n c) ∧ W.cell? ⟨y, 2, none⟩ = some (.func (Fn.func 48) #[] #[]) ∧ W.cell? ⟨y, 3, none⟩ = some (.func (Fn.func 49) #[] #[.pointer (some ⟨bl, 0, none⟩)])) (first | exact ⟨c0, y2, y3⟩ | exact ⟨d0, z2, z3⟩) (first
        | (go_at_call 78; refine (HG.out wr.drew.drew rfl).mono ?_; rintro e wd ⟨r, rfl, hbst, hq⟩; have hbd : Below wr.heap.size wr wd := ⟨hq.os, hq.tape, hq.output, hq.size, hq.block⟩; have hdv := HA.out.dv.below hbd; have hdy := HDY.out.same (hbd.block _ HDY.out.lt); have d0 := hdv.c0; have z2 := hdy.c2; have z3 := hdy.c3; have DD := Lib.hid hdv; have DY := Lib.hid hdy; have BD := Lib.hid hbd; have BST := Lib.hid hbst; clear hq hbd hdv hdy hbst))
      obtain ⟨j, hjn, rfl, hji⟩ := BST.out.found HU.out HPK.out
      have ow := DD.out.own
      rw [HU.out] at ow
      have hcs : wd.cell? ⟨g, j * 3 + 2, none⟩ = some (.int .i64 x) := by rw [ow.cellAt _ (by omega), (flat_get hji).2.2, HX.out]
      have hfs := ow.frozenAt (j * 3 + 2)
      clear ow
      have z0 := DY.out.c0
      obtain ⟨W1, hW1⟩ : ∃ W1, wd.setCell ⟨g, j * 3 + 2, none⟩ (.int .i64 (x + (-1))) = W1 := ⟨_, rfl⟩
      have D1 : Hid (Dv W1 B b (.slice (some ⟨g, 0, none⟩) n c) U sh (fun a => if a = i then st' i + (-1) else st' a) T lf') := Lib.hid (by rw [← hW1, HX.out]; exact DD.out.setst HU.out HND.out hji _)
      have Y2 : Hid (Dir W1 y (-1) (.func (Fn.func 47) #[] #[]) (.func (Fn.func 48) #[] #[]) (.func (Fn.func 49) #[] #[.pointer (some ⟨bl, 0, none⟩)])) := Lib.hid (DY.out.same (by rw [← hW1]; exact Below.heap_setCell _ ⟨g, j * 3 + 2, none⟩ _ _ YB.out.2))
      have u2 := D1.out.c2
      have uf := D1.out.free 2
      have u0 := Y2.out.c0
      have HC : Hid (Chg (Two b (.slice (some ⟨g, 0, none⟩) n c)) wr (W1.setCell ⟨b, 2, none⟩ (.int .i64 (lf' - (-1))))) := Lib.hid (by
        refine Chg.set ?_ ⟨b, 2, none⟩ (.inl rfl) _
        rw [← hW1]
        exact Chg.set (Chg.of_below BD.out) ⟨g, j * 3 + 2, none⟩ (.inr rfl) _)
      have HN : Hid ((fun z => (-z).toNat) (lfo b (W1.setCell ⟨b, 2, none⟩ (.int .i64 (lf' - (-1))))) < (fun z => (-z).toNat) (lfo b wr)) := Lib.hid (by rw [(D1.out.set2 (lf' - (-1))).lfo, HM.out]; (try dsimp only); omega)
      have HS : Hid (Adj (-1) dnOk dnKf (fun z => (-z).toNat) w1 (W1.setCell ⟨b, 2, none⟩ (.int .i64 (lf' - (-1)))) B b (.slice (some ⟨g, 0, none⟩) n c) U sh T st lf (go1 (-1) dnOk dnKf sh T U st') (lf' - (-1))) :=
        Lib.hid (HA.out.step (q := (-(lf')).toNat - 1) HPK.out (by (try dsimp only); omega) (by (try dsimp only); omega) HND.out (by rw [HX.out]; omega) (by omega) (D1.out.set2 _) HC.out)
      clear BST HA HG hji HPK HM D1 Y2 HC DD DY BD
      go_wp2
      go_region
      all_goals
        go_wp2
        go_region
        all_goals
          go_wp2
          exact ⟨⟨_, _, Lib.hid HS.out.drew.drew⟩, HN.out⟩
    · have hdd : decide (lf' < 0) = false := decide_eq_false hdue
      have HZ : Hid ((-(lf')).toNat = 0) := Lib.hid (by omega)
      go_wp2
      go_region_held3 (fun W => W.cell? ⟨y, 1, none⟩ = some (.func (Fn.func 47) #[] #[]) ∧ W.cell? ⟨b, 2, none⟩ = some (.int .i64 lf')) (first | exact ⟨y1, c2⟩) (first
        | (go_at_call 47; refine (due_dn _ _).mono ?_; rintro e wq ⟨rfl, rfl⟩))
      go_wp2
      go_end0
      have h1 := HA.out.todo
      have h2 := HA.out.lef
      have h3 := HA.out.dv
      have hz := HZ.out
      (try dsimp only at h1 h2)
      rw [hz] at h1 h2
      have e1 : st' = dnN sh T U (-(lf)).toNat st := h1
      have e2 : lf' = lf - (-1) * (-(lf)).toNat := by rw [← h2]; simp
      refine ⟨rfl, ?_, ((Chg.of_below G1.out).trans HA.out.chg).drew 1⟩
      rw [← e1, ← e2]
      exact h3.drew


end Go.Proofs.YtnlhokfhkohdpaaGreat.No

namespace Go.Proofs.YtnlhokfhkohdpaaGreat.No
open Go.RowKit Go.Shelf

@[local go_sem] theorem run_store_func {P : Program} {w : World} {a : Addr} {m : Mode} (f : Fn) (x y : Array Value) : (store a (.func f x y) m).run P w = stored P w a (.func f x y) m := run_store P w a _ m rfl

theorem _root_.Go.Proofs.YtnlhokfhkohdpaaGreat.Chg.keeps {S : Nat → Prop} {W W' : World} (hc : Chg S W W') {a : Nat} {v : Value} (h : W.cell? ⟨a, 0, none⟩ = some v) (hn : ¬ S a) : W'.cell? ⟨a, 0, none⟩ = some v := by
  rw [World.cell?_of_block (hc.block a (cell_lt h) hn)]; exact h
theorem two_not {a b g n c : Nat} (h1 : a ≠ b) (h2 : a ≠ g) : ¬ Two b (.slice (some ⟨g, 0, none⟩) n c) a := fun (e : _ ∨ _) => by
  rcases e with e | e
  · exact h1 e
  · injection e with e; exact h2 e.symm
theorem two_ge {B b g n c : Nat} (h1 : B ≤ b) (h2 : B ≤ g) : ∀ k, Two b (.slice (some ⟨g, 0, none⟩) n c) k → B ≤ k := fun k (e : _ ∨ _) => by
  rcases e with e | e
  · omega
  · injection e with e; rw [← e]; exact h2

set_option maxRecDepth 100000 in
set_option maxHeartbeats 2000000 in
theorem settle_any (w : World) (B b g n c : Nat) (U : List Nat) (sh st : Nat → Int) (T : Nat) (lf : Int) (hd : Dv w B b (.slice (some ⟨g, 0, none⟩) n c) U sh st T lf) (hB : B ≤ w.heap.size) (hU : U.length = n) (hn0 : 0 < n) (hnb : n ≤ 512) (hnd : U.Nodup) (hT : T ≤ 1099511627776) (hr : Rg U sh st 512) (hlf : -262144 ≤ lf ∧ lf ≤ 512) (hsm : (n : Int) ≤ sm st U + lf) :
    Calls Tryz.prog 18 #[.pointer (some ⟨b, 0, none⟩)] w fun e w' => e = .returned (.tuple #[]) ∧ Dv w' B b (.slice (some ⟨g, 0, none⟩) n c) U sh (dnN sh T U (-lf).toNat (upN sh T U lf.toNat st)) T 0 ∧ Below B w w' := by
  have hbl : b < w.heap.size := hd.lt
  have hgl : g < w.heap.size := own_lt3 hd.own rfl
  have hgB : B ≤ g := own_ge3 hd.own rfl
  have hbB := hd.low
  have z0 : Boxed ((w.alloc (.cells #[.pointer (some ⟨b, 0, none⟩)] 49)).alloc (.cells #[.nilFunc] 102)) w.heap.size 49 (.pointer (some ⟨b, 0, none⟩)) := (Boxed.new w _ _).alloc _
  have z1 : Boxed ((w.alloc (.cells #[.pointer (some ⟨b, 0, none⟩)] 49)).alloc (.cells #[.nilFunc] 102)) (w.heap.size + 1) 102 .nilFunc := by
    have := Boxed.new (w.alloc (.cells #[.pointer (some ⟨b, 0, none⟩)] 49)) 102 .nilFunc
    rwa [World.size_alloc] at this
  have gz : Below w.heap.size w ((w.alloc (.cells #[.pointer (some ⟨b, 0, none⟩)] 49)).alloc (.cells #[.nilFunc] 102)) := ((Below.refl _ w).alloc (Nat.le_refl _) _).alloc (by simp) _
  have zc := z1.cell
  have zf := z1.frozen
  obtain ⟨w2, hw2⟩ : ∃ w2, World.setCell ((w.alloc (.cells #[.pointer (some ⟨b, 0, none⟩)] 49)).alloc (.cells #[.nilFunc] 102)) ⟨w.heap.size + 1, 0, none⟩ (.func (Fn.func 43) #[] #[.pointer (some ⟨w.heap.size, 0, none⟩)]) = w2 := ⟨_, rfl⟩
  have b0 : Boxed w2 w.heap.size 49 (.pointer (some ⟨b, 0, none⟩)) := by rw [← hw2]; exact Boxed.other z0 (by omega) _
  have b1 : Boxed w2 (w.heap.size + 1) 102 (.func (Fn.func 43) #[] #[.pointer (some ⟨w.heap.size, 0, none⟩)]) := by rw [← hw2]; exact z1.set _
  have g1 : Below w.heap.size w w2 := by rw [← hw2]; exact gz.setCell (p := ⟨w.heap.size + 1, 0, none⟩) (by show w.heap.size ≤ w.heap.size + 1; omega) _
  clear z0 z1 gz
  have hmf : ∀ (fn : Fn) (first cap : Array Value) (w : World), (Instr.makeFunc fn first cap).run Tryz.prog w = .ok (.func fn first cap) w := fun _ _ _ _ => rfl
  have hU0 : U ≠ [] := fun e => by rw [e] at hU; simp at hU; omega
  have UA := upN_all (sh := sh) (t := (T : Int)) hU0 hnd lf.toNat st
  have C1 := Lib.hid (adjust_up w2 B b g n c U sh st T lf w.heap.size (hd.below g1) b0.cell ⟨by omega, by omega⟩ hU hn0 hnb hnd hT ⟨hr.sh, fun i hi => by have := hr.st i hi; omega⟩ ⟨hlf.1, by omega⟩)
  have C2 : Hid (∀ w3, Dv w3 B b (.slice (some ⟨g, 0, none⟩) n c) U sh (upN sh T U lf.toNat st) T (lf - 1 * lf.toNat) → Chg (Two b (.slice (some ⟨g, 0, none⟩) n c)) w2 w3 →
      Calls Tryz.prog 44 #[.pointer (some ⟨b, 0, none⟩), .agg #[.int .i64 (-1), fv 47 #[], fv 48 #[], fv 49 #[.pointer (some ⟨w.heap.size + 1, 0, none⟩)]]] w3
        fun e w' => e = .returned (.tuple #[]) ∧ Dv w' B b (.slice (some ⟨g, 0, none⟩) n c) U sh (dnN sh T U (-lf).toNat (upN sh T U lf.toNat st)) T 0 ∧ Chg (Two b (.slice (some ⟨g, 0, none⟩) n c)) w3 w') := Lib.hid (fun w3 hd3 hc3 => by
    have nb : ∀ a, w.heap.size ≤ a → ¬ Two b (.slice (some ⟨g, 0, none⟩) n c) a := fun a ha => two_not (by omega) (by omega)
    have h1 := adjust_dn w3 B b g n c U sh (upN sh T U lf.toNat st) T (lf - 1 * lf.toNat) (w.heap.size + 1) w.heap.size hd3 (hc3.keeps b0.cell (nb _ (Nat.le_refl _))) ⟨by omega, by omega⟩ (hc3.keeps b1.cell (nb _ (by omega))) ⟨by omega, by omega⟩ (by rw [UA.1]; omega) hU hnb hnd hT
      ⟨hr.sh, fun i hi => by have := UA.2 0 512 (fun i hi => hr.st i hi) i hi; omega⟩ ⟨by omega, by omega⟩
    have e1 : (-(lf - 1 * (lf.toNat : Int))).toNat = (-lf).toNat := by omega
    have e2 : lf - 1 * (lf.toNat : Int) - (-1) * ((-lf).toNat : Int) = 0 := by omega
    rw [e1, e2] at h1
    exact h1)
  have N2 := Lib.hid (fun w4 (hc : Chg (Two b (.slice (some ⟨g, 0, none⟩) n c)) w2 w4) => (show Below B w w4 from (Below.mono g1 hB).trans (hc.new (by have := g1.size; omega) (two_ge hbB hgB))))
  have c0 := b0.cell
  have c1 := b1.cell
  have B0 := Lib.hid b0
  have B1 := Lib.hid b1
  simp only [fv] at C1 C2
  clear hd hr hlf hsm hnd hU UA b0 b1 g1 hU0
  go_enter Tryz.func18, Tryz.ntmps18
  go_wp2_with (first
    | (go_at_call 44; refine (C2.out w3 D3.out H3.out).mono ?_; rintro e w4 ⟨rfl, hd4, hc4⟩; have D4 := Lib.hid hd4; have H4 := Lib.hid (H3.out.trans hc4); clear hd4 hc4)
    | (go_at_call 44; refine C1.out.mono ?_; rintro e w3 ⟨rfl, hd3, hc3⟩; have D3 := Lib.hid hd3; have H3 := Lib.hid hc3; have c3 := hc3.keeps B0.out.cell (two_not (by omega) (by omega)); clear hd3 hc3))
  go_end0
  exact ⟨rfl, D4.out, N2.out _ H4.out⟩

end Go.Proofs.YtnlhokfhkohdpaaGreat.No

namespace Go.Proofs.YtnlhokfhkohdpaaGreat.No
open Go.RowKit Go.Shelf

theorem int_info : (Tryz.prog.info? 3).map (fun i => (i.zero, i.size, i.bytes)) = some (some (.int .i64 0), 1, 8) := by kernel_rfl
theorem made_ints (n : Nat) : (madeCells (Value.int .i64 0).cells (n * 1)).toList = (List.replicate n 0).map iv := by
  refine List.ext_getElem? fun j => ?_
  simp only [madeCells, Nat.mul_one, Value.cells]
  rcases Nat.lt_or_ge j n with h | h
  · simp [h, Nat.mod_one]
  · simp [h]
theorem make_ints (n : Nat) (hn : n ≤ 10000000) (W : World) : ∃ w1, (Instr.makeSlice 24 (.int .i64 (n : Int)) (.int .i64 (n : Int))).run Tryz.prog W = .ok (.slice (some ⟨W.heap.size, 0, none⟩) n n) w1 ∧
    w1.ownsRow W.heap.size 3 1 (.slice (some ⟨W.heap.size, 0, none⟩) n n) n ((List.replicate n 0).map iv) ∧ Below W.heap.size W w1 := by
  obtain ⟨i0, hi, hz0, hz1, hz2⟩ := info_parts int_info
  obtain ⟨w1, h1, h2, h3⟩ := run_makeSlice_full (P := Tryz.prog) W W.heap.size 24 3 i0 (.int .i64 0) 1 Tryz.underlying24 hi hz0 hz1 .i64 .i64 n (by omega) (by rw [hz2]; omega) (by unfold maxLen; omega) (Nat.le_refl _)
  rw [made_ints] at h2
  exact ⟨w1, h1, h2, (Below.refl _ _).grown h3 (Nat.le_refl _) (fun k e => by cases e)⟩

/-- The norms of the symbols below L, those of V only. -/
def nml (L : Nat) (val : Nat → Int) (V : List Nat) : List Int := (List.range L).map (fun i => if i ∈ V then val i else 0)
theorem nml_len (L : Nat) (val : Nat → Int) (V : List Nat) : (nml L val V).length = L := by simp [nml]
theorem nml_nil (L : Nat) (val : Nat → Int) : nml L val [] = List.replicate L 0 := by
  refine List.ext_getElem? fun j => ?_
  rcases Nat.lt_or_ge j L with h | h
  · simp [nml, h]
  · simp [nml, h]
theorem nml_set {L : Nat} {val : Nat → Int} {V : List Nat} {i : Nat} : (nml L val V).set i (val i) = nml L val (V ++ [i]) := by
  refine List.ext_getElem? fun j => ?_
  rw [List.getElem?_set]
  rcases Nat.lt_or_ge j L with h | h
  · by_cases hij : i = j
    · subst hij
      simp [nml, h]
    · have : ¬ j = i := fun e => hij e.symm
      simp [nml, h, hij, this]
  · have h2 : (nml L val (V ++ [i]))[j]? = none := List.getElem?_eq_none (by rw [nml_len]; exact h)
    rw [h2]
    split
    · rw [if_neg (by rw [nml_len]; omega)]
    · exact List.getElem?_eq_none (by rw [nml_len]; exact h)
/-- A settled symbol's norm. -/
def nval (sh st : Nat → Int) (T : Nat) (i : Nat) : Int := if sh i < (T : Int) then -1 else st i

set_option maxRecDepth 100000 in
set_option maxHeartbeats 2000000 in
theorem norms_any (w : World) (B b g n c l : Nat) (U : List Nat) (sh st : Nat → Int) (T : Nat) (lf : Int) (hd : Dv w B b (.slice (some ⟨g, 0, none⟩) n c) U sh st T lf) (hU : U.length = n) (hn0 : 0 < n) (hnb : n ≤ 512) (hl : U[n - 1]? = some l) (hle : ∀ i ∈ U, i ≤ l) (hlb : l ≤ 1000000) :
    Calls Tryz.prog 19 #[.pointer (some ⟨b, 0, none⟩)] w fun e w' => ∃ g', e = .returned (.slice (some ⟨g', 0, none⟩) (l + 1) (l + 1)) ∧ w'.ownsRow w.heap.size 3 1 (.slice (some ⟨g', 0, none⟩) (l + 1) (l + 1)) (l + 1) ((nml (l + 1) (nval sh st T) U).map iv) ∧ Below w.heap.size w w' := by
  have c0 := hd.c0
  have c1 := hd.c1
  have ow := hd.own
  rw [hU] at ow
  obtain ⟨f0, f1, f2⟩ := flat_get (sh := sh) (st := st) hl
  have p0 : w.cell? ⟨g, (n - 1) * 3, none⟩ = some (.int .i64 (l : Int)) := by rw [ow.cellAt _ (by omega)]; exact f0
  have p1 : w.cell? ⟨g, (n - 1) * 3 + 1, none⟩ = some (.int .i64 (sh l)) := by rw [ow.cellAt _ (by omega)]; exact f1
  have p2 : w.cell? ⟨g, (n - 1) * 3 + 2, none⟩ = some (.int .i64 (st l)) := by rw [ow.cellAt _ (by omega)]; exact f2
  have hn1 : (n : Int) - 1 = ((n - 1 : Nat) : Int) := by omega
  obtain ⟨n1, hn1e⟩ : ∃ n1, n - 1 = n1 := ⟨_, rfl⟩
  rw [hn1e] at p0 p1 p2 hn1
  have hn1b : n1 < n := by omega
  have wn : IntKind.i64.wrap ((n : Int) - 1) = (n1 : Int) := by rw [hn1]; exact IntWalk.i64_in _ (by omega)
  have wn1 : IntKind.i64.wrap (n1 : Int) = (n1 : Int) := IntWalk.i64_in _ (by omega)
  have bz : Below w.heap.size w (w.alloc (.cells #[.int .i64 0, .int .i64 0, .int .i64 0] 101)) := (Below.refl _ w).alloc (Nat.le_refl _) _
  have z0 := (bz.cell (cell_lt c0)).trans c0
  have q0 := (bz.cell (cell_lt p0)).trans p0
  have q1 := (bz.cell (cell_lt p1)).trans p1
  have q2 := (bz.cell (cell_lt p2)).trans p2
  clear bz
  have HU := Lib.hid hU
  have HD := Lib.hid hd
  have HL := Lib.hid hl
  have HLE := Lib.hid hle
  clear hd ow f0 f1 f2 hU hl hle hn1e
  go_enter Tryz.func19, Tryz.ntmps19
  go_wp2
  go_region
  have g1 : Below w.heap.size w (w.alloc (.cells #[.int .i64 (l : Int), .int .i64 (sh l), .int .i64 (st l)] 101)).drew := ((Below.refl _ w).alloc (Nat.le_refl _) _).drew
  have x0 : (w.alloc (.cells #[.int .i64 (l : Int), .int .i64 (sh l), .int .i64 (st l)] 101)).drew.cell? ⟨w.heap.size, 0, none⟩ = some (.int .i64 (l : Int)) := by
    show (w.alloc _).cell? _ = _
    rw [cell_of_row _ _ 0 _ _ _ (World.alloc_heap_new w _)]; rfl
  generalize (w.alloc (.cells #[.int .i64 (l : Int), .int .i64 (sh l), .int .i64 (st l)] 101)).drew = w1 at g1 x0 ⊢
  obtain ⟨w2, hmk, ho2, hb2⟩ := make_ints (l + 1) (by omega) w1
  have mk : (Instr.makeSlice 24 (.int .i64 ((l : Int) + 1)) (.int .i64 ((l : Int) + 1))).run Tryz.prog w1 = .ok (.slice (some ⟨w1.heap.size, 0, none⟩) (l + 1) (l + 1)) w2 := hmk
  have G2 := Lib.hid (below_on g1 (Nat.le_refl _) hb2)
  have d0 := (G2.out.cell (cell_lt c0)).trans c0
  obtain ⟨gg, hgg⟩ : ∃ gg, w1.heap.size = gg := ⟨_, rfl⟩
  rw [hgg] at mk ho2
  have hggl : w.heap.size ≤ gg := by have := g1.size; omega
  have O2 : Hid (w2.ownsRow w.heap.size 3 1 (.slice (some ⟨gg, 0, none⟩) (l + 1) (l + 1)) (l + 1) ((nml (l + 1) (nval sh st T) []).map iv)) := Lib.hid (by
    rw [nml_nil]
    refine ⟨ho2.1, ?_⟩
    rcases ho2.2 with h | ⟨g', c', cur, e1, e2, e3⟩
    · exact .inl h
    · exact .inr ⟨g', c', cur, e1, by omega, e3⟩)
  clear hmk ho2 hb2 hgg g1 p0 p1 p2 q0 q1 q2 z0 wn wn1 hn1
  go_wp2
  go_loopw [28] (fun p wr => ∃ j : Nat, j ≤ n ∧ p = .int .i64 (j : Int) ∧ Hid (wr.ownsRow w.heap.size 3 1 (.slice (some ⟨gg, 0, none⟩) (l + 1) (l + 1)) (l + 1) ((nml (l + 1) (nval sh st T) (U.take j)).map iv)) ∧ Hid (Below w.heap.size w wr)) (fun p _ => n - (intOf p).toNat)
  case atStart => exact ⟨0, Nat.zero_le _, rfl, by simpa using O2, G2⟩
  case round =>
    obtain ⟨j, hj, rfl, HO, HB⟩ := hrel
    clear mk O2 G2 d0 x0
    by_cases hlt : j < n
    · obtain ⟨i, hi⟩ : ∃ i, U[j]? = some i := ⟨_, List.getElem?_eq_getElem (by rw [HU.out]; exact hlt)⟩
      obtain ⟨f0, f1, f2⟩ := flat_get (sh := sh) (st := st) hi
      have hil := HLE.out i (List.mem_of_getElem? hi)
      have dr := HD.out.same (W' := wr) (fun g' e => HB.out.block _ (by rcases e with rfl | e; exact HD.out.lt; exact own_lt3 HD.out.own e))
      have ow := dr.own
      rw [HU.out] at ow
      have HSE : Hid (nml (l + 1) (nval sh st T) (U.take (j + 1)) = (nml (l + 1) (nval sh st T) (U.take j)).set i (nval sh st T i)) := Lib.hid (by rw [take_succ_get hi, nml_set])
      obtain ⟨a, ha⟩ : ∃ a, sh i = a := ⟨_, rfl⟩
      obtain ⟨x, hx⟩ : ∃ x, st i = x := ⟨_, rfl⟩
      rw [ha] at f1
      rw [hx] at f2
      have c0r : wr.cell? ⟨g, j * 3, none⟩ = some (.int .i64 (i : Int)) := by rw [ow.cellAt _ (by omega)]; exact f0
      have c1r : wr.cell? ⟨g, j * 3 + 1, none⟩ = some (.int .i64 a) := by rw [ow.cellAt _ (by omega)]; exact f1
      have c2r : wr.cell? ⟨g, j * 3 + 2, none⟩ = some (.int .i64 x) := by rw [ow.cellAt _ (by omega)]; exact f2
      have HV : Hid (nval sh st T i = if a < (T : Int) then -1 else x) := Lib.hid (by unfold nval; rw [ha, hx])
      obtain ⟨R, hR⟩ : ∃ R, nml (l + 1) (nval sh st T) (U.take j) = R := ⟨_, rfl⟩
      have hRl : R.length = l + 1 := by rw [← hR, nml_len]
      rw [hR] at HO HSE
      obtain ⟨z, hz⟩ : ∃ z, R[i]? = some z := ⟨_, List.getElem?_eq_getElem (by omega)⟩
      obtain ⟨wp, hwp⟩ : ∃ wp, wr.alloc (.cells #[.int .i64 (i : Int), .int .i64 a, .int .i64 x] 101) = wp := ⟨_, rfl⟩
      have bp : Below wr.heap.size wr wp := by rw [← hwp]; exact (Below.refl _ wr).alloc (Nat.le_refl _) _
      have np : wp.heap[wr.heap.size]? = some (.cells #[.int .i64 (i : Int), .int .i64 a, .int .i64 x] 101 (0, 0)) := by rw [← hwp]; exact World.alloc_heap_new wr _
      have op := own_below HO.out bp
      have s0 : wp.cell? ⟨wr.heap.size, 0, none⟩ = some (.int .i64 (i : Int)) := by rw [cell_of_row _ _ 0 _ _ _ np]; rfl
      have s2 : wp.cell? ⟨wr.heap.size, 2, none⟩ = some (.int .i64 x) := by rw [cell_of_row _ _ 2 _ _ _ np]; rfl
      have cz : wp.cell? ⟨gg, i, none⟩ = some (.int .i64 z) := by rw [op.cellAt i (by omega), List.getElem?_map, hz]; rfl
      have fz := op.frozenAt i
      obtain ⟨wq, hwq⟩ : ∃ wq, wp.setCell ⟨gg, i, none⟩ (.int .i64 x) = wq := ⟨_, rfl⟩
      have hggr : gg < wr.heap.size := own_lt HO.out rfl
      have oq : wq.ownsRow w.heap.size 3 1 (.slice (some ⟨gg, 0, none⟩) (l + 1) (l + 1)) (l + 1) ((R.set i x).map iv) := by rw [← hwq, List.map_set]; exact (op.stored i _).1
      have nq : wq.heap[wr.heap.size]? = some (.cells #[.int .i64 (i : Int), .int .i64 a, .int .i64 x] 101 (0, 0)) := by rw [← hwq, Below.heap_setCell _ ⟨gg, i, none⟩ _ _ (by show wr.heap.size ≠ gg; omega)]; exact np
      have t0 : wq.cell? ⟨wr.heap.size, 0, none⟩ = some (.int .i64 (i : Int)) := by rw [cell_of_row _ _ 0 _ _ _ nq]; rfl
      have t1 : wq.cell? ⟨wr.heap.size, 1, none⟩ = some (.int .i64 a) := by rw [cell_of_row _ _ 1 _ _ _ nq]; rfl
      have bq : Below w.heap.size w wq := by rw [← hwq]; exact (below_on HB.out (Nat.le_refl _) bp).setCell (p := ⟨gg, i, none⟩) hggl _
      have e1 := (bq.cell (cell_lt c1)).trans c1
      have cq : wq.cell? ⟨gg, i, none⟩ = some (.int .i64 x) := by rw [oq.cellAt i (by omega), List.getElem?_map, List.getElem?_set_self (by omega)]; rfl
      have fq := oq.frozenAt i
      have BQ := Lib.hid bq
      have OQ := Lib.hid oq
      clear f0 f1 f2 hi dr ow ha hx hR hz np nq bp op oq bq hRl
      by_cases hra : a < (T : Int)
      · have HF : Hid (nval sh st T i = -1) := Lib.hid (by rw [HV.out, if_pos hra])
        go_wp2
        go_region
        all_goals
          go_wp2
          exact ⟨⟨j + 1, by omega, by simp, Lib.hid (by rw [HSE.out, HF.out, ← List.set_set x, List.map_set]; exact (OQ.out.stored i _).1), Lib.hid ((BQ.out.setCell (p := ⟨gg, i, none⟩) hggl _).drew)⟩, by simp [intOf]; omega⟩
      · have HF : Hid (nval sh st T i = x) := Lib.hid (by rw [HV.out, if_neg hra])
        go_wp2
        go_region
        all_goals
          go_wp2
          exact ⟨⟨j + 1, by omega, by simp, Lib.hid (by rw [HSE.out, HF.out]; exact OQ.out), Lib.hid BQ.out.drew⟩, by simp [intOf]; omega⟩
    · have HE : Hid (U.take j = U) := Lib.hid (List.take_of_length_le (by rw [HU.out]; omega))
      rw [HE.out] at HO
      go_wp2
      go_ret
      exact ⟨gg, rfl, HO.out, HB.out⟩

end Go.Proofs.YtnlhokfhkohdpaaGreat.No

namespace Go.Proofs.YtnlhokfhkohdpaaGreat.No
open Go.RowKit Go.Shelf

theorem usy_sorted (k : List Nat) : (usy k).Pairwise (· < ·) := List.Pairwise.filter _ List.pairwise_lt_range
theorem usy_last {k : List Nat} {n : Nat} (hn : (usy k).length = n) (h0 : 0 < n) : (usy k)[n - 1]? = some (lst k) := by
  unfold lst
  rw [List.getLast?_eq_getElem?, hn, List.getElem?_eq_getElem (by omega)]
  rfl
theorem usy_le {k : List Nat} : ∀ i ∈ usy k, i ≤ lst k := by
  intro i hi
  obtain ⟨j, hj, rfl⟩ := List.getElem_of_mem hi
  have hl := usy_last (k := k) rfl (by omega)
  rw [List.getElem?_eq_getElem (by omega)] at hl
  have hl := Option.some.inj hl
  rw [← hl]
  rcases Nat.lt_or_ge j ((usy k).length - 1) with h | h
  · exact Nat.le_of_lt (List.pairwise_iff_getElem.1 (usy_sorted k) _ _ hj (by omega) h)
  · have e : j = (usy k).length - 1 := by omega
    simp only [e]
    exact Nat.le_refl _
theorem lst_mem {k : List Nat} (h : 0 < nus k) : lst k ∈ usy k := List.mem_of_getElem? (usy_last rfl (by rw [usy_len]; exact h))
theorem lst_lt {k : List Nat} (h : 0 < nus k) : lst k < k.length := (usy_mem.1 (lst_mem h)).1
theorem nrm_eq {k : List Nat} {s T : Nat} (h : 0 < nus k) (hT : tot k = T) : nml (lst k + 1) (nval (shr k s) (fin k s) T) (usy k) = nrm k s := by
  have hl := lst_lt h
  unfold nml nrm
  refine List.map_congr_left fun i hi => ?_
  rw [List.mem_range] at hi
  unfold nm nval shr
  subst hT
  by_cases hc : cn k i = 0
  · rw [if_pos hc, if_neg (fun e => by have := (usy_mem.1 e).2; omega)]
  · rw [if_neg hc, if_pos (usy_mem.2 ⟨by omega, by omega⟩)]
    by_cases h2 : cn k i * s < tot k
    · rw [if_pos h2, if_pos (by omega)]
    · rw [if_neg h2, if_neg (by omega)]
theorem rg0 (k : List Nat) {s : Nat} (hs : s ≤ 512) (hT : tot k ≤ 1099511627776) : Rg (usy k) (shr k s) (st0 k s) 512 := by
  refine ⟨fun i _ => ?_, fun i _ => st0_bd k hs i⟩
  unfold shr
  have h1 : cn k i * s ≤ 1099511627776 * 512 := Nat.mul_le_mul (Nat.le_trans (cn_le i) hT) hs
  omega
theorem lft_bd (k : List Nat) {s : Nat} (hs : s ≤ 512) (hu : nus k ≤ s) : -262144 ≤ lft k s ∧ lft k s ≤ 512 := by
  have h9 := sm_bound (st := st0 k s) (M := 512) (U := usy k) (fun j _ => st0_bd k hs j)
  rw [usy_len] at h9
  unfold lft
  omega

theorem results_cell2 {fn : Func} {a b : Tmp} {t : TypeId} (h : fn.results = #[.cell a t, .tmp b]) {tmps : Array Value} {P : Program} {w : World} {ad : Addr} {v : Value} (hp : tmps.getD a undef = .pointer (some ad)) (hl : (loadVar t ad).run P w = .ok v w) :
    (results fn tmps).run P w = .ok (.tuple #[v, tmps.getD b undef]) w := by
  have hp' : tmps[a]?.getD undef = .pointer (some ad) := by simpa using hp
  simp [results, h, hp', asAddr]
  rw [hl]
  simp [Result.andThen]

end Go.Proofs.YtnlhokfhkohdpaaGreat.No

namespace Go.Proofs.YtnlhokfhkohdpaaGreat.No
open Go.RowKit Go.Shelf

/-- A table as a value and as a block. -/
abbrev tb (z : Int) (A : Option Addr) (n c : Nat) : Value := .agg #[.int .i64 z, .slice A n c]
def Tb (W : World) (b : Nat) (z : Int) (A : Option Addr) (n c : Nat) : Prop := W.heap[b]? = some (.cells #[.int .i64 z, .slice A n c] 28 (0, 0))
section
variable {W W' : World} {b : Nat} {z : Int} {A : Option Addr} {n c : Nat}
theorem Tb.lt (h : Tb W b z A n c) : b < W.heap.size := (Array.getElem?_eq_some_iff.1 h).1
theorem Tb.c0 (h : Tb W b z A n c) : W.cell? ⟨b, 0, none⟩ = some (.int .i64 z) := by rw [cell_of_row W b 0 _ _ _ h]; rfl
theorem Tb.c1 (h : Tb W b z A n c) : W.cell? ⟨b, 1, none⟩ = some (.slice A n c) := by rw [cell_of_row W b 1 _ _ _ h]; rfl
theorem Tb.free (h : Tb W b z A n c) (i : Nat) : W.frozen? ⟨b, i, none⟩ = false := by
  have : W.heap[b]? = _ := h
  simp [World.frozen?, this]
theorem Tb.same (h : Tb W b z A n c) (hb : W'.heap[b]? = W.heap[b]?) : Tb W' b z A n c := hb.trans h
theorem Tb.below (h : Tb W b z A n c) (hb : Below W.heap.size W W') : Tb W' b z A n c := hb.block b h.lt |>.trans h
theorem Tb.set0 (h : Tb W b z A n c) (y : Int) : Tb (W.setCell ⟨b, 0, none⟩ (.int .i64 y)) b y A n c := by
  have hb : W.heap[b]? = _ := h
  unfold Tb
  simp [World.setCell, Array.getElem?_modify, hb]
theorem Tb.set1 (h : Tb W b z A n c) (A' : Option Addr) (n' c' : Nat) : Tb (W.setCell ⟨b, 1, none⟩ (.slice A' n' c')) b z A' n' c' := by
  have hb : W.heap[b]? = _ := h
  unfold Tb
  simp [World.setCell, Array.getElem?_modify, hb]
theorem Tb.new (W : World) (z : Int) (A : Option Addr) (n c : Nat) : Tb (W.alloc (.cells #[.int .i64 z, .slice A n c] 28)) W.heap.size z A n c := World.alloc_heap_new W _
theorem Tb.load (h : Tb W b z A n c) : (loadVar 28 ⟨b, 0, none⟩).run Tryz.prog W = .ok (tb z A n c) W := by
  have c0 := h.c0
  have c1 := h.c1
  simp [loadVar, go_sem, c0, c1]
end

/-- The arguments that have a normalized table. -/
def good (l : List Int) (z : Int) : Prop := may l = true ∧ 0 ≤ z ∧ z ≤ 9 ∧ us l ≤ 2 ^ z.toNat

theorem pow_le {lg : Nat} (h : lg ≤ 9) : 2 ^ lg ≤ 512 := by
  have := Nat.pow_le_pow_right (show 0 < 2 by decide) h
  rw [show (2 : Nat) ^ 9 = 512 by decide] at this
  exact this
theorem pow_wrap {lg s : Nat} (hs : 2 ^ lg = s) (h : s ≤ 512) : wrap64 (2 ^ lg) = (s : Int) := by
  have : (2 : Int) ^ lg = (s : Int) := by rw [← hs]; exact (Int.natCast_pow 2 lg).symm
  rw [this]
  unfold wrap64
  omega

/-- The norms lie where they lay when the table is stored. -/
theorem nrz_fin {w w1 w3 w4 Wb : World} {L g4 : Nat} {xs : List Value} {x y : Value} (ht : Tb w1 w.heap.size 0 none 0 0) (h1 : Below w.heap.size w w1) (h3 : Below w1.heap.size w1 w3) (ho : w4.ownsRow w3.heap.size 3 1 (.slice (some ⟨g4, 0, none⟩) L L) L xs) (h4 : Below w3.heap.size w3 w4)
    (e : (w4.setCell ⟨w.heap.size, 0, none⟩ x).setCell ⟨w.heap.size, 1, none⟩ y = Wb) : Wb.ownsRow w.heap.size 3 1 (.slice (some ⟨g4, 0, none⟩) L L) L xs ∧ Below w.heap.size w Wb := by
  have hb : Below w.heap.size w w4 := below_on (below_on h1 (Nat.le_refl _) h3) (Nat.le_refl _) h4
  have hlt := ht.lt
  have h3s := h3.size
  have h1s := h1.size
  subst e
  refine ⟨?_, (hb.setCell (p := ⟨w.heap.size, 0, none⟩) (Nat.le_refl _) _).setCell (p := ⟨w.heap.size, 1, none⟩) (Nat.le_refl _) _⟩
  have hge : w3.heap.size ≤ g4 := own_ge3 ho rfl
  refine own_same3 ⟨ho.1, ?_⟩ (fun g' e => ?_) (W := w4)
  · rcases ho.2 with h | ⟨g', c', cur, e1, e2, e3⟩
    · exact .inl h
    · exact .inr ⟨g', c', cur, e1, by omega, e3⟩
  · cases e
    rw [Below.heap_setCell _ ⟨w.heap.size, 1, none⟩ _ _ (by show g4 ≠ w.heap.size; omega), Below.heap_setCell _ ⟨w.heap.size, 0, none⟩ _ _ (by show g4 ≠ w.heap.size; omega)]

set_option maxRecDepth 100000 in
set_option maxHeartbeats 2000000 in
theorem normalize_bad1 (w : World) (A : Option Addr) (l : List Int) (N c : Nat) (z : Int) (hN : l.length = N) (hb : N ≤ 1000000000) (hR : Ri w A l) (hm : may l = false) :
    Calls Tryz.prog 7 #[.slice A N c, .int .i64 z] w fun e w' => e = .returned (.tuple #[tb 0 none 0 0, .int .i64 2]) ∧ Below w.heap.size w w' := by
  have g1 : Below w.heap.size w (w.alloc (.cells #[.int .i64 0, .slice none 0 0] 28)) := (Below.refl _ w).alloc (Nat.le_refl _) _
  have t1 := Tb.new w 0 none 0 0
  have SV := Lib.hid (survey_any _ A l N c hN hb (hR.below g1))
  unfold srv at SV
  rw [hm] at SV
  obtain ⟨w1, hw1⟩ : ∃ w1, w.alloc (.cells #[.int .i64 0, .slice none 0 0] 28) = w1 := ⟨_, rfl⟩
  rw [hw1] at g1 t1 SV
  have c0 := t1.c0
  have f0 := t1.free 0
  obtain ⟨Wa, hWa⟩ : ∃ Wa, w1.setCell ⟨w.heap.size, 0, none⟩ (.int .i64 0) = Wa := ⟨_, rfl⟩
  have ta : Tb Wa w.heap.size 0 none 0 0 := by rw [← hWa]; exact t1.set0 0
  have c1 := ta.c1
  have f1 := ta.free 1
  obtain ⟨Wb, hWb⟩ : ∃ Wb, Wa.setCell ⟨w.heap.size, 1, none⟩ (.slice none 0 0) = Wb := ⟨_, rfl⟩
  have t2 : Tb Wb w.heap.size 0 none 0 0 := by rw [← hWb]; exact ta.set1 none 0 0
  have FN : Hid (Tb Wb w.heap.size 0 none 0 0 ∧ Below w.heap.size w Wb) := Lib.hid ⟨t2, by rw [← hWb, ← hWa]; exact (g1.setCell (p := ⟨w.heap.size, 0, none⟩) (Nat.le_refl _) _).setCell (p := ⟨w.heap.size, 1, none⟩) (Nat.le_refl _) _⟩
  clear t1 ta t2 g1 hN hR hm
  go_enter Tryz.func7, Tryz.ntmps7
  go_wp2_with (go_at_call 15; refine SV.out.mono ?_; rintro e w' ⟨rfl, rfl⟩)
  refine bodyPost_ret (results_cell2 rfl rfl FN.out.1.load) rfl ?_
  exact ⟨rfl, FN.out.2⟩

set_option maxRecDepth 100000 in
set_option maxHeartbeats 2000000 in
theorem normalize_bad2 (w : World) (A : Option Addr) (l : List Int) (N c : Nat) (z : Int) (hN : l.length = N) (hb : N ≤ 1000000000) (hR : Ri w A l) (hm : may l = true) (hz : z < 0) :
    Calls Tryz.prog 7 #[.slice A N c, .int .i64 z] w fun e w' => e = .returned (.tuple #[tb 0 none 0 0, .int .i64 2]) ∧ Below w.heap.size w w' := by
  have d1 : decide (z < 0) = true := decide_eq_true hz
  have g1 : Below w.heap.size w (w.alloc (.cells #[.int .i64 0, .slice none 0 0] 28)) := (Below.refl _ w).alloc (Nat.le_refl _) _
  have t1 := Tb.new w 0 none 0 0
  have SV := Lib.hid (survey_any _ A l N c hN hb (hR.below g1))
  unfold srv at SV
  rw [hm] at SV
  obtain ⟨w1, hw1⟩ : ∃ w1, w.alloc (.cells #[.int .i64 0, .slice none 0 0] 28) = w1 := ⟨_, rfl⟩
  rw [hw1] at g1 t1 SV
  have c0 := t1.c0
  have f0 := t1.free 0
  obtain ⟨Wa, hWa⟩ : ∃ Wa, w1.setCell ⟨w.heap.size, 0, none⟩ (.int .i64 0) = Wa := ⟨_, rfl⟩
  have ta : Tb Wa w.heap.size 0 none 0 0 := by rw [← hWa]; exact t1.set0 0
  have c1 := ta.c1
  have f1 := ta.free 1
  obtain ⟨Wb, hWb⟩ : ∃ Wb, Wa.setCell ⟨w.heap.size, 1, none⟩ (.slice none 0 0) = Wb := ⟨_, rfl⟩
  have t2 : Tb Wb w.heap.size 0 none 0 0 := by rw [← hWb]; exact ta.set1 none 0 0
  have FN : Hid (Tb Wb w.heap.size 0 none 0 0 ∧ Below w.heap.size w Wb) := Lib.hid ⟨t2, by rw [← hWb, ← hWa]; exact (g1.setCell (p := ⟨w.heap.size, 0, none⟩) (Nat.le_refl _) _).setCell (p := ⟨w.heap.size, 1, none⟩) (Nat.le_refl _) _⟩
  clear t1 ta t2 g1 hN hR hm
  go_enter Tryz.func7, Tryz.ntmps7
  go_wp2_with (go_at_call 15; refine SV.out.mono ?_; rintro e w' ⟨rfl, rfl⟩)
  refine bodyPost_ret (results_cell2 rfl rfl FN.out.1.load) rfl ?_
  exact ⟨rfl, FN.out.2⟩

set_option maxRecDepth 100000 in
set_option maxHeartbeats 2000000 in
theorem normalize_bad3 (w : World) (A : Option Addr) (l : List Int) (N c : Nat) (z : Int) (hN : l.length = N) (hb : N ≤ 1000000000) (hR : Ri w A l) (hm : may l = true) (hz : 9 < z) :
    Calls Tryz.prog 7 #[.slice A N c, .int .i64 z] w fun e w' => e = .returned (.tuple #[tb 0 none 0 0, .int .i64 2]) ∧ Below w.heap.size w w' := by
  have d1 : decide (z < 0) = false := decide_eq_false (by omega)
  have d2 : decide (9 < z) = true := decide_eq_true hz
  have g1 : Below w.heap.size w (w.alloc (.cells #[.int .i64 0, .slice none 0 0] 28)) := (Below.refl _ w).alloc (Nat.le_refl _) _
  have t1 := Tb.new w 0 none 0 0
  have SV := Lib.hid (survey_any _ A l N c hN hb (hR.below g1))
  unfold srv at SV
  rw [hm] at SV
  obtain ⟨w1, hw1⟩ : ∃ w1, w.alloc (.cells #[.int .i64 0, .slice none 0 0] 28) = w1 := ⟨_, rfl⟩
  rw [hw1] at g1 t1 SV
  have c0 := t1.c0
  have f0 := t1.free 0
  obtain ⟨Wa, hWa⟩ : ∃ Wa, w1.setCell ⟨w.heap.size, 0, none⟩ (.int .i64 0) = Wa := ⟨_, rfl⟩
  have ta : Tb Wa w.heap.size 0 none 0 0 := by rw [← hWa]; exact t1.set0 0
  have c1 := ta.c1
  have f1 := ta.free 1
  obtain ⟨Wb, hWb⟩ : ∃ Wb, Wa.setCell ⟨w.heap.size, 1, none⟩ (.slice none 0 0) = Wb := ⟨_, rfl⟩
  have t2 : Tb Wb w.heap.size 0 none 0 0 := by rw [← hWb]; exact ta.set1 none 0 0
  have FN : Hid (Tb Wb w.heap.size 0 none 0 0 ∧ Below w.heap.size w Wb) := Lib.hid ⟨t2, by rw [← hWb, ← hWa]; exact (g1.setCell (p := ⟨w.heap.size, 0, none⟩) (Nat.le_refl _) _).setCell (p := ⟨w.heap.size, 1, none⟩) (Nat.le_refl _) _⟩
  clear t1 ta t2 g1 hN hR hm
  go_enter Tryz.func7, Tryz.ntmps7
  go_wp2_with (go_at_call 15; refine SV.out.mono ?_; rintro e w' ⟨rfl, rfl⟩)
  refine bodyPost_ret (results_cell2 rfl rfl FN.out.1.load) rfl ?_
  exact ⟨rfl, FN.out.2⟩

set_option maxRecDepth 100000 in
set_option maxHeartbeats 2000000 in
theorem normalize_bad4 (w : World) (A : Option Addr) (l : List Int) (N c : Nat) (z : Int) (hN : l.length = N) (hb : N ≤ 1000000000) (hR : Ri w A l) (hm : may l = true) (lg s : Nat) (hlg : lg ≤ 9) (hz : z = (lg : Int)) (hs : 2 ^ lg = s) (hs5 : s ≤ 512) (hu : s < us l) :
    Calls Tryz.prog 7 #[.slice A N c, .int .i64 z] w fun e w' => e = .returned (.tuple #[tb 0 none 0 0, .int .i64 2]) ∧ Below w.heap.size w w' := by
  subst hz
  have d1 : decide ((lg : Int) < 0) = false := decide_eq_false (by omega)
  have d2 : decide (9 < (lg : Int)) = false := decide_eq_false (by omega)
  have d3 : decide ((s : Int) < (us l : Int)) = true := decide_eq_true (by omega)
  have hsh : wrap64 (2 ^ lg) = (s : Int) := pow_wrap hs hs5
  clear hs
  have g1 : Below w.heap.size w (w.alloc (.cells #[.int .i64 0, .slice none 0 0] 28)) := (Below.refl _ w).alloc (Nat.le_refl _) _
  have t1 := Tb.new w 0 none 0 0
  have SV := Lib.hid (survey_any _ A l N c hN hb (hR.below g1))
  unfold srv at SV
  rw [hm] at SV
  obtain ⟨w1, hw1⟩ : ∃ w1, w.alloc (.cells #[.int .i64 0, .slice none 0 0] 28) = w1 := ⟨_, rfl⟩
  rw [hw1] at g1 t1 SV
  have c0 := t1.c0
  have f0 := t1.free 0
  obtain ⟨Wa, hWa⟩ : ∃ Wa, w1.setCell ⟨w.heap.size, 0, none⟩ (.int .i64 0) = Wa := ⟨_, rfl⟩
  have ta : Tb Wa w.heap.size 0 none 0 0 := by rw [← hWa]; exact t1.set0 0
  have c1 := ta.c1
  have f1 := ta.free 1
  obtain ⟨Wb, hWb⟩ : ∃ Wb, Wa.setCell ⟨w.heap.size, 1, none⟩ (.slice none 0 0) = Wb := ⟨_, rfl⟩
  have t2 : Tb Wb w.heap.size 0 none 0 0 := by rw [← hWb]; exact ta.set1 none 0 0
  have FN : Hid (Tb Wb w.heap.size 0 none 0 0 ∧ Below w.heap.size w Wb) := Lib.hid ⟨t2, by rw [← hWb, ← hWa]; exact (g1.setCell (p := ⟨w.heap.size, 0, none⟩) (Nat.le_refl _) _).setCell (p := ⟨w.heap.size, 1, none⟩) (Nat.le_refl _) _⟩
  clear t1 ta t2 g1 hN hR hm
  go_enter Tryz.func7, Tryz.ntmps7
  go_wp2_with (go_at_call 15; refine SV.out.mono ?_; rintro e w' ⟨rfl, rfl⟩)
  refine bodyPost_ret (results_cell2 rfl rfl FN.out.1.load) rfl ?_
  exact ⟨rfl, FN.out.2⟩

theorem normalize_bad (w : World) (A : Option Addr) (l : List Int) (N c : Nat) (z : Int) (hN : l.length = N) (hb : N ≤ 1000000000) (hR : Ri w A l) (hg : ¬ good l z) :
    Calls Tryz.prog 7 #[.slice A N c, .int .i64 z] w fun e w' => e = .returned (.tuple #[tb 0 none 0 0, .int .i64 2]) ∧ Below w.heap.size w w' := by
  cases hm : may l with
  | false => exact normalize_bad1 w A l N c z hN hb hR hm
  | true =>
    by_cases h1 : z < 0
    · exact normalize_bad2 w A l N c z hN hb hR hm h1
    · by_cases h2 : 9 < z
      · exact normalize_bad3 w A l N c z hN hb hR hm h2
      · refine normalize_bad4 w A l N c z hN hb hR hm z.toNat (2 ^ z.toNat) (by omega) (by omega) rfl (pow_le (by omega)) ?_
        rcases Nat.lt_or_ge (2 ^ z.toNat) (us l) with h | h
        · exact h
        · exact absurd ⟨hm, by omega, by omega, h⟩ hg

set_option maxRecDepth 100000 in
set_option maxHeartbeats 2000000 in
theorem normalize_ok (w : World) (A : Option Addr) (k : List Nat) (N c lg s : Nat) (hN : k.length = N) (hb : N ≤ 1000000) (hR : Rn w A k) (hT : tot k ≤ 1099511627776) (h0 : 0 < nus k) (hlg : lg ≤ 9) (hs : 2 ^ lg = s) (hu : nus k ≤ s) :
    Calls Tryz.prog 7 #[.slice A N c, .int .i64 (lg : Int)] w fun e w' => ∃ g, e = .returned (.tuple #[tb lg (some ⟨g, 0, none⟩) (lst k + 1) (lst k + 1), .int .i64 0]) ∧ w'.ownsRow w.heap.size 3 1 (.slice (some ⟨g, 0, none⟩) (lst k + 1) (lst k + 1)) (lst k + 1) ((nrm k s).map iv) ∧ Below w.heap.size w w' := by
  have hs5 : s ≤ 512 := by rw [← hs]; exact pow_le hlg
  have d1 : decide ((lg : Int) < 0) = false := decide_eq_false (by omega)
  have d2 : decide (9 < (lg : Int)) = false := decide_eq_false (by omega)
  have hsh : wrap64 (2 ^ lg) = (s : Int) := pow_wrap hs hs5
  have g1 : Below w.heap.size w (w.alloc (.cells #[.int .i64 0, .slice none 0 0] 28)) := (Below.refl _ w).alloc (Nat.le_refl _) _
  have t1 := Tb.new w 0 none 0 0
  obtain ⟨w1, hw1⟩ : ∃ w1, w.alloc (.cells #[.int .i64 0, .slice none 0 0] 28) = w1 := ⟨_, rfl⟩
  rw [hw1] at g1 t1
  have hR1 := hR.below g1
  have SV := Lib.hid (survey_any w1 A (k.map (fun n : Nat => (n : Int))) N c (by rw [List.length_map]; exact hN) (by omega) (by show Rv _ _ _; rw [ri_nats]; exact hR1))
  have hmp : (k.map (fun n : Nat => (n : Int))).map Int.toNat = k := by rw [List.map_map]; exact (List.map_congr_left (g := id) (fun x _ => by simp)).trans (List.map_id k)
  have hfi : fine (k.map (fun n : Nat => (n : Int))) = true := by
    unfold fine
    rw [hmp, Bool.and_eq_true, decide_eq_true_iff, List.all_eq_true]
    exact ⟨fun z hz => by obtain ⟨x, _, rfl⟩ := List.mem_map.1 hz; simp, hT⟩
  obtain ⟨T, hTe⟩ : ∃ T, tot k = T := ⟨_, rfl⟩
  obtain ⟨u, hue⟩ : ∃ u, nus k = u := ⟨_, rfl⟩
  have hsv : srv (k.map (fun n : Nat => (n : Int))) = .tuple #[nv T, nv u, .bool true] := by
    rw [srv_yes (s := T) (u := u) hfi (by rw [hmp]; exact hTe) (by rw [hmp]; exact hue), decide_eq_true (show (0 : Int) < (u : Int) by omega)]
  rw [hsv] at SV
  have hT0 : 0 < T := by rw [← hTe]; exact nus_tot h0
  have DV := Lib.hid (divide_any w1 A k N c T s hN (by omega) hTe hT0 (by omega) hs5 hu hR1)
  have hus := usy_len k
  rw [hue] at hus hu h0
  have d3 : decide ((s : Int) < (u : Int)) = false := decide_eq_false (by omega)
  have ST : Hid (∀ w2 v, Dv w2 w1.heap.size w1.heap.size v (usy k) (shr k s) (st0 k s) T (lft k s) → Below w1.heap.size w1 w2 →
      Calls Tryz.prog 18 #[.pointer (some ⟨w1.heap.size, 0, none⟩)] w2 fun e w' => e = .returned (.tuple #[]) ∧ (∃ g c, Dv w' w1.heap.size w1.heap.size (.slice (some ⟨g, 0, none⟩) u c) (usy k) (shr k s) (fin k s) T 0) ∧ Below w1.heap.size w2 w') := Lib.hid (fun w2 v hd hb2 => by
    obtain ⟨A', c', rfl, _⟩ := own_form3 hd.own
    obtain ⟨g, rfl⟩ := own_some3 (by omega) hd.own
    rw [hus] at hd
    have h1 := settle_any w2 w1.heap.size w1.heap.size g u c' (usy k) (shr k s) (st0 k s) T (lft k s) hd hb2.size hus h0 (by omega) (usy_nodup k) (by omega) (rg0 k hs5 (by omega)) (lft_bd k hs5 (by omega)) (by unfold lft; omega)
    refine h1.mono ?_
    rintro e w' ⟨rfl, h2, h3⟩
    refine ⟨rfl, ⟨g, c', ?_⟩, h3⟩
    unfold fin
    rw [hTe]
    exact h2)
  have NM : Hid (∀ w3 g c', Dv w3 w1.heap.size w1.heap.size (.slice (some ⟨g, 0, none⟩) u c') (usy k) (shr k s) (fin k s) T 0 →
      Calls Tryz.prog 19 #[.pointer (some ⟨w1.heap.size, 0, none⟩)] w3 fun e w' => ∃ g', e = .returned (.slice (some ⟨g', 0, none⟩) (lst k + 1) (lst k + 1)) ∧ w'.ownsRow w3.heap.size 3 1 (.slice (some ⟨g', 0, none⟩) (lst k + 1) (lst k + 1)) (lst k + 1) ((nrm k s).map iv) ∧ Below w3.heap.size w3 w') := Lib.hid (fun w3 g c' hd => by
    have h1 := norms_any w3 w1.heap.size w1.heap.size g u c' (lst k) (usy k) (shr k s) (fin k s) T 0 hd hus h0 (by omega) (usy_last hus h0) usy_le (by have := lst_lt (k := k) (by omega); omega)
    rw [nrm_eq (by omega) hTe] at h1
    exact h1)
  have T1 := Lib.hid t1
  have G1 := Lib.hid g1
  have hlk : lst k + 1 = lst k + 1 := rfl
  obtain ⟨L, hL⟩ : ∃ L, lst k + 1 = L := ⟨_, rfl⟩
  rw [hL] at NM
  rw [hL]
  clear hN hR hT hs hTe hue hmp hfi hsv hR1 hus t1 g1 hL hlk
  go_enter Tryz.func7, Tryz.ntmps7
  go_wp2_with (first
    | (go_at_call 15; refine SV.out.mono ?_; rintro e w' ⟨rfl, rfl⟩)
    | (go_at_call 17; refine DV.out.mono ?_; rintro e w2 ⟨v, rfl, hd2, hb2⟩; have D2 := Lib.hid hd2; have B2 := Lib.hid hb2; clear hd2 hb2)
    | (go_at_call 18; refine (ST.out w2 v D2.out B2.out).mono ?_; rintro e w3 ⟨rfl, ⟨g3, c3, hd3⟩, hb3⟩; have D3 := Lib.hid hd3; have B3 := Lib.hid (Below.trans B2.out hb3); clear hd3 hb3)
    | (go_at_call 19; refine (NM.out w3 g3 c3 D3.out).mono ?_; rintro e w4 ⟨g4, rfl, ho4, hb4⟩; have O4 := Lib.hid ho4; have B4 := Lib.hid (below_on B3.out (Nat.le_refl _) hb4); have t4 := T1.out.below B4.out; have c0 := t4.c0; have f0 := t4.free 0; obtain ⟨Wa, hWa⟩ : ∃ Wa, w4.setCell ⟨w.heap.size, 0, none⟩ (.int .i64 (lg : Int)) = Wa := ⟨_, rfl⟩; have ta : Tb Wa w.heap.size lg none 0 0 := (by rw [← hWa]; exact t4.set0 lg); have c1 := ta.c1; have f1 := ta.free 1; obtain ⟨Wb, hWb⟩ : ∃ Wb, Wa.setCell ⟨w.heap.size, 1, none⟩ (.slice (some ⟨g4, 0, none⟩) L L) = Wb := ⟨_, rfl⟩; have t5 : Tb Wb w.heap.size lg (some ⟨g4, 0, none⟩) L L := (by rw [← hWb]; exact ta.set1 _ _ _); have FN := Lib.hid (nrz_fin T1.out G1.out B3.out O4.out hb4 (show (w4.setCell ⟨w.heap.size, 0, none⟩ (.int .i64 (lg : Int))).setCell ⟨w.heap.size, 1, none⟩ (.slice (some ⟨g4, 0, none⟩) L L) = Wb by rw [hWa, hWb])); have T5 := Lib.hid t5; clear ho4 hb4 t4 ta t5))
  refine bodyPost_ret (results_cell2 rfl rfl T5.out.load) rfl ?_
  exact ⟨g4, rfl, FN.out⟩

end Go.Proofs.YtnlhokfhkohdpaaGreat.No
