/-
  Proved: the law StatesNil returns true for all tables, states and symbols: without a table every method fails, and a Coder has a copy of its table. No condition.
-/
import Derived.BigQuiet
import Derived.Deep.QuietTactic
import Derived.Deep.RegionLaw
import Derived.Deep.CutRange
import Derived.Test.YtonapehlhkoplaaBak
import Derived.Test.YtonapehlhkoplaaSam
namespace Go.Proofs.Ytonapehlhkoplaa.statesNil
open Go.ChangeShapes Go.WideShapes Go.ChangeAt Go.RowKit

set_option maxRecDepth 100000 in
set_option maxHeartbeats 4000000 in
theorem walk_long (y : Int) (A : Option Addr) (N cap : Nat) (t : Int) (z : Int) (w : World) (h : 300 < N) :
    Calls Try.prog 10 #[tb y A N cap, .int .i64 t, .int .i64 z] w fun e w' => e = .returned (.bool true) ∧ Below w.heap.size w w' := by
  have hd : decide ((300 : Int) < (N : Int)) = true := decide_eq_true (by omega)
  have b1 := below_new w (.cells #[.int .i64 y, .slice A N cap] 24)
  have t1 := Tb.new w y A N cap
  obtain ⟨w1, hw1⟩ : ∃ w1, w.alloc (.cells #[.int .i64 y, .slice A N cap] 24) = w1 := ⟨_, rfl⟩
  rw [hw1] at b1 t1
  have c0 := t1.c0
  have c1 := t1.c1
  have KN := Lib.hid (known_any w1)
  have B0 := Lib.hid b1
  clear b1 t1
  go_enter Try.func10, Try.ntmps10
  go_wp2_with (go_at_call 11; refine KN.out.mono ?_; rintro e w2 ⟨rfl, hb2⟩; have B1 := Lib.hid (below_on B0.out (Nat.le_refl _) hb2); clear hb2)
  go_ret
  exact ⟨rfl, B1.out⟩

/-- The copy of the table: block tk holds it, its norms are a row of the call's own. -/
def Own (w : World) (y : Int) (l : List Int) (N tk : Nat) (A : Option Addr) (c : Nat) (W : World) : Prop :=
  Tb W tk y A N c ∧ W.ownsRow w.heap.size 3 1 (.slice A N c) N (l.map iv) ∧ (∀ ad, A = some ad → ad.block ≠ tk) ∧ w.heap.size ≤ tk ∧ Below w.heap.size w W
theorem copy_one {w : World} {y : Int} {l : List Int} {N : Nat} {w5 : World} {A5 : Option Addr} {c5 : Nat} (ho : w5.ownsRow w.heap.size 3 1 (.slice A5 N c5) N (l.map iv)) (hb : Below w.heap.size w w5) :
    Own w y l N w5.heap.size A5 c5 (w5.alloc (.cells #[.int .i64 y, .slice A5 N c5] 24)) :=
  ⟨Tb.new w5 y A5 N c5, own_below ho (below_new _ _), fun ad e => by have := (own_addr ho ad e).2; omega, hb.size, hb.alloc hb.size _⟩
theorem copy_two {w : World} {y : Int} {l : List Int} {N : Nat} {w5 : World} {A5 : Option Addr} {c5 tk : Nat} (ho : w5.ownsRow (tk + 1) 3 1 (.slice A5 N c5) N (l.map iv)) (hb : Below w.heap.size w w5) (ht : w.heap.size = tk) (t1 : Tb w5 tk 0 none 0 0) :
    Own w y l N tk A5 c5 ((w5.setCell ⟨tk, 0, none⟩ (.int .i64 y)).setCell ⟨tk, 1, none⟩ (.slice A5 N c5)) := by
  refine ⟨(t1.set0 y).set1 A5 N c5, ?_, fun ad e => by have := (own_addr ho ad e).1; omega, by omega, ?_⟩
  · refine own_same (own_base ho (by omega)) fun g e => ?_
    have := own_ge ho e
    rw [Below.heap_setCell _ _ _ _ (by show g ≠ tk; omega), Below.heap_setCell _ _ _ _ (by show g ≠ tk; omega)]
  · exact (hb.setCell (p := ⟨tk, 0, none⟩) (by show w.heap.size ≤ tk; omega) _).setCell (p := ⟨tk, 1, none⟩) (by show w.heap.size ≤ tk; omega) _
/-- The copy's norms are overwritten: nothing else changes. -/
structure Wrt (w w2 w7 : World) (B5 : Nat) (y : Int) (l : List Int) (N tk g5 c5 cap b y' s : Nat) (A : Option Addr) (W : World) : Prop where
  row : ∃ xs, W.ownsRow w2.heap.size 3 1 (.slice (some ⟨g5, 0, none⟩) N c5) N xs
  own : Tb W tk y (some ⟨g5, 0, none⟩) N c5
  box : Tb W w.heap.size y A N cap
  rd : Ri W A l
  cod : Cdr W B5 b y' s N l
  bel : Below w2.heap.size w2 W
theorem Wrt.next {w w2 w7 : World} {B5 : Nat} {y : Int} {l : List Int} {N tk g5 c5 cap b y' s : Nat} {A : Option Addr} {W : World} (h : Wrt w w2 w7 B5 y l N tk g5 c5 cap b y' s A W) (hg : g5 ≠ tk) (hw : w.heap.size < w2.heap.size) (hA : ∀ ad, A = some ad → ad.block < w2.heap.size) (hB5 : g5 < B5) {j : Nat} (hj : j < N) :
    ∃ u, W.cell? ⟨g5, j, none⟩ = some u ∧ W.frozen? ⟨g5, j, none⟩ = false ∧ Wrt w w2 w7 B5 y l N tk g5 c5 cap b y' s A (W.setCell ⟨g5, j, none⟩ (.int .i64 77)) := by
  obtain ⟨xs, ho⟩ := h.row
  have hg2 : w2.heap.size ≤ g5 := own_ge ho rfl
  have hl : xs.length = N := by have := ho.1; omega
  obtain ⟨u, hu⟩ : ∃ u, xs[j]? = some u := ⟨_, List.getElem?_eq_getElem (by omega)⟩
  have hh : ∀ k, k ≠ g5 → (W.setCell ⟨g5, j, none⟩ (.int .i64 77)).heap[k]? = W.heap[k]? := fun k hk => Below.heap_setCell _ _ _ _ hk
  refine ⟨u, by rw [ho.cellAt j (by omega)]; exact hu, ho.frozenAt j, ⟨_, (ho.stored j _).1⟩, h.own.same (hh _ (fun e => hg e.symm)), h.box.same (hh _ (by omega)), h.rd.same (fun ad e => hh _ (by have := hA ad e; omega)), h.cod.same (fun k hk _ => hh k (by omega)), h.bel.setCell (p := ⟨g5, j, none⟩) hg2 _⟩

set_option maxRecDepth 100000 in
set_option maxHeartbeats 4000000 in
theorem walk_bad (y : Int) (A : Option Addr) (l : List Int) (N cap : Nat) (t z : Int) (w : World) (hN : l.length = N) (h : N ≤ 300) (hv : vt y l 256 9 = false) (hR : Ri w A l) :
    Calls Try.prog 10 #[tb y A N cap, .int .i64 t, .int .i64 z] w fun e w' => e = .returned (.bool true) ∧ Below w.heap.size w w' := by
  have hd : decide ((300 : Int) < (N : Int)) = false := decide_eq_false (by omega)
  have b1 := below_new w (.cells #[.int .i64 y, .slice A N cap] 24)
  have t1 := Tb.new w y A N cap
  obtain ⟨w1, hw1⟩ : ∃ w1, w.alloc (.cells #[.int .i64 y, .slice A N cap] 24) = w1 := ⟨_, rfl⟩
  rw [hw1] at b1 t1
  have c0 := t1.c0
  have c1 := t1.c1
  have hR1 := hR.below b1
  have MY : Hid (∀ W, Below w1.heap.size w1 W → Calls Try.prog 16 #[tb y A N cap, .int .i64 256, .int .i64 9] W fun e w' => e = .returned (.int .i64 13) ∧ Below W.heap.size W w') := Lib.hid (fun W hb => by
    have := may_any W y 256 9 A l N cap hN (by omega) (hR1.below hb)
    rw [hv] at this
    exact this)
  have B0 := Lib.hid b1
  have T1 := Lib.hid t1
  have z1 := Cb.new w1 0 none 0 0 none 0 0
  have bz1 := below_new w1 (.cells #[.int .i64 0, .slice none 0 0, .slice none 0 0] 64)
  obtain ⟨kz, hkz⟩ : ∃ kz, w1.heap.size = kz := ⟨_, rfl⟩
  obtain ⟨wy, hwy⟩ : ∃ wy, w1.alloc (.cells #[.int .i64 0, .slice none 0 0, .slice none 0 0] 64) = wy := ⟨_, rfl⟩
  rw [hwy] at z1 bz1
  rw [hkz] at z1
  have q0 := World.ownsRow_lit (base := 0) (e := 26) (size := 1) wy #[.pointer none, .pointer (some ⟨kz, 0, none⟩)] 2 (Nat.zero_le _) (by unfold maxLen; omega) rfl
  have bz2 := below_new wy (.cells #[.pointer none, .pointer (some ⟨kz, 0, none⟩)] 26)
  obtain ⟨gl, hgl⟩ : ∃ gl, wy.heap.size = gl := ⟨_, rfl⟩
  obtain ⟨wz, hwz⟩ : ∃ wz, wy.alloc (.cells #[.pointer none, .pointer (some ⟨kz, 0, none⟩)] 26) = wz := ⟨_, rfl⟩
  rw [hwz] at q0 bz2
  rw [hgl] at q0
  have CZ := Lib.hid (z1.below bz2)
  have PZ : Hid (wz.cell? ⟨gl, 0, none⟩ = some (.pointer none) ∧ wz.cell? ⟨gl, 1, none⟩ = some (.pointer (some ⟨kz, 0, none⟩))) := Lib.hid ⟨(q0.cellAt 0 (by decide)).trans rfl, (q0.cellAt 1 (by decide)).trans rfl⟩
  have BZ : Hid (Below w1.heap.size w1 wz) := Lib.hid (below_on bz1 (Nat.le_refl _) bz2)
  clear b1 t1 hR hR1 hN hv z1 bz1 bz2 q0
  go_enter Try.func10, Try.ntmps10
  go_wp2
  clear c0 c1
  go_loopw [10] (fun p wr => ∃ i : Nat, i ≤ 2 ∧ p = .int .i64 (i : Int) ∧ Hid (Below wz.heap.size wz wr)) (fun p _ => 2 - (intOf p).toNat)
  case atStart => exact ⟨0, by omega, rfl, Lib.hid (Below.refl _ _)⟩
  case round =>
    obtain ⟨i, hi, rfl, HB⟩ := hrel
    have h3 : i = 0 ∨ i = 1 ∨ i = 2 := by omega
    rcases h3 with rfl | rfl | rfl
    · clear hi
      have NN : Hid (∀ W, Below wz.heap.size wz W → Nn W (.pointer none)) := Lib.hid (fun W hb => .inl rfl)
      have PC : Hid (∀ W, Below wz.heap.size wz W → W.cell? ⟨gl, 0, none⟩ = some (.pointer none)) := Lib.hid (fun W hb => (hb.cell (cell_lt PZ.out.1)).trans PZ.out.1)
      have p1 := PC.out wr HB.out
      go_wp2_with (first
        | (go_at_call 15; refine (cell_nn wr (NN.out wr HB.out) t).mono ?_; rintro e w2 ⟨rfl, hb2⟩; obtain ⟨W1, Wa, Wb, Wc, hW1, k0, f0, hWa, k1, f1, hWb, k2, f2, hWc, hS, hBS, hB⟩ := new_cell (below_on HB.out (Nat.le_refl _) hb2) 0 0 0; have B2 := Lib.hid hB; have p2 := PC.out Wc hB; clear hS hBS hB hb2)
        | (go_at_call 21; refine (lowest_nn Wc (NN.out Wc B2.out) z).mono ?_; rintro e Wc ⟨rfl, rfl⟩)
        | (go_at_call 19; refine (predecessor_nn Wc (NN.out Wc B2.out) t z).mono ?_; rintro e w3 ⟨rfl, hb3⟩; obtain ⟨W1', Wa', Wb', Wc', hW1', j0, j0', hWa', j1, j1', hWb', j2, j2', hWc', hS, hBS, hB⟩ := new_step (below_on B2.out (Nat.le_refl _) hb3) 0 0 0; have B3 := Lib.hid hB; have p3 := PC.out Wc' hB; clear hS hBS hB hb3)
        | (go_at_call 25; refine (nexts_nn Wc' (NN.out Wc' B3.out) t 1).mono ?_; rintro e w4 ⟨rfl, hb4⟩; have B4 := Lib.hid (below_on B3.out (Nat.le_refl _) hb4); have p4 := PC.out w4 B4.out; clear hb4)
        | (go_at_call 14; refine (log_nn w4 (NN.out w4 B4.out)).mono ?_; rintro e w4 ⟨rfl, rfl⟩))
      exact ⟨⟨1, by omega, rfl, B4⟩, by simp [intOf]⟩
    · clear hi
      have NN : Hid (∀ W, Below wz.heap.size wz W → Nn W (.pointer (some ⟨kz, 0, none⟩))) := Lib.hid (fun W hb => .inr ⟨kz, rfl, CZ.out.below hb⟩)
      have PC : Hid (∀ W, Below wz.heap.size wz W → W.cell? ⟨gl, 1, none⟩ = some (.pointer (some ⟨kz, 0, none⟩))) := Lib.hid (fun W hb => (hb.cell (cell_lt PZ.out.2)).trans PZ.out.2)
      have p1 := PC.out wr HB.out
      go_wp2_with (first
        | (go_at_call 15; refine (cell_nn wr (NN.out wr HB.out) t).mono ?_; rintro e w2 ⟨rfl, hb2⟩; obtain ⟨W1, Wa, Wb, Wc, hW1, k0, f0, hWa, k1, f1, hWb, k2, f2, hWc, hS, hBS, hB⟩ := new_cell (below_on HB.out (Nat.le_refl _) hb2) 0 0 0; have B2 := Lib.hid hB; have p2 := PC.out Wc hB; clear hS hBS hB hb2)
        | (go_at_call 21; refine (lowest_nn Wc (NN.out Wc B2.out) z).mono ?_; rintro e Wc ⟨rfl, rfl⟩)
        | (go_at_call 19; refine (predecessor_nn Wc (NN.out Wc B2.out) t z).mono ?_; rintro e w3 ⟨rfl, hb3⟩; obtain ⟨W1', Wa', Wb', Wc', hW1', j0, j0', hWa', j1, j1', hWb', j2, j2', hWc', hS, hBS, hB⟩ := new_step (below_on B2.out (Nat.le_refl _) hb3) 0 0 0; have B3 := Lib.hid hB; have p3 := PC.out Wc' hB; clear hS hBS hB hb3)
        | (go_at_call 25; refine (nexts_nn Wc' (NN.out Wc' B3.out) t 1).mono ?_; rintro e w4 ⟨rfl, hb4⟩; have B4 := Lib.hid (below_on B3.out (Nat.le_refl _) hb4); have p4 := PC.out w4 B4.out; clear hb4)
        | (go_at_call 14; refine (log_nn w4 (NN.out w4 B4.out)).mono ?_; rintro e w4 ⟨rfl, rfl⟩))
      exact ⟨⟨2, by omega, rfl, B4⟩, by simp [intOf]⟩
    · clear hi
      have HB1 := Lib.hid (below_on BZ.out (Nat.le_refl _) HB.out)
      have tq := T1.out.below HB1.out
      have d0 := tq.c0
      have d1 := tq.c1
      go_wp2_with (first
        | (go_at_call 16; refine (MY.out wr HB1.out).mono ?_; rintro e w2 ⟨rfl, hb2⟩; have B2 := Lib.hid (below_on HB1.out (Nat.le_refl _) hb2); clear hb2)
        | (go_at_call 11; refine (known_any w2).mono ?_; rintro e w9 ⟨rfl, hb9⟩; have B9 := Lib.hid (below_on B0.out (Nat.le_refl _) (below_on B2.out (Nat.le_refl _) hb9)); clear hb9))
      go_ret
      exact ⟨rfl, B9.out⟩

set_option maxRecDepth 100000 in
set_option maxHeartbeats 4000000 in
theorem walk_ok (y s : Nat) (A : Option Addr) (l : List Int) (N cap : Nat) (t : Int) (z : Int) (w : World) (hN : l.length = N) (hv : Vt y l) (hse : 2 ^ y = s) (hR : Ri w A l) :
    Calls Try.prog 10 #[tb y A N cap, .int .i64 t, .int .i64 z] w fun e w' => e = .returned (.bool true) ∧ Below w.heap.size w w' := by
  have hN2 : N ≤ 256 := by rw [← hN]; exact hv.len
  have hy9 := hv.log
  have hs5 : s ≤ 512 := by rw [← hse]; exact hv.size
  have hs1 : 1 ≤ s := by rw [← hse]; exact Nat.one_le_two_pow
  have hd : decide ((300 : Int) < (N : Int)) = false := decide_eq_false (by omega)
  have b1 := below_new w (.cells #[.int .i64 (y : Int), .slice A N cap] 24)
  have t1 := Tb.new w (y : Int) A N cap
  obtain ⟨w1, hw1⟩ : ∃ w1, w.alloc (.cells #[.int .i64 (y : Int), .slice A N cap] 24) = w1 := ⟨_, rfl⟩
  rw [hw1] at b1 t1
  have c0 := t1.c0
  have c1 := t1.c1
  have hR1 := hR.below b1
  have MY : Hid (∀ W, Below w1.heap.size w1 W → Calls Try.prog 16 #[tb y A N cap, .int .i64 256, .int .i64 9] W fun e w' => e = .returned (.int .i64 0) ∧ Below W.heap.size W w') := Lib.hid (fun W hb => by
    have := may_any W (y : Int) 256 9 A l N cap hN (by omega) (hR1.below hb)
    rw [vt_iff.2 ⟨y, rfl, hv⟩] at this
    exact this)
  have hN1 : 1 ≤ N := by rw [← hN]; exact hv.pos
  have B0 := Lib.hid b1
  have T1 := Lib.hid t1
  have R1 := Lib.hid hR1
  have HN := Lib.hid hN
  have HV := Lib.hid hv
  have HS := Lib.hid hse
  have z1 := Cb.new w1 0 none 0 0 none 0 0
  have bz1 := below_new w1 (.cells #[.int .i64 0, .slice none 0 0, .slice none 0 0] 64)
  obtain ⟨kz, hkz⟩ : ∃ kz, w1.heap.size = kz := ⟨_, rfl⟩
  obtain ⟨wy, hwy⟩ : ∃ wy, w1.alloc (.cells #[.int .i64 0, .slice none 0 0, .slice none 0 0] 64) = wy := ⟨_, rfl⟩
  rw [hwy] at z1 bz1
  rw [hkz] at z1
  have q0 := World.ownsRow_lit (base := 0) (e := 26) (size := 1) wy #[.pointer none, .pointer (some ⟨kz, 0, none⟩)] 2 (Nat.zero_le _) (by unfold maxLen; omega) rfl
  have bz2 := below_new wy (.cells #[.pointer none, .pointer (some ⟨kz, 0, none⟩)] 26)
  obtain ⟨gl, hgl⟩ : ∃ gl, wy.heap.size = gl := ⟨_, rfl⟩
  obtain ⟨wz, hwz⟩ : ∃ wz, wy.alloc (.cells #[.pointer none, .pointer (some ⟨kz, 0, none⟩)] 26) = wz := ⟨_, rfl⟩
  rw [hwz] at q0 bz2
  rw [hgl] at q0
  have CZ := Lib.hid (z1.below bz2)
  have PZ : Hid (wz.cell? ⟨gl, 0, none⟩ = some (.pointer none) ∧ wz.cell? ⟨gl, 1, none⟩ = some (.pointer (some ⟨kz, 0, none⟩))) := Lib.hid ⟨(q0.cellAt 0 (by decide)).trans rfl, (q0.cellAt 1 (by decide)).trans rfl⟩
  have BZ : Hid (Below w1.heap.size w1 wz) := Lib.hid (below_on bz1 (Nat.le_refl _) bz2)
  obtain ⟨C, hC⟩ : ∃ C, cls y l (spl s l) = C := ⟨_, rfl⟩
  obtain ⟨⟨pi, pv, pn⟩, hp⟩ : ∃ p, pra C t z = p := ⟨_, rfl⟩
  obtain ⟨e9, he9⟩ : ∃ e9, pre C t z = e9 := ⟨_, rfl⟩
  have eP : Tp C t z = .tuple #[stv (pi : Int) (pv : Int) (pn : Int), .int .i64 e9] := by unfold Tp; rw [hp, he9]
  have CS : Hid (∀ W, Ri W A l → Calls Try.prog 18 #[tb y A N cap] W fun e w' => ∃ g cp, e = .returned (.slice (some ⟨g, 0, none⟩) s cp) ∧ Rc w' g s cp C ∧ Below W.heap.size W w') := Lib.hid (fun W hb => by rw [← hC]; exact cells_any W y s A l N cap hN hv hse hb)
  have PR : Hid (∀ W B b, Cdr W B b y s N l → Calls Try.prog 19 #[.pointer (some ⟨b, 0, none⟩), .int .i64 t, .int .i64 z] W fun e w' => e = .returned (.tuple #[stv (pi : Int) (pv : Int) (pn : Int), .int .i64 e9]) ∧ Below W.heap.size W w') := Lib.hid (fun W B b h => by
    obtain ⟨gc, go, V, h⟩ := h
    rw [← eP, ← hC]
    exact predecessor_any W h hN hv hse t z)
  have AH : Hid (∀ W g cp, Rc W g s cp C → Calls Try.prog 20 #[.slice (some ⟨g, 0, none⟩) s cp, .int .i64 t, .int .i64 z] W fun e w' => e = .returned (.tuple #[stv (pi : Int) (pv : Int) (pn : Int), .int .i64 e9]) ∧ Below W.heap.size W w') := Lib.hid (fun W g cp h => by rw [← eP]; exact ahead_any W g s cp C t z h)
  have L1 : Hid (w.heap.size < w1.heap.size) := Lib.hid t1.lt
  have LA : Hid (∀ ad, A = some ad → ad.block < w1.heap.size) := Lib.hid (fun ad e => by
    obtain ⟨u, hu⟩ : ∃ u, l[0]? = some u := ⟨_, List.getElem?_eq_getElem (by omega)⟩
    obtain ⟨ad', e', hc⟩ := hR1 0 (iv u) (by rw [List.getElem?_map, hu]; rfl)
    rw [e] at e'
    injection e' with e'
    have := cell_lt hc
    rw [addr_zero, ← e'] at this
    exact this)
  clear b1 t1 hR hR1 hN hv hse z1 bz1 bz2 q0 hC hp he9 eP
  go_enter Try.func10, Try.ntmps10
  go_wp2
  clear c0 c1
  go_loopw [10] (fun p wr => ∃ i : Nat, i ≤ 2 ∧ p = .int .i64 (i : Int) ∧ Hid (Below wz.heap.size wz wr)) (fun p _ => 2 - (intOf p).toNat)
  case atStart => exact ⟨0, by omega, rfl, Lib.hid (Below.refl _ _)⟩
  case round =>
    obtain ⟨i, hi, rfl, HB⟩ := hrel
    have h3 : i = 0 ∨ i = 1 ∨ i = 2 := by omega
    rcases h3 with rfl | rfl | rfl
    · clear hi
      have NN : Hid (∀ W, Below wz.heap.size wz W → Nn W (.pointer none)) := Lib.hid (fun W hb => .inl rfl)
      have PC : Hid (∀ W, Below wz.heap.size wz W → W.cell? ⟨gl, 0, none⟩ = some (.pointer none)) := Lib.hid (fun W hb => (hb.cell (cell_lt PZ.out.1)).trans PZ.out.1)
      have p1 := PC.out wr HB.out
      go_wp2_with (first
        | (go_at_call 15; refine (cell_nn wr (NN.out wr HB.out) t).mono ?_; rintro e w2 ⟨rfl, hb2⟩; obtain ⟨W1, Wa, Wb, Wc, hW1, k0, f0, hWa, k1, f1, hWb, k2, f2, hWc, hS, hBS, hB⟩ := new_cell (below_on HB.out (Nat.le_refl _) hb2) 0 0 0; have B2 := Lib.hid hB; have p2 := PC.out Wc hB; clear hS hBS hB hb2)
        | (go_at_call 21; refine (lowest_nn Wc (NN.out Wc B2.out) z).mono ?_; rintro e Wc ⟨rfl, rfl⟩)
        | (go_at_call 19; refine (predecessor_nn Wc (NN.out Wc B2.out) t z).mono ?_; rintro e w3 ⟨rfl, hb3⟩; obtain ⟨W1', Wa', Wb', Wc', hW1', j0, j0', hWa', j1, j1', hWb', j2, j2', hWc', hS, hBS, hB⟩ := new_step (below_on B2.out (Nat.le_refl _) hb3) 0 0 0; have B3 := Lib.hid hB; have p3 := PC.out Wc' hB; clear hS hBS hB hb3)
        | (go_at_call 25; refine (nexts_nn Wc' (NN.out Wc' B3.out) t 1).mono ?_; rintro e w4 ⟨rfl, hb4⟩; have B4 := Lib.hid (below_on B3.out (Nat.le_refl _) hb4); have p4 := PC.out w4 B4.out; clear hb4)
        | (go_at_call 14; refine (log_nn w4 (NN.out w4 B4.out)).mono ?_; rintro e w4 ⟨rfl, rfl⟩))
      exact ⟨⟨1, by omega, rfl, B4⟩, by simp [intOf]⟩
    · clear hi
      have NN : Hid (∀ W, Below wz.heap.size wz W → Nn W (.pointer (some ⟨kz, 0, none⟩))) := Lib.hid (fun W hb => .inr ⟨kz, rfl, CZ.out.below hb⟩)
      have PC : Hid (∀ W, Below wz.heap.size wz W → W.cell? ⟨gl, 1, none⟩ = some (.pointer (some ⟨kz, 0, none⟩))) := Lib.hid (fun W hb => (hb.cell (cell_lt PZ.out.2)).trans PZ.out.2)
      have p1 := PC.out wr HB.out
      go_wp2_with (first
        | (go_at_call 15; refine (cell_nn wr (NN.out wr HB.out) t).mono ?_; rintro e w2 ⟨rfl, hb2⟩; obtain ⟨W1, Wa, Wb, Wc, hW1, k0, f0, hWa, k1, f1, hWb, k2, f2, hWc, hS, hBS, hB⟩ := new_cell (below_on HB.out (Nat.le_refl _) hb2) 0 0 0; have B2 := Lib.hid hB; have p2 := PC.out Wc hB; clear hS hBS hB hb2)
        | (go_at_call 21; refine (lowest_nn Wc (NN.out Wc B2.out) z).mono ?_; rintro e Wc ⟨rfl, rfl⟩)
        | (go_at_call 19; refine (predecessor_nn Wc (NN.out Wc B2.out) t z).mono ?_; rintro e w3 ⟨rfl, hb3⟩; obtain ⟨W1', Wa', Wb', Wc', hW1', j0, j0', hWa', j1, j1', hWb', j2, j2', hWc', hS, hBS, hB⟩ := new_step (below_on B2.out (Nat.le_refl _) hb3) 0 0 0; have B3 := Lib.hid hB; have p3 := PC.out Wc' hB; clear hS hBS hB hb3)
        | (go_at_call 25; refine (nexts_nn Wc' (NN.out Wc' B3.out) t 1).mono ?_; rintro e w4 ⟨rfl, hb4⟩; have B4 := Lib.hid (below_on B3.out (Nat.le_refl _) hb4); have p4 := PC.out w4 B4.out; clear hb4)
        | (go_at_call 14; refine (log_nn w4 (NN.out w4 B4.out)).mono ?_; rintro e w4 ⟨rfl, rfl⟩))
      exact ⟨⟨2, by omega, rfl, B4⟩, by simp [intOf]⟩
    · clear hi
      have HB1 := Lib.hid (below_on BZ.out (Nat.le_refl _) HB.out)
      have tq := T1.out.below HB1.out
      have d0 := tq.c0
      have d1 := tq.c1
      go_wp2_with (go_at_call 16; refine (MY.out wr HB1.out).mono ?_; rintro e w2 ⟨rfl, hb2⟩; have B2 := Lib.hid (below_on HB1.out (Nat.le_refl _) hb2); have tq := T1.out.below B2.out; have c0 := tq.c0; have c1 := tq.c1; clear hb2 tq)
      clear d0 d1
      have T2 := Lib.hid (T1.out.below B2.out)
      have R2 := Lib.hid (R1.out.below B2.out)
      have L2 : Hid (w1.heap.size ≤ w2.heap.size) := Lib.hid B2.out.size
      obtain ⟨k, hk⟩ : ∃ k, w2.heap.size = k := ⟨_, rfl⟩
      have HK := Lib.hid hk
      have RA : Hid (Rv w2.drew A (l.map iv)) := Lib.hid (Rv.same R2.out (fun _ _ => rfl))
      have RB : Hid (Rv (w2.alloc (.cells #[.int .i64 0, .slice none 0 0] 24)).drew A (l.map iv)) := Lib.hid (Rv.same (R2.out.below (below_new w2 (.cells #[.int .i64 0, .slice none 0 0] 24))) (fun _ _ => rfl))
      have SB : Hid (k + 1 ≤ (w2.alloc (.cells #[.int .i64 0, .slice none 0 0] 24)).drew.heap.size) := Lib.hid (by show k + 1 ≤ (w2.alloc (.cells #[.int .i64 0, .slice none 0 0] 24)).heap.size; rw [World.size_alloc, hk]; exact Nat.le_refl _)
      have TB : Hid (∀ w5, (w2.alloc (.cells #[.int .i64 0, .slice none 0 0] 24)).drew.grownBy w5 none → Tb w5 k 0 none 0 0 ∧ Below w2.heap.size w2 w5) := Lib.hid (fun w5 hg => by
        have t0 := Tb.new w2 0 none 0 0
        rw [hk] at t0
        refine ⟨(hg.block k t0.lt (fun e => by cases e)).trans t0, hg.os, hg.tape, hg.output, Nat.le_trans (by simp) hg.size, fun i hi => ?_⟩
        refine (hg.block i (by simp; omega) (fun e => by cases e)).trans ?_
        exact Below.heap_alloc _ _ _ hi)
      have qa := T2.out.below (below_new w2 (.cells #[.int .i64 0, .slice none 0 0] 24))
      have ca0 := qa.c0
      have ca1 := qa.c1
      clear qa
      go_cut [19] from 102 to 107 (fun t wx => ∃ tk A5 c5, t = .pointer (some ⟨tk, 0, none⟩) ∧ Hid (Own w2 y l N tk A5 c5 wx))
      case first =>
        go_region_law (first
          | (refine step_append_vals Try.underlying22 int_info rfl rfl (.const (.slice none 0 0)) (.tmp 105) rfl w2.heap.size (.slice none 0 0) 0 [] (by simp [Act.eval]) (own_nil _ _) A (l.map iv) (iv_one l) N cap (by rw [List.length_map]; exact HN.out) (by simp [Act.eval]) RA.out (by omega) (by omega) (Nat.le_refl _) ?_; intro v5 w5 ho5 hg5 _; rw [Nat.zero_add, List.nil_append] at ho5; obtain ⟨A5, c5, rfl, _⟩ := own_form ho5; have O5 := Lib.hid ho5; have B5 : Hid (Below w2.heap.size w2 w5) := Lib.hid ⟨hg5.os, hg5.tape, hg5.output, hg5.size, fun i hi => hg5.block i hi (fun e => by cases e)⟩; have qb := T2.out.below B5.out; have cb0 := qb.c0; have cb1 := qb.c1; have qc := qb.below ((Below.refl _ w5).alloc (Nat.le_refl _) (.cells #[.int .i64 0, .slice none 0 0] 24)); have cc0 := qc.c0; have cc1 := qc.c1; clear ho5 hg5 qb qc)
          | (refine step_append_vals Try.underlying22 int_info rfl rfl (.const (.slice none 0 0)) (.tmp 105) rfl (k + 1) (.slice none 0 0) 0 [] (by simp [Act.eval]) (own_nil _ _) A (l.map iv) (iv_one l) N cap (by rw [List.length_map]; exact HN.out) (by simp [Act.eval]) RB.out (by omega) (by omega) SB.out ?_; intro v5 w5 ho5 hg5 _; rw [Nat.zero_add, List.nil_append] at ho5; obtain ⟨A5, c5, rfl, _⟩ := own_form ho5; have O5 := Lib.hid ho5; obtain ⟨t5, b5⟩ := TB.out w5 hg5; have s0 := t5.c0; have s1 := t5.c1; have s2 := t5.free 0; have s3 := t5.free 1; obtain ⟨Wa, hWa⟩ : ∃ Wa, w5.setCell ⟨k, 0, none⟩ (.int .i64 (y : Int)) = Wa := ⟨_, rfl⟩; have ta : Tb Wa k y none 0 0 := (by rw [← hWa]; exact t5.set0 y); have s4 := ta.c1; have s5 := ta.free 1; have T5 := Lib.hid t5; have B5 := Lib.hid b5; have qb := T2.out.below b5; have cb0 := qb.c0; have cb1 := qb.c1; clear ho5 hg5 t5 ta b5 qb))
        all_goals (go_wp2_with fail; go_meet; first | exact ⟨_, A5, c5, rfl, Lib.hid (copy_one O5.out B5.out)⟩ | exact ⟨k, A5, c5, rfl, Lib.hid (by rw [← hWa]; exact copy_two O5.out B5.out HK.out T5.out)⟩)
      case rest =>
        obtain ⟨tk, A5, c5, rfl, HOW⟩ := hcut
        obtain ⟨hT5, hO5, hne5, htk, hB5⟩ := HOW.out
        obtain ⟨g5, rfl⟩ := own_some (by omega) hO5
        have hg5w : g5 < wc.heap.size := own_lt hO5 rfl
        have hg5 : g5 ≠ tk := hne5 _ rfl
        have R5 : Hid (Ri wc (some ⟨g5, 0, none⟩) l) := Lib.hid (Rv.of_own hO5)
        have p0 := hT5.c0
        have p1 := hT5.c1
        have T5 := Lib.hid hT5
        have O5 := Lib.hid hO5
        have B5 := Lib.hid hB5
        have NE := Lib.hid hg5
        have LW := Lib.hid hg5w
        have BG : Hid (Calls Try.prog 17 #[tb y (some ⟨g5, 0, none⟩) N c5] wc fun e w' => ∃ b, e = .returned (.pointer (some ⟨b, 0, none⟩)) ∧ Cdr w' wc.heap.size b y s N l ∧ Below wc.heap.size wc w') := Lib.hid (begin_ok wc y s (some ⟨g5, 0, none⟩) l N c5 HN.out HV.out HS.out R5.out)
        have NS : Hid (∀ W, Ri W (some ⟨g5, 0, none⟩) l → Ri W A l → Calls Try.prog 27 #[tb y (some ⟨g5, 0, none⟩) N c5, tb y A N cap] W fun e w' => e = .returned (.bool true) ∧ Below W.heap.size W w') := Lib.hid (fun W h1 h2 => by
          have := rsame_any W y y (some ⟨g5, 0, none⟩) A l l N c5 N cap HN.out HN.out (by omega) h1 h2
          rwa [show sam y y l l = true by simp [sam]] at this)
        clear HOW hT5 hO5 hne5 htk hB5 hg5 hg5w RA RB SB TB ca0 ca1 c0 c1 HK hk
        go_wp2_with (first
          | (go_at_call 17; refine BG.out.mono ?_; rintro e w6 ⟨b, rfl, hC6, hb6⟩; have C6 := Lib.hid hC6; have P6 := Lib.hid hb6; have B6 := Lib.hid (below_on B5.out (Nat.le_refl _) hb6); have tq := T5.out.below hb6; have x0 := tq.c0; have x1 := tq.c1; have tr := T2.out.below B6.out; have y0 := tr.c0; have y1 := tr.c1; clear hC6 hb6 tq tr)
          | (go_at_call 27; refine (NS.out w6 (R5.out.below P6.out) (R2.out.below B6.out)).mono ?_; rintro e w7 ⟨rfl, hb7⟩; have C7 := Lib.hid (C6.out.below hb7); have B7 := Lib.hid (below_on B6.out (Nat.le_refl _) hb7); have P7 := Lib.hid (below_on P6.out (Nat.le_refl _) hb7); clear hb7))
        clear p0 p1 x0 x1 y0 y1
        have WR : Hid (Wrt w w2 w7 wc.heap.size y l N tk g5 c5 cap b y s A w7) := Lib.hid ⟨⟨_, own_below O5.out P7.out⟩, T5.out.below P7.out, T2.out.below B7.out, R2.out.below B7.out, C7.out, B7.out⟩
        go_loopw [21] (fun p wr => ∃ j : Nat, j ≤ N ∧ p = .int .i64 (j : Int) ∧ Hid (Wrt w w2 w7 wc.heap.size y l N tk g5 c5 cap b y s A wr)) (fun p _ => N - (intOf p).toNat)
        case atStart => exact ⟨0, Nat.zero_le _, rfl, WR⟩
        case round =>
          obtain ⟨j, hj, rfl, HW⟩ := hrel
          have x1 := HW.out.own.c1
          by_cases hlt : j < N
          · obtain ⟨u, cu, fu, hw9⟩ := HW.out.next NE.out (by have := L1.out; have := L2.out; omega) (fun ad e => by have := LA.out ad e; have := L2.out; omega) LW.out hlt
            have H9 := Lib.hid hw9
            have wj : IntKind.i64.wrap (j : Int) = (j : Int) := IntWalk.i64_in _ (by omega)
            clear hw9 HW
            go_wp2
            exact ⟨⟨j + 1, by omega, by simp, H9⟩, by simp [intOf]; omega⟩
          · have B8 := Lib.hid HW.out.bel
            have C8 := Lib.hid HW.out.cod
            have R8 := Lib.hid HW.out.rd
            have T8 := Lib.hid HW.out.box
            go_wp2_with (first
              | (go_at_call 19; refine (PR.out wr _ b C8.out).mono ?_; rintro e w9 ⟨rfl, hb9⟩; obtain ⟨W1, Wa, Wb, Wc, hW1, k0, f0, hWa, k1, f1, hWb, k2, f2, hWc, hS, hBS, hB⟩ := new_step (below_on B8.out (Nat.le_refl _) hb9) (pi : Int) (pv : Int) (pn : Int); have S9 := Lib.hid hS; have B9 := Lib.hid hB; have tq := (T8.out.below hb9).below hBS; have x2 := tq.c0; have x3 := tq.c1; have R9 := Lib.hid ((R8.out.below hb9).below hBS); clear hS hBS hB hb9 tq)
              | (go_at_call 18; refine (CS.out Wc R9.out).mono ?_; rintro e w10 ⟨g, cp, rfl, hr10, hb10⟩; have K10 := Lib.hid hr10; have S10 := Lib.hid (S9.out.below hb10); have B10 := Lib.hid (below_on B9.out (Nat.le_refl _) hb10); clear hr10 hb10)
              | (go_at_call 20; refine (AH.out w10 g cp K10.out).mono ?_; rintro e w11 ⟨rfl, hb11⟩; obtain ⟨W1', Wa', Wb', Wc', hW1', j0, j0', hWa', j1, j1', hWb', j2, j2', hWc', hS, hBS, hB⟩ := new_step (below_on B10.out (Nat.le_refl _) hb11) (pi : Int) (pv : Int) (pn : Int); have o0 := hS.c0; have o1 := hS.c1; have o2 := hS.c2; have sq := (S10.out.below hb11).below hBS; have u0 := sq.c0; have u1 := sq.c1; have u2 := sq.c2; have B11 := Lib.hid hB; clear hS hBS hB hb11 sq)
              | (go_at_call 11; refine (known_any _).mono ?_; rintro e w12 ⟨rfl, hb12⟩; have B12 := Lib.hid (below_on B0.out (Nat.le_refl _) (below_on B2.out (Nat.le_refl _) (below_on B11.out (Nat.le_refl _) hb12))); clear hb12))
            go_ret
            exact ⟨rfl, B12.out⟩

theorem walk (y : Int) (A : Option Addr) (l : List Int) (cap : Nat) (t : Int) (z : Int) (w : World) (hR : Ri w A l) (_ : ∀ z ∈ l, -9223372036854775808 ≤ z ∧ z ≤ 9223372036854775807) (_ : l.length ≤ cap) (_ : (Lit.int .i64 t).wf = true) (_ : (Lit.int .i64 z).wf = true) :
    Calls Try.prog 10 #[tb y A l.length cap, .int .i64 t, .int .i64 z] w fun e w' => e = .returned (.bool true) ∧ Below w.heap.size w w' := by
  by_cases h : 300 < l.length
  · exact walk_long y A _ cap t z w h
  · cases hv : vt y l 256 9 with
    | false => exact walk_bad y A l _ cap t z w rfl (by omega) hv hR
    | true =>
      obtain ⟨n, rfl, hv2⟩ := vt_iff.1 hv
      exact walk_ok n _ A l _ cap t z w rfl hv2 rfl hR

set_option maxRecDepth 100000 in
theorem lifted (os : Os) (started : os.Started) (H : Type) (enc : TypeId × Value → H) :
    ReturnsInHanded {} Try.checked os 10 .any (Rows.statesNilSpec.pre6 enc Try.prog Try.f10 Rows.statesNilRow.domain false) (Rows.statesNilSpec.post enc Try.prog Try.f10 false true false false) := by
  refine returnsInHanded_of_change_sized (C := Try.checked) ownB started (by kernel_rfl) Try.func10
    (ChangeSpec.witness6 (enc := enc) (C := Try.checked) false ⟨#[], #[.agg #[.int .i64 0, .slice none 0 0], .int .i64 0, .int .i64 0], []⟩ 8 (by kernel_rfl) (by kernel_rfl) (by kernel_rfl) (by kernel_rfl)) ?_
  intro W base args ds gs before hval0 hW _ hsz0 _
  have hsz : (DataW.weightsEach Try.prog (Try.f10.params.toList ++ Rows.statesNilSpec.plain.varTypes Try.prog) (ds ++ gs)).all (· ≤ reachBytes) = true := hsz0
  clear hsz0
  have hval : ∀ (j : Nat) t v, Try.f10.params[j]? = some t → args[j]? = some v → Value.okWide Try.prog W .any base t v := hval0
  have hW' := hW
  obtain ⟨p, q, hA0, hV, rfl, hfz, hnd⟩ := hW
  have hA : DataW.TrodAll enc Try.prog W 0 (fun _ => true) true Try.f10.params.toList args.toList ds p := hA0
  rw [Try.params10] at hA hval hsz
  obtain ⟨v0, vs0, d0, ds0, p0, q0, hargs, rfl, rfl, h0, r0⟩ := trodAll_cons hA
  obtain ⟨v1, vs1, d1, ds1, p1, q1, rfl, rfl, rfl, h1, r1⟩ := trodAll_cons r0
  obtain ⟨v2, vs2, d2, ds2, p2, q2, rfl, rfl, rfl, h2, r2⟩ := trodAll_cons r1
  obtain ⟨rfl, rfl, rfl⟩ := trodAll_nil r2
  obtain rfl : args = #[v0, v1, v2] := by cases args; simp_all
  obtain ⟨rfl, rfl⟩ := trodVars_none hV
  obtain ⟨cs0, rfl, hcs0⟩ := okWide_struct Try.underlying24 (hval 0 24 v0 rfl rfl)
  have k0 := h0
  have lt0 : ∀ x ∈ p0, x.block < W.heap.size := by obtain ⟨m, hm⟩ := k0; exact DataW.trod_lt m _ _ _ hm
  obtain ⟨y0, a0, len0, cap0, l0, rfl, rfl, hc0, ri0, wi0⟩ := open_tab hcs0 h0
  obtain ⟨a1, rfl, rfl, rfl, w1⟩ := open_int Try.underlying3 (hval 1 3 v1 rfl rfl) h1
  obtain ⟨a2, rfl, rfl, rfl, w2⟩ := open_int Try.underlying3 (hval 2 3 v2 rfl rfl) h2
  clear hA0 hval0
  refine (walk y0 a0 l0 cap0 a1 a2 W ri0 wi0 hc0 w1 w2).mono fun e W' ⟨he, bel⟩ => ?_
  subst he
  exact ⟨_, rfl, _, _, _, [], _, [], hW', trodAll_mk1 (shut_bool Try.underlying4 _), (trodAll_cons_mk (Below.trod laidOut (by kernel_rfl) (of_decide_eq_true (by kernel_rfl)) k0 bel lt0) (trodAll_cons_mk (shut_int Try.underlying3 w1) (trodAll_cons_mk (shut_int Try.underlying3 w2) trodAll_mk0))), rfl, bel.frame _, fun h => by cases h⟩

theorem proved : Rows.StatesNilSaid :=
  OpenClaim.holds_of_wide 10 Try.f10 rfl rfl rfl rfl rfl rfl rfl ⟨rfl, rfl, rfl, rfl, rfl⟩ rfl rfl rfl rfl rfl (by kernel_rfl) Try.func10 (by kernel_rfl)
    (of_decide_eq_true (by kernel_rfl)) (by unfold Func.isWrapper; rw [if_neg (by decide +kernel)]; exact ⟨rfl, rfl⟩)
    (fun os started H enc _ => lifted os started H enc)

#print axioms proved

end Go.Proofs.Ytonapehlhkoplaa.statesNil
