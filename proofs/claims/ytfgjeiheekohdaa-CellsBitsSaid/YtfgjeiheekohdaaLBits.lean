/-
  Proved: the law CellsBits returns true for all tables: the bits of a symbol's cells are the rounded logarithm, do not increase, and are equal where the states are a power of two. No condition.
-/
import Derived.Test.YtfgjeiheekohdaaBim
import Derived.BigQuiet
import Derived.Deep.QuietTactic
namespace Go.Proofs.Ytfgjeiheekohdaa.cellsBits
open Go.ChangeShapes Go.WideShapes Go.ChangeAt Go.RowKit

set_option maxRecDepth 100000 in
set_option maxHeartbeats 4000000 in
theorem walk_long (y : Int) (A : Option Addr) (N cap : Nat) (w : World) (h : 300 < N) :
    Calls Try.prog 6 #[tb y A N cap] w fun e w' => e = .returned (.bool true) ∧ Below w.heap.size w w' := by
  have hd : decide ((300 : Int) < (N : Int)) = true := decide_eq_true (by omega)
  have b1 : Below w.heap.size w (w.alloc (.cells #[.int .i64 y, .slice A N cap] 24)) := (Below.refl _ w).alloc (Nat.le_refl _) _
  have t1 := Tb.new w y A N cap
  obtain ⟨w1, hw1⟩ : ∃ w1, w.alloc (.cells #[.int .i64 y, .slice A N cap] 24) = w1 := ⟨_, rfl⟩
  rw [hw1] at b1 t1
  have c0 := t1.c0
  have c1 := t1.c1
  have KN := Lib.hid (known_any w1)
  have B0 := Lib.hid b1
  clear b1 t1
  go_enter Try.func6, Try.ntmps6
  go_wp2_with (go_at_call 11; refine KN.out.mono ?_; rintro e w2 ⟨rfl, hb2⟩; have B1 := Lib.hid (below_on B0.out (Nat.le_refl _) hb2); clear hb2)
  go_ret
  exact ⟨rfl, B1.out⟩

set_option maxRecDepth 100000 in
set_option maxHeartbeats 4000000 in
theorem walk_bad (y : Int) (A : Option Addr) (l : List Int) (N cap : Nat) (w : World) (hN : l.length = N) (h : N ≤ 300) (hv : vt y l 256 9 = false) (hR : Ri w A l) :
    Calls Try.prog 6 #[tb y A N cap] w fun e w' => e = .returned (.bool true) ∧ Below w.heap.size w w' := by
  have hd : decide ((300 : Int) < (N : Int)) = false := decide_eq_false (by omega)
  have b1 : Below w.heap.size w (w.alloc (.cells #[.int .i64 y, .slice A N cap] 24)) := (Below.refl _ w).alloc (Nat.le_refl _) _
  have t1 := Tb.new w y A N cap
  obtain ⟨w1, hw1⟩ : ∃ w1, w.alloc (.cells #[.int .i64 y, .slice A N cap] 24) = w1 := ⟨_, rfl⟩
  rw [hw1] at b1 t1
  have c0 := t1.c0
  have c1 := t1.c1
  have MY : Hid (Calls Try.prog 15 #[tb y A N cap, .int .i64 256, .int .i64 9] w1 fun e w' => e = .returned (.int .i64 13) ∧ Below w1.heap.size w1 w') := Lib.hid (by
    have := may_any w1 y 256 9 A l N cap hN (by omega) (hR.below b1)
    rw [hv] at this
    exact this)
  have B0 := Lib.hid b1
  clear b1 t1 hR hN hv
  go_enter Try.func6, Try.ntmps6
  go_wp2_with (first
    | (go_at_call 15; refine MY.out.mono ?_; rintro e w2 ⟨rfl, hb2⟩; have B2 := Lib.hid (below_on B0.out (Nat.le_refl _) hb2); clear hb2)
    | (go_at_call 11; refine (known_any w2).mono ?_; rintro e w3 ⟨rfl, hb3⟩; have B3 := Lib.hid (below_on B2.out (Nat.le_refl _) hb3); clear hb3))
  go_ret
  exact ⟨rfl, B3.out⟩

set_option maxRecDepth 100000 in
set_option maxHeartbeats 4000000 in
theorem walk_ok (y s : Nat) (A : Option Addr) (l : List Int) (N cap : Nat) (w : World) (hN : l.length = N) (hv : Vt y l) (hse : 2 ^ y = s) (hR : Ri w A l) :
    Calls Try.prog 6 #[tb y A N cap] w fun e w' => e = .returned (.bool true) ∧ Below w.heap.size w w' := by
  have hN2 : N ≤ 256 := by rw [← hN]; exact hv.len
  have hy9 := hv.log
  have hd : decide ((300 : Int) < (N : Int)) = false := decide_eq_false (by omega)
  have b1 : Below w.heap.size w (w.alloc (.cells #[.int .i64 (y : Int), .slice A N cap] 24)) := (Below.refl _ w).alloc (Nat.le_refl _) _
  have t1 := Tb.new w (y : Int) A N cap
  obtain ⟨w1, hw1⟩ : ∃ w1, w.alloc (.cells #[.int .i64 (y : Int), .slice A N cap] 24) = w1 := ⟨_, rfl⟩
  rw [hw1] at b1 t1
  have c0 := t1.c0
  have c1 := t1.c1
  have hR1 := hR.below b1
  have hs5 : s ≤ 512 := by rw [← hse]; exact hv.size
  have MY : Hid (Calls Try.prog 15 #[tb y A N cap, .int .i64 256, .int .i64 9] w1 fun e w' => e = .returned (.int .i64 0) ∧ Below w1.heap.size w1 w') := Lib.hid (by
    have := may_any w1 (y : Int) 256 9 A l N cap hN (by omega) hR1
    rw [vt_iff.2 ⟨y, rfl, hv⟩] at this
    exact this)
  have BU : Hid (∀ W, Below w1.heap.size w1 W → Calls Try.prog 12 #[tb y A N cap] W fun e w' => ∃ g, e = .returned (.tuple #[.slice (some ⟨g, 0, none⟩) s s, .int .i64 0]) ∧ w'.ownsRow W.heap.size 45 3 (.slice (some ⟨g, 0, none⟩) s s) s (flat3 (cls y l (spl s l))) ∧ Below W.heap.size W w') := Lib.hid (fun W hb => build_ok W y s A l N cap hN hv hse (hR1.below hb))
  have HC : Hid (∀ i, i < s → ∃ x z n X, (spl s l)[i]? = some x ∧ l[x]? = some z ∧ -1 ≤ z ∧ sts z = ((n : Nat) : Int) ∧ nos l x = n ∧ n + ((spl s l).take i).count x = X ∧ (cls y l (spl s l))[i]? = some (x, bts y X, bse y X) ∧ Num y n X) := Lib.hid (fun i hi => by
    have hl : i < (spl s l).length := by rw [spl_len]; exact hi
    obtain ⟨x, hx⟩ : ∃ x, (spl s l)[i]? = some x := ⟨_, List.getElem?_eq_getElem hl⟩
    obtain ⟨z, n, h1, h2, h3, h4⟩ := vt_norm hv (i := i) (x := x) (by rw [hse]; exact hx)
    have h5 := hv.num (i := i) (x := x) (by rw [hse]; exact hx)
    rw [hse, h4] at h5
    have h6 : xof l (spl s l) i = n + ((spl s l).take i).count x := by unfold xof; rw [hx, Option.getD_some, h4]
    refine ⟨x, z, n, _, hx, h1, h2, h3, h4, rfl, ?_, by rw [← h6]; exact h5⟩
    rw [cls_get hl, ← h6]; unfold cel; rw [hx]; rfl)
  have HS := Lib.hid hse
  have HN := Lib.hid hN
  have R1 := Lib.hid hR1
  obtain ⟨K, hK⟩ : ∃ K, spl s l = K := ⟨_, rfl⟩
  rw [hK] at BU HC
  obtain ⟨C, hC⟩ : ∃ C, cls y l K = C := ⟨_, rfl⟩
  rw [hC] at BU HC
  have B0 := Lib.hid b1
  have T1 := Lib.hid t1
  have HM := fun (W : World) => make_ints N (by omega) W
  clear b1 t1 hR hR1 hN hv hse hK hC
  go_enter Try.func6, Try.ntmps6
  go_wp2_with (first
    | (go_at_call 15; refine MY.out.mono ?_; rintro e w2 ⟨rfl, hb2⟩; have B2 := Lib.hid hb2; have q2 := T1.out.below hb2; have d0 := q2.c0; have d1 := q2.c1; clear hb2 q2)
    | (go_at_call 12; refine (BU.out w2 B2.out).mono ?_; rintro e w4 ⟨g, rfl, ho3, hb3⟩; have O3 := Lib.hid ho3; have B4 := Lib.hid (below_on B2.out (Nat.le_refl _) hb3); have q3 := T1.out.below B4.out; have e0 := q3.c0; have e1 := q3.c1; clear hb3 q3 ho3; obtain ⟨w5, hmk, ho5, hb5⟩ := HM w4; have O5 := Lib.hid ho5; have B5 := Lib.hid hb5; clear ho5 hb5))
  obtain ⟨g5, hg5⟩ : ∃ g, w4.heap.size = g := ⟨_, rfl⟩
  have HG5 := Lib.hid hg5
  have O6 : Hid (w5.ownsRow w4.heap.size 3 1 (.slice (some ⟨g5, 0, none⟩) N N) N ((lst N y l K 0).map nv)) := Lib.hid (by
    have := O5.out
    rw [lst_zero, List.map_replicate]
    rw [List.map_replicate] at this
    rw [← hg5]
    exact this)
  simp only [hg5]
  clear c0 c1 d0 d1 e0 e1 MY BU O5 HM hmk hg5
  go_loopw [6] (fun p wr => ∃ i : Nat, i ≤ s ∧ p = .int .i64 (i : Int) ∧ Hid (wr.ownsRow w4.heap.size 3 1 (.slice (some ⟨g5, 0, none⟩) N N) N ((lst N y l K i).map nv)) ∧ Hid (Below w4.heap.size w4 wr)) (fun p _ => s - (intOf p).toNat)
  case atStart => exact ⟨0, Nat.zero_le _, rfl, O6, B5⟩
  case round =>
    obtain ⟨i, hi, rfl, HO, HB⟩ := hrel
    by_cases hlt : i < s
    · obtain ⟨x, z, n, X, hx, hz, hz1, hzn, hn, hX, hc, hNum⟩ := HC.out i hlt
      have hxN : x < N := by rw [← HN.out]; exact (List.getElem?_eq_some_iff.1 hz).1
      have q1 := hNum.ceil
      have q2 := hNum.floor
      have q4 := hNum.pos
      have q7 := hNum.le
      have q8 := bts_le y X
      obtain ⟨b, hb⟩ : ∃ b, bts y X = b := ⟨_, rfl⟩
      obtain ⟨D, hD⟩ : ∃ D, 2 ^ b = D := ⟨_, rfl⟩
      obtain ⟨U, hU⟩ : ∃ U, bse y X = U := ⟨_, rfl⟩
      obtain ⟨T, hT⟩ : ∃ T, D * n = T := ⟨_, rfl⟩
      rw [hb, hD, HS.out, Nat.mul_comm n D, hT] at q1 q2
      rw [HS.out] at q7
      rw [hb] at q8
      rw [hb, hU] at hc
      have HPW : Hid (¬ T = s → ¬ (n = 1 ∨ n = 2 ∨ n = 4 ∨ n = 8 ∨ n = 16 ∨ n = 32 ∨ n = 64 ∨ n = 128 ∨ n = 256 ∨ n = 512)) := Lib.hid (fun h1 h2 => by
        obtain ⟨e, he⟩ := two_pow_list h2
        rw [he] at hNum
        have h3 := hNum.power
        rw [hb, hD, HS.out, ← he, Nat.mul_comm n D, hT] at h3
        exact h1 h3)
      obtain ⟨a0, a1, a2⟩ := row_at (ro_below O3.out HB.out) hc
      simp only [nw] at a0 a1 a2
      obtain ⟨ad, rfl, hcz⟩ := (R1.out.below B4.out) x (iv z) (by rw [List.getElem?_map, hz]; rfl)
      have az : wr.cell? (ad.add x) = some (.int .i64 z) := (HB.out.cell (cell_lt hcz)).trans hcz
      have tw := (T1.out.below B4.out).below HB.out
      have t0 := tw.c0
      have t1 := tw.c1
      have lx : wr.cell? ⟨g5, x, none⟩ = some (.int .i64 ((lab y l K i x : Nat) : Int)) := by rw [HO.out.cellAt x (by omega), List.getElem?_map, lst_get l K i hxN]; rfl
      have z1 := HO.out.frozenAt x
      have hmono := lab_mono (y := y) (i := i) hn q4 hX
      have hlle := lab_le y i x l K
      have NXT : Hid (∀ nq, ((wr.drewN nq).setCell ⟨g5, x, none⟩ (.int .i64 ((b : Int) + 1))).ownsRow w4.heap.size 3 1 (.slice (some ⟨g5, 0, none⟩) N N) N ((lst N y l K (i + 1)).map nv) ∧ Below w4.heap.size w4 ((wr.drewN nq).setCell ⟨g5, x, none⟩ (.int .i64 ((b : Int) + 1)))) := Lib.hid (fun nq => by
        have h1 : (wr.drewN nq).ownsRow w4.heap.size 3 1 (.slice (some ⟨g5, 0, none⟩) N N) N ((lst N y l K i).map nv) := HO.out
        refine ⟨?_, (below_drewN' HB.out nq).setCell (p := ⟨g5, x, none⟩) (by rw [HG5.out]; exact Nat.le_refl _) _⟩
        have h2 := (h1.stored x (.int .i64 ((b : Int) + 1))).1
        have h3 := lst_set (N := N) (y := y) (X := X) hx (by rw [hn]; exact hX)
        rw [hb] at h3
        rw [← h3, List.map_set]
        exact h2)
      obtain ⟨v0, hv0⟩ : ∃ v0, lab y l K i x = v0 := ⟨_, rfl⟩
      rw [hv0] at lx hmono hlle
      rw [hb] at hmono
      have hz2 : z ≤ 512 := by unfold sts at hzn; split at hzn <;> omega
      have SA : Hid (∀ W', Calls Try.prog 18 #[.int .i64 z] W' fun e w' => e = .returned (.int .i64 (n : Int)) ∧ w' = W') := Lib.hid (fun W' => by
        have := rstates_any W' z
        rwa [hzn] at this)
      have SZ : Hid (∀ W', Calls Try.prog 17 #[.int .i64 (b : Int)] W' fun e w' => e = .returned (.int .i64 (D : Int)) ∧ w' = W') := Lib.hid (fun W' => by
        have := size_any W' (b : Int)
        rwa [siz_pow (by omega) hD] at this)
      have eT : (D : Int) * (n : Int) = (T : Int) := by rw [← hT]; exact (Int.natCast_mul D n).symm
      have k0 : decide ((x : Int) < 0) = false := decide_eq_false (by omega)
      have k1 : decide ((N : Int) ≤ (x : Int)) = false := decide_eq_false (by omega)
      have k2 : decide ((b : Int) < 0) = false := decide_eq_false (by omega)
      have k3 : decide (9 < (b : Int)) = false := decide_eq_false (by omega)
      have k4 : decide (2 * (s : Int) ≤ (T : Int)) = false := decide_eq_false (by omega)
      have k5 : decide (2 * (T : Int) ≤ (s : Int)) = false := decide_eq_false (by omega)
      have k6 : ¬ N ≤ x := by omega
      have k7 : ¬ 9 < b := by omega
      have k8 : ¬ 2 * s ≤ T := by omega
      have k9 : ¬ 2 * T ≤ s := by omega
      have wx : IntKind.i64.wrap (x : Int) = (x : Int) := IntWalk.i64_in _ (by omega)
      have wi : IntKind.i64.wrap (i : Int) = (i : Int) := IntWalk.i64_in _ (by omega)
      have wT : IntKind.i64.wrap (T : Int) = (T : Int) := IntWalk.i64_in _ (by omega)
      have hTb : T ≤ 2000 := by omega
      clear hx hz hz1 hzn hn hX hc hNum hb hD hU hT hcz tw HO hv0 q1 q2 q7
      rcases hmono with hcase | hcase
      · have hl0 : v0 = 0 := hcase
        subst hl0
        clear hcase
        by_cases hcase2 : T = s
        · have hs1 : ((T : Int) != (s : Int)) = false := by simp [hcase2]
          clear hcase2 HPW
          go_wp2_with (first
            | (go_at_call 18; refine (SA.out _).mono ?_; rintro e wr ⟨rfl, rfl⟩)
            | (go_at_call 17; refine (SZ.out _).mono ?_; rintro e wr ⟨rfl, rfl⟩))
          go_quiet (fail)
          have z2 : (wr.drewN nq).frozen? ⟨g5, x, none⟩ = false := z1
          have z3 : (wr.drewN nq).cell? ⟨g5, x, none⟩ = some (.int .i64 (0 : Int)) := lx
          have z4 : (wr.drewN nq).cell? ⟨g, i * 3 + 1, none⟩ = some (.int .i64 (b : Int)) := a1
          have F9 : Hid (((wr.drewN nq).setCell ⟨g5, x, none⟩ (.int .i64 ((b : Int) + 1))).ownsRow w4.heap.size 3 1 (.slice (some ⟨g5, 0, none⟩) N N) N ((lst N y l K (i + 1)).map nv) ∧ Below w4.heap.size w4 ((wr.drewN nq).setCell ⟨g5, x, none⟩ (.int .i64 ((b : Int) + 1)))) := Lib.hid (NXT.out _)
          go_wp2
          exact ⟨⟨i + 1, by omega, by simp, Lib.hid F9.out.1, Lib.hid F9.out.2⟩, by simp [intOf]; omega⟩
        · have hs1 : ((T : Int) != (s : Int)) = true := by simp; omega
          have hn1 : ((n : Int) == 1) = false := by have := HPW.out hcase2; simp; omega
          have hn2 : ((n : Int) == 2) = false := by have := HPW.out hcase2; simp; omega
          have hn4 : ((n : Int) == 4) = false := by have := HPW.out hcase2; simp; omega
          have hn8 : ((n : Int) == 8) = false := by have := HPW.out hcase2; simp; omega
          have hn16 : ((n : Int) == 16) = false := by have := HPW.out hcase2; simp; omega
          have hn32 : ((n : Int) == 32) = false := by have := HPW.out hcase2; simp; omega
          have hn64 : ((n : Int) == 64) = false := by have := HPW.out hcase2; simp; omega
          have hn128 : ((n : Int) == 128) = false := by have := HPW.out hcase2; simp; omega
          have hn256 : ((n : Int) == 256) = false := by have := HPW.out hcase2; simp; omega
          have hn512 : ((n : Int) == 512) = false := by have := HPW.out hcase2; simp; omega
          clear hcase2 HPW
          go_wp2_with (first
            | (go_at_call 18; refine (SA.out _).mono ?_; rintro e wr ⟨rfl, rfl⟩)
            | (go_at_call 17; refine (SZ.out _).mono ?_; rintro e wr ⟨rfl, rfl⟩))
          go_quiet (fail)
          have z2 : (wr.drewN nq).frozen? ⟨g5, x, none⟩ = false := z1
          have z3 : (wr.drewN nq).cell? ⟨g5, x, none⟩ = some (.int .i64 (0 : Int)) := lx
          have z4 : (wr.drewN nq).cell? ⟨g, i * 3 + 1, none⟩ = some (.int .i64 (b : Int)) := a1
          have F9 : Hid (((wr.drewN nq).setCell ⟨g5, x, none⟩ (.int .i64 ((b : Int) + 1))).ownsRow w4.heap.size 3 1 (.slice (some ⟨g5, 0, none⟩) N N) N ((lst N y l K (i + 1)).map nv) ∧ Below w4.heap.size w4 ((wr.drewN nq).setCell ⟨g5, x, none⟩ (.int .i64 ((b : Int) + 1)))) := Lib.hid (NXT.out _)
          go_wp2
          exact ⟨⟨i + 1, by omega, by simp, Lib.hid F9.out.1, Lib.hid F9.out.2⟩, by simp [intOf]; omega⟩
      · have hl1 : decide (0 < (v0 : Int)) = true := decide_eq_true (by omega)
        have hl2 : decide ((v0 : Int) < (b : Int) + 1) = false := decide_eq_false (by omega)
        have hl3 : 0 < v0 := by omega
        have hl4 : ¬ v0 < b + 1 := by omega
        clear hcase
        by_cases hcase2 : T = s
        · have hs1 : ((T : Int) != (s : Int)) = false := by simp [hcase2]
          clear hcase2 HPW
          go_wp2_with (first
            | (go_at_call 18; refine (SA.out _).mono ?_; rintro e wr ⟨rfl, rfl⟩)
            | (go_at_call 17; refine (SZ.out _).mono ?_; rintro e wr ⟨rfl, rfl⟩))
          go_quiet (fail)
          have z2 : (wr.drewN nq).frozen? ⟨g5, x, none⟩ = false := z1
          have z3 : (wr.drewN nq).cell? ⟨g5, x, none⟩ = some (.int .i64 (v0 : Int)) := lx
          have z4 : (wr.drewN nq).cell? ⟨g, i * 3 + 1, none⟩ = some (.int .i64 (b : Int)) := a1
          have F9 : Hid (((wr.drewN nq).setCell ⟨g5, x, none⟩ (.int .i64 ((b : Int) + 1))).ownsRow w4.heap.size 3 1 (.slice (some ⟨g5, 0, none⟩) N N) N ((lst N y l K (i + 1)).map nv) ∧ Below w4.heap.size w4 ((wr.drewN nq).setCell ⟨g5, x, none⟩ (.int .i64 ((b : Int) + 1)))) := Lib.hid (NXT.out _)
          go_wp2
          exact ⟨⟨i + 1, by omega, by simp, Lib.hid F9.out.1, Lib.hid F9.out.2⟩, by simp [intOf]; omega⟩
        · have hs1 : ((T : Int) != (s : Int)) = true := by simp; omega
          have hn1 : ((n : Int) == 1) = false := by have := HPW.out hcase2; simp; omega
          have hn2 : ((n : Int) == 2) = false := by have := HPW.out hcase2; simp; omega
          have hn4 : ((n : Int) == 4) = false := by have := HPW.out hcase2; simp; omega
          have hn8 : ((n : Int) == 8) = false := by have := HPW.out hcase2; simp; omega
          have hn16 : ((n : Int) == 16) = false := by have := HPW.out hcase2; simp; omega
          have hn32 : ((n : Int) == 32) = false := by have := HPW.out hcase2; simp; omega
          have hn64 : ((n : Int) == 64) = false := by have := HPW.out hcase2; simp; omega
          have hn128 : ((n : Int) == 128) = false := by have := HPW.out hcase2; simp; omega
          have hn256 : ((n : Int) == 256) = false := by have := HPW.out hcase2; simp; omega
          have hn512 : ((n : Int) == 512) = false := by have := HPW.out hcase2; simp; omega
          clear hcase2 HPW
          go_wp2_with (first
            | (go_at_call 18; refine (SA.out _).mono ?_; rintro e wr ⟨rfl, rfl⟩)
            | (go_at_call 17; refine (SZ.out _).mono ?_; rintro e wr ⟨rfl, rfl⟩))
          go_quiet (fail)
          have z2 : (wr.drewN nq).frozen? ⟨g5, x, none⟩ = false := z1
          have z3 : (wr.drewN nq).cell? ⟨g5, x, none⟩ = some (.int .i64 (v0 : Int)) := lx
          have z4 : (wr.drewN nq).cell? ⟨g, i * 3 + 1, none⟩ = some (.int .i64 (b : Int)) := a1
          have F9 : Hid (((wr.drewN nq).setCell ⟨g5, x, none⟩ (.int .i64 ((b : Int) + 1))).ownsRow w4.heap.size 3 1 (.slice (some ⟨g5, 0, none⟩) N N) N ((lst N y l K (i + 1)).map nv) ∧ Below w4.heap.size w4 ((wr.drewN nq).setCell ⟨g5, x, none⟩ (.int .i64 ((b : Int) + 1)))) := Lib.hid (NXT.out _)
          go_wp2
          exact ⟨⟨i + 1, by omega, by simp, Lib.hid F9.out.1, Lib.hid F9.out.2⟩, by simp [intOf]; omega⟩
    · go_wp2_with (go_at_call 11; refine (known_any wr).mono ?_; rintro e w8 ⟨rfl, hb8⟩; have B8 := Lib.hid (below_on B0.out (Nat.le_refl _) (below_on B4.out (Nat.le_refl _) (below_on HB.out (Nat.le_refl _) hb8))); clear hb8)
      go_ret
      exact ⟨rfl, B8.out⟩

theorem walk (y : Int) (A : Option Addr) (l : List Int) (cap : Nat) (w : World) (hR : Ri w A l) (_ : ∀ z ∈ l, -9223372036854775808 ≤ z ∧ z ≤ 9223372036854775807) (_ : l.length ≤ cap) :
    Calls Try.prog 6 #[tb y A l.length cap] w fun e w' => e = .returned (.bool true) ∧ Below w.heap.size w w' := by
  by_cases h : 300 < l.length
  · exact walk_long y A _ cap w h
  · cases hv : vt y l 256 9 with
    | false => exact walk_bad y A l _ cap w rfl (by omega) hv hR
    | true =>
      obtain ⟨n, rfl, hv2⟩ := vt_iff.1 hv
      exact walk_ok n _ A l _ cap w rfl hv2 rfl hR

set_option maxRecDepth 100000 in
theorem lifted (os : Os) (started : os.Started) (H : Type) (enc : TypeId × Value → H) :
    ReturnsInHanded {} Try.checked os 6 .any (Rows.cellsBitsSpec.pre6 enc Try.prog Try.f6 Rows.cellsBitsRow.domain false) (Rows.cellsBitsSpec.post enc Try.prog Try.f6 false true false false) := by
  refine returnsInHanded_of_change_sized (C := Try.checked) ownB started (by kernel_rfl) Try.func6
    (ChangeSpec.witness6 (enc := enc) (C := Try.checked) false ⟨#[], #[.agg #[.int .i64 0, .slice none 0 0]], []⟩ 8 (by kernel_rfl) (by kernel_rfl) (by kernel_rfl) (by kernel_rfl)) ?_
  intro W base args ds gs before hval0 hW _ hsz0 _
  have hsz : (DataW.weightsEach Try.prog (Try.f6.params.toList ++ Rows.cellsBitsSpec.plain.varTypes Try.prog) (ds ++ gs)).all (· ≤ reachBytes) = true := hsz0
  clear hsz0
  have hval : ∀ (j : Nat) t v, Try.f6.params[j]? = some t → args[j]? = some v → Value.okWide Try.prog W .any base t v := hval0
  have hW' := hW
  obtain ⟨p, q, hA0, hV, rfl, hfz, hnd⟩ := hW
  have hA : DataW.TrodAll enc Try.prog W 0 (fun _ => true) true Try.f6.params.toList args.toList ds p := hA0
  rw [Try.params6] at hA hval hsz
  obtain ⟨v0, vs0, d0, ds0, p0, q0, hargs, rfl, rfl, h0, r0⟩ := trodAll_cons hA
  obtain ⟨rfl, rfl, rfl⟩ := trodAll_nil r0
  obtain rfl : args = #[v0] := by cases args; simp_all
  obtain ⟨rfl, rfl⟩ := trodVars_none hV
  obtain ⟨cs0, rfl, hcs0⟩ := okWide_struct Try.underlying24 (hval 0 24 v0 rfl rfl)
  have k0 := h0
  have lt0 : ∀ x ∈ p0, x.block < W.heap.size := by obtain ⟨m, hm⟩ := k0; exact DataW.trod_lt m _ _ _ hm
  obtain ⟨y0, a0, len0, cap0, l0, rfl, rfl, hc0, ri0, wi0⟩ := open_tab hcs0 h0
  clear hA0 hval0
  refine (walk y0 a0 l0 cap0 W ri0 wi0 hc0).mono fun e W' ⟨he, bel⟩ => ?_
  subst he
  exact ⟨_, rfl, _, _, _, [], _, [], hW', trodAll_mk1 (shut_bool Try.underlying4 _), (trodAll_cons_mk (Below.trod laidOut (by kernel_rfl) (of_decide_eq_true (by kernel_rfl)) k0 bel lt0) trodAll_mk0), rfl, bel.frame _, fun h => by cases h⟩

theorem proved : Rows.CellsBitsSaid :=
  OpenClaim.holds_of_wide 6 Try.f6 rfl rfl rfl rfl rfl rfl rfl ⟨rfl, rfl, rfl, rfl, rfl⟩ rfl rfl rfl rfl rfl (by kernel_rfl) Try.func6 (by kernel_rfl)
    (of_decide_eq_true (by kernel_rfl)) (by unfold Func.isWrapper; rw [if_neg (by decide +kernel)]; exact ⟨rfl, rfl⟩)
    (fun os started H enc _ => lifted os started H enc)

#print axioms proved

end Go.Proofs.Ytfgjeiheekohdaa.cellsBits
