/-
  Proved: the law CellsSymbols returns true for all tables: every cell of a valid table has the symbol of its state, no more bits than Log, and leads to states that are there. No condition.
-/
import Derived.Test.YtfgjeiheekohdaaPut
import Derived.Deep.RegionHeld3
namespace Go.Proofs.Ytfgjeiheekohdaa.cellsSymbols
open Go.ChangeShapes Go.WideShapes Go.ChangeAt Go.RowKit

set_option maxRecDepth 100000 in
set_option maxHeartbeats 4000000 in
theorem walk_long (y : Int) (A : Option Addr) (N cap : Nat) (w : World) (h : 300 < N) :
    Calls Try.prog 5 #[tb y A N cap] w fun e w' => e = .returned (.bool true) ∧ Below w.heap.size w w' := by
  have hd : decide ((300 : Int) < (N : Int)) = true := decide_eq_true (by omega)
  have b1 : Below w.heap.size w (w.alloc (.cells #[.int .i64 y, .slice A N cap] 24)) := (Below.refl _ w).alloc (Nat.le_refl _) _
  have t1 := Tb.new w y A N cap
  obtain ⟨w1, hw1⟩ : ∃ w1, w.alloc (.cells #[.int .i64 y, .slice A N cap] 24) = w1 := ⟨_, rfl⟩
  rw [hw1] at b1 t1
  have c0 := t1.c0
  have c1 := t1.c1
  have KN := Lib.hid (known_any w1)
  have B0 := Lib.hid b1
  clear b1 t1
  go_enter Try.func5, Try.ntmps5
  go_wp2_with (go_at_call 11; refine KN.out.mono ?_; rintro e w2 ⟨rfl, hb2⟩; have B1 := Lib.hid (below_on B0.out (Nat.le_refl _) hb2); clear hb2)
  go_ret
  exact ⟨rfl, B1.out⟩

set_option maxRecDepth 100000 in
set_option maxHeartbeats 4000000 in
theorem walk_bad (y : Int) (A : Option Addr) (l : List Int) (N cap : Nat) (w : World) (hN : l.length = N) (h : N ≤ 300) (hv : vt y l 256 9 = false) (hR : Ri w A l) :
    Calls Try.prog 5 #[tb y A N cap] w fun e w' => e = .returned (.bool true) ∧ Below w.heap.size w w' := by
  have hd : decide ((300 : Int) < (N : Int)) = false := decide_eq_false (by omega)
  have b1 : Below w.heap.size w (w.alloc (.cells #[.int .i64 y, .slice A N cap] 24)) := (Below.refl _ w).alloc (Nat.le_refl _) _
  have t1 := Tb.new w y A N cap
  obtain ⟨w1, hw1⟩ : ∃ w1, w.alloc (.cells #[.int .i64 y, .slice A N cap] 24) = w1 := ⟨_, rfl⟩
  rw [hw1] at b1 t1
  have c0 := t1.c0
  have c1 := t1.c1
  have MY : Hid (Calls Try.prog 15 #[tb y A N cap, .int .i64 256, .int .i64 9] w1 fun e w' => e = .returned (.int .i64 13) ∧ Below w1.heap.size w1 w') := Lib.hid (by
    have := may_any w1 y 256 9 A l N cap hN (by omega) (hR.below b1)
    rw [hv] at this
    exact this)
  have B0 := Lib.hid b1
  clear b1 t1 hR hN hv
  go_enter Try.func5, Try.ntmps5
  go_wp2_with (first
    | (go_at_call 15; refine MY.out.mono ?_; rintro e w2 ⟨rfl, hb2⟩; have B2 := Lib.hid (below_on B0.out (Nat.le_refl _) hb2); clear hb2)
    | (go_at_call 11; refine (known_any w2).mono ?_; rintro e w3 ⟨rfl, hb3⟩; have B3 := Lib.hid (below_on B2.out (Nat.le_refl _) hb3); clear hb3))
  go_ret
  exact ⟨rfl, B3.out⟩

theorem all_ones : ∀ p : Nat, p < 10 → 4611686018427387903 % 2 ^ p = 2 ^ p - 1 := by decide
theorem wid_nat {p : Nat} (h : p ≤ 9) : wid (p : Int) = p := by unfold wid; omega
theorem next_zero (W : World) (x p q : Nat) (hp : p ≤ 9) (hq : q ≤ 1000) : Calls Try.prog 20 #[cev (x : Int) (p : Int) (q : Int), .int .u64 0] W fun e w' => e = .returned (.int .i64 (q : Int)) ∧ Below W.heap.size W w' := by
  have := next_any W x p q 0 (by omega) (by omega) (by omega)
  rwa [Nat.zero_mod, show (q : Int) + ((0 : Nat) : Int) = (q : Int) by omega] at this
theorem next_ones (W : World) (x p q E : Nat) (hp : p ≤ 9) (hq : q ≤ 1000) (hE : q + 2 ^ p = E + 1) : Calls Try.prog 20 #[cev (x : Int) (p : Int) (q : Int), .int .u64 4611686018427387903] W fun e w' => e = .returned (.int .i64 (E : Int)) ∧ Below W.heap.size W w' := by
  have := next_any W x p q 4611686018427387903 (by omega) (by omega) (by omega)
  have h1 := Nat.two_pow_pos p
  rwa [wid_nat hp, all_ones p (by omega), show (q : Int) + ((2 ^ p - 1 : Nat) : Int) = (E : Int) by omega] at this

set_option maxRecDepth 100000 in
set_option maxHeartbeats 4000000 in
theorem walk_ok (y s : Nat) (A : Option Addr) (l : List Int) (N cap : Nat) (w : World) (hN : l.length = N) (hv : Vt y l) (hse : 2 ^ y = s) (hR : Ri w A l) :
    Calls Try.prog 5 #[tb y A N cap] w fun e w' => e = .returned (.bool true) ∧ Below w.heap.size w w' := by
  have hN2 : N ≤ 256 := by rw [← hN]; exact hv.len
  have hy9 := hv.log
  have hd : decide ((300 : Int) < (N : Int)) = false := decide_eq_false (by omega)
  have b1 : Below w.heap.size w (w.alloc (.cells #[.int .i64 (y : Int), .slice A N cap] 24)) := (Below.refl _ w).alloc (Nat.le_refl _) _
  have t1 := Tb.new w (y : Int) A N cap
  obtain ⟨w1, hw1⟩ : ∃ w1, w.alloc (.cells #[.int .i64 (y : Int), .slice A N cap] 24) = w1 := ⟨_, rfl⟩
  rw [hw1] at b1 t1
  have c0 := t1.c0
  have c1 := t1.c1
  have hR1 := hR.below b1
  have hs5 : s ≤ 512 := by rw [← hse]; exact hv.size
  have MY : Hid (Calls Try.prog 15 #[tb y A N cap, .int .i64 256, .int .i64 9] w1 fun e w' => e = .returned (.int .i64 0) ∧ Below w1.heap.size w1 w') := Lib.hid (by
    have := may_any w1 (y : Int) 256 9 A l N cap hN (by omega) hR1
    rw [vt_iff.2 ⟨y, rfl, hv⟩] at this
    exact this)
  have BU : Hid (∀ W, Below w1.heap.size w1 W → Calls Try.prog 12 #[tb y A N cap] W fun e w' => ∃ g, e = .returned (.tuple #[.slice (some ⟨g, 0, none⟩) s s, .int .i64 0]) ∧ w'.ownsRow W.heap.size 45 3 (.slice (some ⟨g, 0, none⟩) s s) s (flat3 (cls y l (spl s l))) ∧ Below W.heap.size W w') := Lib.hid (fun W hb => build_ok W y s A l N cap hN hv hse (hR1.below hb))
  have OF : Hid (∀ W, Below w1.heap.size w1 W → Calls Try.prog 19 #[tb y A N cap] W fun e w' => ∃ g, e = .returned (.tuple #[.slice (some ⟨g, 0, none⟩) s s, .int .i64 0]) ∧ w'.ownsRow W.heap.size 3 1 (.slice (some ⟨g, 0, none⟩) s s) s ((spl s l).map nv) ∧ Below W.heap.size W w') := Lib.hid (fun W hb => of_ok W y s A l N cap hN hv hse (hR1.below hb))
  have HC : Hid (∀ i, i < s → ∃ x p q, (spl s l)[i]? = some x ∧ (cls y l (spl s l))[i]? = some (x, p, q) ∧ p ≤ y ∧ q + 2 ^ p ≤ s) := Lib.hid (fun i hi => by
    have hl : i < (spl s l).length := by rw [spl_len]; exact hi
    obtain ⟨x, hx⟩ : ∃ x, (spl s l)[i]? = some x := ⟨_, List.getElem?_eq_getElem hl⟩
    refine ⟨x, _, _, hx, by rw [cls_get hl]; unfold cel; rw [hx]; rfl, bts_le _ _, ?_⟩
    have := hv.num (i := i) (x := x) (by rw [hse]; exact hx)
    have h2 := this.fits
    rw [hse] at h2
    exact h2)
  obtain ⟨K, hK⟩ : ∃ K, spl s l = K := ⟨_, rfl⟩
  rw [hK] at BU OF HC
  obtain ⟨C, hC⟩ : ∃ C, cls y l K = C := ⟨_, rfl⟩
  rw [hC] at BU HC
  have B0 := Lib.hid b1
  have T1 := Lib.hid t1
  clear b1 t1 hR hR1 hN hv hse hK hC
  go_enter Try.func5, Try.ntmps5
  go_wp2_with (first
    | (go_at_call 15; refine MY.out.mono ?_; rintro e w2 ⟨rfl, hb2⟩; have B2 := Lib.hid hb2; have q2 := T1.out.below hb2; have d0 := q2.c0; have d1 := q2.c1; clear hb2 q2)
    | (go_at_call 12; refine (BU.out w2 B2.out).mono ?_; rintro e w3 ⟨g, rfl, ho3, hb3⟩; have O3 := Lib.hid ho3; have B3 := Lib.hid (below_on B2.out (Nat.le_refl _) hb3); have q3 := T1.out.below B3.out; have e0 := q3.c0; have e1 := q3.c1; clear hb3 q3 ho3)
    | (go_at_call 19; refine (OF.out w3 B3.out).mono ?_; rintro e w4 ⟨g4, rfl, ho4, hb4⟩; have O4 := Lib.hid ho4; have P3 := Lib.hid (ro_below O3.out hb4); have B4 := Lib.hid (below_on B3.out (Nat.le_refl _) hb4); clear hb4 ho4))
  clear c0 c1 d0 d1 e0 e1 MY BU OF O3
  go_loopw [7] (fun p wr => ∃ i : Nat, i ≤ s ∧ p = .int .i64 (i : Int) ∧ Hid (Below w4.heap.size w4 wr)) (fun p _ => s - (intOf p).toNat)
  case atStart => exact ⟨0, Nat.zero_le _, rfl, Lib.hid (Below.refl _ _)⟩
  case round =>
    obtain ⟨i, hi, rfl, HB⟩ := hrel
    by_cases hlt : i < s
    · obtain ⟨x, p, q, hx, hc, hp, hq⟩ := HC.out i hlt
      have hp1 := Nat.two_pow_pos p
      obtain ⟨E, hE⟩ : ∃ E, q + 2 ^ p = E + 1 := ⟨q + 2 ^ p - 1, by omega⟩
      have NX0 : Hid (∀ W, Calls Try.prog 20 #[cev (x : Int) (p : Int) (q : Int), .int .u64 0] W fun e w' => e = .returned (.int .i64 (q : Int)) ∧ Below W.heap.size W w') := Lib.hid (fun W => next_zero W x p q (by omega) (by omega))
      have NX1 : Hid (∀ W, Calls Try.prog 20 #[cev (x : Int) (p : Int) (q : Int), .int .u64 4611686018427387903] W fun e w' => e = .returned (.int .i64 (E : Int)) ∧ Below W.heap.size W w') := Lib.hid (fun W => next_ones W x p q E (by omega) (by omega) hE)
      obtain ⟨a0, a1, a2⟩ := row_at (ro_below P3.out HB.out) hc
      simp only [nw] at a0 a1 a2
      obtain ⟨w5, wa, wb, wc, h1, f0, f1, h2, f2, f3, h3, f4, f5, h4, hT, hB⟩ := put_cell wr x p q
      have BC := Lib.hid (below_on HB.out (Nat.le_refl _) hB)
      have ts : Ce wc.drew wr.heap.size x p q := hT.same rfl
      have s0 := ts.c0
      have s1 := ts.c1
      have s2 := ts.c2
      have ck : wc.drew.cell? ⟨g4, i, none⟩ = some (.int .i64 (x : Int)) := by
        have o4 := own_below O4.out BC.out
        have : wc.cell? ⟨g4, i, none⟩ = some (.int .i64 (x : Int)) := by rw [o4.cellAt i (by omega), List.getElem?_map, hx]; rfl
        exact this
      have tt : Tb wc.drew w.heap.size (y : Int) A N cap := (T1.out.below (below_on B4.out (Nat.le_refl _) BC.out)).same rfl
      have s3 := tt.c0
      have TT := Lib.hid tt
      have TS := Lib.hid ts
      have BD : Hid (Below w4.heap.size w4 wc.drew) := Lib.hid BC.out.drew
      have k0 : decide ((p : Int) < 0) = false := decide_eq_false (by omega)
      have k1 : decide ((y : Int) < (p : Int)) = false := decide_eq_false (by omega)
      have k2 : decide ((q : Int) < 0) = false := decide_eq_false (by omega)
      have k3 : decide ((s : Int) ≤ (E : Int)) = false := decide_eq_false (by omega)
      have k4 : ¬ y < p := by omega
      have k5 : ¬ s ≤ E := by omega
      clear hx hc hE hp1 hT hB ts tt hp hq
      go_wp2
      go_region_held3 (fun W => W.cell? ⟨wr.heap.size, 0, none⟩ = some (.int .i64 (x : Int)) ∧ W.cell? ⟨wr.heap.size, 1, none⟩ = some (.int .i64 (p : Int)) ∧ W.cell? ⟨wr.heap.size, 2, none⟩ = some (.int .i64 (q : Int)) ∧ W.cell? ⟨g4, i, none⟩ = some (.int .i64 (x : Int)) ∧ W.cell? ⟨w.heap.size, 0, none⟩ = some (.int .i64 (y : Int))) (first | exact ⟨s0, s1, s2, ck, s3⟩ | exact ⟨m0, m1, m2, m3, m4⟩ | exact ⟨n0, n1, n2, n3, n4⟩) (first
        | (go_at_call 20; with_reducible refine (NX0.out _).mono ?_; rintro e w6 ⟨rfl, hb6⟩; have t6 := TS.out.below hb6; have T6 := Lib.hid t6; have m0 := t6.c0; have m1 := t6.c1; have m2 := t6.c2; have m3 := (hb6.cell (cell_lt ck)).trans ck; have u6 := TT.out.below hb6; have U6 := Lib.hid u6; have m4 := u6.c0; have B6 := Lib.hid (below_on BD.out (Nat.le_refl _) hb6); clear t6 u6 hb6)
        | (go_at_call 20; with_reducible refine (NX1.out _).mono ?_; rintro e w7 ⟨rfl, hb7⟩; have t7 := T6.out.below hb7; have n0 := t7.c0; have n1 := t7.c1; have n2 := t7.c2; have n3 := (hb7.cell (cell_lt m3)).trans m3; have u7 := U6.out.below hb7; have n4 := u7.c0; have B7 := Lib.hid (below_on B6.out (Nat.le_refl _) hb7); clear t7 u7 hb7))
      all_goals
        go_wp2
        exact ⟨⟨i + 1, by omega, by simp, B7⟩, by simp [intOf]; omega⟩
    · go_wp2_with (go_at_call 11; refine (known_any wr).mono ?_; rintro e w8 ⟨rfl, hb8⟩; have B8 := Lib.hid (below_on B0.out (Nat.le_refl _) (below_on B4.out (Nat.le_refl _) (below_on HB.out (Nat.le_refl _) hb8))); clear hb8)
      go_ret
      exact ⟨rfl, B8.out⟩

theorem walk (y : Int) (A : Option Addr) (l : List Int) (cap : Nat) (w : World) (hR : Ri w A l) (_ : ∀ z ∈ l, -9223372036854775808 ≤ z ∧ z ≤ 9223372036854775807) (_ : l.length ≤ cap) :
    Calls Try.prog 5 #[tb y A l.length cap] w fun e w' => e = .returned (.bool true) ∧ Below w.heap.size w w' := by
  by_cases h : 300 < l.length
  · exact walk_long y A _ cap w h
  · cases hv : vt y l 256 9 with
    | false => exact walk_bad y A l _ cap w rfl (by omega) hv hR
    | true =>
      obtain ⟨n, rfl, hv2⟩ := vt_iff.1 hv
      exact walk_ok n _ A l _ cap w rfl hv2 rfl hR

set_option maxRecDepth 100000 in
theorem lifted (os : Os) (started : os.Started) (H : Type) (enc : TypeId × Value → H) :
    ReturnsInHanded {} Try.checked os 5 .any (Rows.cellsSymbolsSpec.pre6 enc Try.prog Try.f5 Rows.cellsSymbolsRow.domain false) (Rows.cellsSymbolsSpec.post enc Try.prog Try.f5 false true false false) := by
  refine returnsInHanded_of_change_sized (C := Try.checked) ownB started (by kernel_rfl) Try.func5
    (ChangeSpec.witness6 (enc := enc) (C := Try.checked) false ⟨#[], #[.agg #[.int .i64 0, .slice none 0 0]], []⟩ 8 (by kernel_rfl) (by kernel_rfl) (by kernel_rfl) (by kernel_rfl)) ?_
  intro W base args ds gs before hval0 hW _ hsz0 _
  have hsz : (DataW.weightsEach Try.prog (Try.f5.params.toList ++ Rows.cellsSymbolsSpec.plain.varTypes Try.prog) (ds ++ gs)).all (· ≤ reachBytes) = true := hsz0
  clear hsz0
  have hval : ∀ (j : Nat) t v, Try.f5.params[j]? = some t → args[j]? = some v → Value.okWide Try.prog W .any base t v := hval0
  have hW' := hW
  obtain ⟨p, q, hA0, hV, rfl, hfz, hnd⟩ := hW
  have hA : DataW.TrodAll enc Try.prog W 0 (fun _ => true) true Try.f5.params.toList args.toList ds p := hA0
  rw [Try.params5] at hA hval hsz
  obtain ⟨v0, vs0, d0, ds0, p0, q0, hargs, rfl, rfl, h0, r0⟩ := trodAll_cons hA
  obtain ⟨rfl, rfl, rfl⟩ := trodAll_nil r0
  obtain rfl : args = #[v0] := by cases args; simp_all
  obtain ⟨rfl, rfl⟩ := trodVars_none hV
  obtain ⟨cs0, rfl, hcs0⟩ := okWide_struct Try.underlying24 (hval 0 24 v0 rfl rfl)
  have k0 := h0
  have lt0 : ∀ x ∈ p0, x.block < W.heap.size := by obtain ⟨m, hm⟩ := k0; exact DataW.trod_lt m _ _ _ hm
  obtain ⟨y0, a0, len0, cap0, l0, rfl, rfl, hc0, ri0, wi0⟩ := open_tab hcs0 h0
  clear hA0 hval0
  refine (walk y0 a0 l0 cap0 W ri0 wi0 hc0).mono fun e W' ⟨he, bel⟩ => ?_
  subst he
  exact ⟨_, rfl, _, _, _, [], _, [], hW', trodAll_mk1 (shut_bool Try.underlying4 _), (trodAll_cons_mk (Below.trod laidOut (by kernel_rfl) (of_decide_eq_true (by kernel_rfl)) k0 bel lt0) trodAll_mk0), rfl, bel.frame _, fun h => by cases h⟩

theorem proved : Rows.CellsSymbolsSaid :=
  OpenClaim.holds_of_wide 5 Try.f5 rfl rfl rfl rfl rfl rfl rfl ⟨rfl, rfl, rfl, rfl, rfl⟩ rfl rfl rfl rfl rfl (by kernel_rfl) Try.func5 (by kernel_rfl)
    (of_decide_eq_true (by kernel_rfl)) (by unfold Func.isWrapper; rw [if_neg (by decide +kernel)]; exact ⟨rfl, rfl⟩)
    (fun os started H enc _ => lifted os started H enc)

#print axioms proved

end Go.Proofs.Ytfgjeiheekohdaa.cellsSymbols
