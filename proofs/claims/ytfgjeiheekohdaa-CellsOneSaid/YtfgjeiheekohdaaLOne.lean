/-
  Proved: the law CellsOne returns true for all symbols: SingleSymbol returns the table of one symbol, and its cell, or the error. No condition.
-/
import Derived.Test.YtfgjeiheekohdaaPut
import Derived.Deep.RegionHeld3
namespace Go.Proofs.Ytfgjeiheekohdaa.cellsOne
open Go.ChangeShapes Go.WideShapes Go.ChangeAt Go.RowKit

set_option maxRecDepth 100000 in
set_option maxHeartbeats 4000000 in
theorem walk_bad1 (z : Int) (w : World) (h : z < 0) :
    Calls Try.prog 7 #[.int .i64 z] w fun e w' => e = .returned (.bool true) ∧ Below w.heap.size w w' := by
  have SI := Lib.hid (single_bad w z (by omega))
  go_enter Try.func7, Try.ntmps7
  go_wp2_with (first
    | (go_at_call 21; refine SI.out.mono ?_; rintro e w2 ⟨rfl, hb2⟩; have B2 := Lib.hid hb2; clear hb2; obtain ⟨w3, wa, wb, h1, e0, f0, h2, e1, f1, h3, hT, hB⟩ := put_tab w2 0 none 0 0; have B3 := Lib.hid (below_on B2.out (Nat.le_refl _) hB); have c0 := hT.c0; have c1 := hT.c1; clear hT hB)
    | (go_at_call 11; refine (known_any wb).mono ?_; rintro e w5 ⟨rfl, hb5⟩; have B5 := Lib.hid (below_on B3.out (Nat.le_refl _) hb5); clear hb5))
  go_ret
  exact ⟨rfl, B5.out⟩

set_option maxRecDepth 100000 in
set_option maxHeartbeats 4000000 in
theorem walk_bad2 (z : Int) (w : World) (h0 : 0 ≤ z) (h : 255 < z) :
    Calls Try.prog 7 #[.int .i64 z] w fun e w' => e = .returned (.bool true) ∧ Below w.heap.size w w' := by
  have SI := Lib.hid (single_bad w z (by omega))
  go_enter Try.func7, Try.ntmps7
  go_wp2_with (first
    | (go_at_call 21; refine SI.out.mono ?_; rintro e w2 ⟨rfl, hb2⟩; have B2 := Lib.hid hb2; clear hb2; obtain ⟨w3, wa, wb, h1, e0, f0, h2, e1, f1, h3, hT, hB⟩ := put_tab w2 0 none 0 0; have B3 := Lib.hid (below_on B2.out (Nat.le_refl _) hB); have c0 := hT.c0; have c1 := hT.c1; clear hT hB)
    | (go_at_call 11; refine (known_any wb).mono ?_; rintro e w5 ⟨rfl, hb5⟩; have B5 := Lib.hid (below_on B3.out (Nat.le_refl _) hb5); clear hb5))
  go_ret
  exact ⟨rfl, B5.out⟩

set_option maxRecDepth 100000 in
set_option maxHeartbeats 4000000 in
theorem walk_ok (x : Nat) (w : World) (hx : x ≤ 255) :
    Calls Try.prog 7 #[.int .i64 (x : Int)] w fun e w' => e = .returned (.bool true) ∧ Below w.heap.size w w' := by
  have SI := Lib.hid (single_ok w x hx)
  have HV := Lib.hid (one_vt hx)
  have HM := Lib.hid (one_may hx)
  have HC := Lib.hid (one_cex hx)
  have HX := Lib.hid hx
  have h0 : decide ((x : Int) < 0) = false := decide_eq_false (by omega)
  have h1 : decide (255 < (x : Int)) = false := decide_eq_false (by omega)
  obtain ⟨n, hn⟩ : ∃ n, x + 1 = n := ⟨_, rfl⟩
  have hn2 : n ≤ 256 := by omega
  have HL : Hid ((one x).length = n) := Lib.hid (by rw [one_len]; exact hn)
  rw [hn] at SI
  have BU : Hid (∀ W g, Ri W (some ⟨g, 0, none⟩) (one x) → Calls Try.prog 12 #[tb 0 (some ⟨g, 0, none⟩) n n] W fun e w' => ∃ g', e = .returned (.tuple #[.slice (some ⟨g', 0, none⟩) 1 1, .int .i64 0]) ∧ w'.ownsRow 0 45 3 (.slice (some ⟨g', 0, none⟩) 1 1) 1 (flat3 [(x, 0, 0)]) ∧ Below W.heap.size W w') := Lib.hid (fun W g hr => by
    have := build_ok W 0 1 (some ⟨g, 0, none⟩) (one x) n n HL.out HV.out rfl hr
    rw [show cls 0 (one x) (spl 1 (one x)) = [(x, 0, 0)] from HC.out] at this
    refine this.mono ?_
    rintro e w' ⟨g', rfl, ho, hb⟩
    exact ⟨g', rfl, ro_base ho (Nat.zero_le _), hb⟩)
  have ON : Hid (∀ W, Calls Try.prog 23 #[.int .i64 (x : Int)] W fun e w' => ∃ A c, e = .returned (tb 0 A n c) ∧ Ri w' A (one x) ∧ Below W.heap.size W w') := Lib.hid (fun W => by
    have := rone_any W x HX.out
    rw [hn] at this
    refine this.mono ?_
    rintro e w' ⟨A, c, rfl, ho, hb⟩
    exact ⟨A, c, rfl, Rv.of_own ho, hb⟩)
  have SM : Hid (∀ W A g c, Ri W (some ⟨g, 0, none⟩) (one x) → Ri W A (one x) → Calls Try.prog 22 #[tb 0 (some ⟨g, 0, none⟩) n n, tb 0 A n c] W fun e w' => e = .returned (.bool true) ∧ Below W.heap.size W w') := Lib.hid (fun W A g c r1 r2 => by
    have := rsame_any W 0 0 (some ⟨g, 0, none⟩) A (one x) (one x) n n n c HL.out HL.out (by omega) r1 r2
    rwa [show sam 0 0 (one x) (one x) = true by simp [sam]] at this)
  have MY : Hid (∀ W g, Ri W (some ⟨g, 0, none⟩) (one x) → Calls Try.prog 15 #[tb 0 (some ⟨g, 0, none⟩) n n, .int .i64 256, .int .i64 0] W fun e w' => e = .returned (.int .i64 0) ∧ Below W.heap.size W w') := Lib.hid (fun W g r1 => by
    have := may_any W 0 256 0 (some ⟨g, 0, none⟩) (one x) n n HL.out (by omega) r1
    rwa [show err (vt 0 (one x) 256 0) = 0 by rw [HM.out]; rfl] at this)
  have SA : Hid (∀ W g, W.ownsRow 0 45 3 (.slice (some ⟨g, 0, none⟩) 1 1) 1 (flat3 [(x, 0, 0)]) → Calls Try.prog 14 #[.slice (some ⟨g, 0, none⟩) 1 1, .slice (some ⟨W.heap.size, 0, none⟩) 1 1] (W.alloc (.cells #[.int .i64 (x : Int), .int .i64 0, .int .i64 0] 45)) fun e w' => e = .returned (.bool true) ∧ Below W.heap.size W w') := Lib.hid (fun W g ho => same_lit W W.heap.size g rfl [(x, 0, 0)] 1 (by omega) rfl ho)
  clear hn
  go_enter Try.func7, Try.ntmps7
  go_wp2_with (first
    | (go_at_call 21; refine SI.out.mono ?_; rintro e w2 ⟨g, rfl, ho2, hb2⟩; have R2 := Lib.hid (Rv.of_own ho2); have B2 := Lib.hid hb2; clear hb2 ho2; obtain ⟨w3, wa, wb, h1, e0, f0, h2, e1, f1, h3, hT, hB⟩ := put_tab w2 0 (some ⟨g, 0, none⟩) n n; have R3 := Lib.hid (R2.out.below hB); have B3 := Lib.hid (below_on B2.out (Nat.le_refl _) hB); have T3 := Lib.hid hT; have c0 := hT.c0; have c1 := hT.c1; clear hT hB)
    | (go_at_call 12; refine (BU.out wb g R3.out).mono ?_; rintro e w4 ⟨g4, rfl, ho4, hb4⟩; have O4 : Hid (w4.drew.ownsRow 0 45 3 (.slice (some ⟨g4, 0, none⟩) 1 1) 1 (flat3 [(x, 0, 0)])) := Lib.hid ho4; have R4 : Hid (Ri w4.drew (some ⟨g, 0, none⟩) (one x)) := Lib.hid (Rv.same (R3.out.below hb4) (fun _ _ => rfl)); have B4 : Hid (Below w.heap.size w w4.drew) := Lib.hid (below_on B3.out (Nat.le_refl _) hb4).drew; have t4 : Tb w4.drew w2.heap.size 0 (some ⟨g, 0, none⟩) n n := (T3.out.below hb4).same rfl; have T4 := Lib.hid t4; have d0 := t4.c0; have d1 := t4.c1; clear t4 hb4 ho4))
  clear c0 c1 e0 e1 f0 f1 h1 h2 h3
  go_region_held3 (fun W => W.cell? ⟨w2.heap.size, 0, none⟩ = some (.int .i64 0) ∧ W.cell? ⟨w2.heap.size, 1, none⟩ = some (.slice (some ⟨g, 0, none⟩) n n)) (first | exact ⟨d0, d1⟩ | exact ⟨a0, a1⟩ | exact ⟨b0, b1⟩ | exact ⟨c0, c1⟩ | exact ⟨i0, i1⟩ | exact ⟨j0, j1⟩ | exact ⟨k0, k1⟩) (first
    | (go_at_call 23; refine (ON.out _).mono ?_; rintro e w5 ⟨A5, c5, rfl, hr5, hb5⟩; have t5 := T4.out.below hb5; have T5 := Lib.hid t5; have a0 := t5.c0; have a1 := t5.c1; have O5 := Lib.hid (ro_below O4.out hb5); have R5 := Lib.hid (R4.out.below hb5); have B5 := Lib.hid (below_on B4.out (Nat.le_refl _) hb5); have R5' := Lib.hid hr5; clear t5 hb5 hr5)
    | (go_at_call 22; refine (SM.out w5 A5 g c5 R5.out R5'.out).mono ?_; rintro e w6 ⟨rfl, hb6⟩; have t6 := T5.out.below hb6; have T6 := Lib.hid t6; have b0 := t6.c0; have b1 := t6.c1; have O6 := Lib.hid (ro_below O5.out hb6); have R6 := Lib.hid (R5.out.below hb6); have B6 := Lib.hid (below_on B5.out (Nat.le_refl _) hb6); clear t6 hb6)
    | (go_at_call 15; refine (MY.out w6 g R6.out).mono ?_; rintro e w7 ⟨rfl, hb7⟩; have t7 := T6.out.below hb7; have T7 := Lib.hid t7; have c0 := t7.c0; have c1 := t7.c1; have O7 := Lib.hid (ro_below O6.out hb7); have B7 := Lib.hid (below_on B6.out (Nat.le_refl _) hb7); have t8 := t7.below ((Below.refl _ w7).alloc (Nat.le_refl _) (.cells #[.int .i64 (x : Int), .int .i64 0, .int .i64 0] 45)); have i0 := t8.c0; have i1 := t8.c1; clear t7 t8 hb7)
    | (go_at_call 14; refine (SA.out w7 g4 O7.out).mono ?_; rintro e w8 ⟨rfl, hb8⟩; have t8 := T7.out.below hb8; have T8 := Lib.hid t8; have j0 := t8.c0; have j1 := t8.c1; have B8 := Lib.hid (below_on B7.out (Nat.le_refl _) hb8); clear t8 hb8)
    | (go_at_call 11; refine (known_any w8).mono ?_; rintro e w9 ⟨rfl, hb9⟩; have t9 := T8.out.below hb9; have k0 := t9.c0; have k1 := t9.c1; have B9 := Lib.hid (below_on B8.out (Nat.le_refl _) hb9); clear t9 hb9))
  all_goals
    go_wp2
    go_ret
    exact ⟨rfl, B9.out⟩

theorem walk (z : Int) (w : World) (_ : (Lit.int .i64 z).wf = true) :
    Calls Try.prog 7 #[.int .i64 z] w fun e w' => e = .returned (.bool true) ∧ Below w.heap.size w w' := by
  by_cases h : z < 0
  · exact walk_bad1 z w h
  · by_cases h2 : 255 < z
    · exact walk_bad2 z w (by omega) h2
    · obtain ⟨x, rfl⟩ : ∃ x : Nat, z = (x : Int) := ⟨z.toNat, by omega⟩
      exact walk_ok x w (by omega)

set_option maxRecDepth 100000 in
theorem lifted (os : Os) (started : os.Started) (H : Type) (enc : TypeId × Value → H) :
    ReturnsInHanded {} Try.checked os 7 .any (Rows.cellsOneSpec.pre6 enc Try.prog Try.f7 Rows.cellsOneRow.domain false) (Rows.cellsOneSpec.post enc Try.prog Try.f7 false true false false) := by
  refine returnsInHanded_of_change_sized (C := Try.checked) ownB started (by kernel_rfl) Try.func7
    (ChangeSpec.witness6 (enc := enc) (C := Try.checked) false ⟨#[], #[.int .i64 0], []⟩ 8 (by kernel_rfl) (by kernel_rfl) (by kernel_rfl) (by kernel_rfl)) ?_
  intro W base args ds gs before hval0 hW _ hsz0 _
  have hsz : (DataW.weightsEach Try.prog (Try.f7.params.toList ++ Rows.cellsOneSpec.plain.varTypes Try.prog) (ds ++ gs)).all (· ≤ reachBytes) = true := hsz0
  clear hsz0
  have hval : ∀ (j : Nat) t v, Try.f7.params[j]? = some t → args[j]? = some v → Value.okWide Try.prog W .any base t v := hval0
  have hW' := hW
  obtain ⟨p, q, hA0, hV, rfl, hfz, hnd⟩ := hW
  have hA : DataW.TrodAll enc Try.prog W 0 (fun _ => true) true Try.f7.params.toList args.toList ds p := hA0
  rw [Try.params7] at hA hval hsz
  obtain ⟨v0, vs0, d0, ds0, p0, q0, hargs, rfl, rfl, h0, r0⟩ := trodAll_cons hA
  obtain ⟨rfl, rfl, rfl⟩ := trodAll_nil r0
  obtain rfl : args = #[v0] := by cases args; simp_all
  obtain ⟨rfl, rfl⟩ := trodVars_none hV
  obtain ⟨a0, rfl, rfl, rfl, w0⟩ := open_int Try.underlying3 (hval 0 3 v0 rfl rfl) h0
  clear hA0 hval0
  refine (walk a0 W w0).mono fun e W' ⟨he, bel⟩ => ?_
  subst he
  exact ⟨_, rfl, _, _, _, [], _, [], hW', trodAll_mk1 (shut_bool Try.underlying4 _), (trodAll_cons_mk (shut_int Try.underlying3 w0) trodAll_mk0), rfl, bel.frame _, fun h => by cases h⟩

theorem proved : Rows.CellsOneSaid :=
  OpenClaim.holds_of_wide 7 Try.f7 rfl rfl rfl rfl rfl rfl rfl ⟨rfl, rfl, rfl, rfl, rfl⟩ rfl rfl rfl rfl rfl (by kernel_rfl) Try.func7 (by kernel_rfl)
    (of_decide_eq_true (by kernel_rfl)) (by unfold Func.isWrapper; rw [if_neg (by decide +kernel)]; exact ⟨rfl, rfl⟩)
    (fun os started H enc _ => lifted os started H enc)

#print axioms proved

end Go.Proofs.Ytfgjeiheekohdaa.cellsOne
