/-
  Proved: the law CellsNext returns true for all cells and bits: Next returns what the reference's Next returns. No condition.
-/
import Derived.Test.YtfgjeiheekohdaaFrm
namespace Go.Proofs.Ytfgjeiheekohdaa.cellsNext
open Go.ChangeShapes Go.WideShapes Go.ChangeAt Go.RowKit

set_option maxRecDepth 100000 in
set_option maxHeartbeats 4000000 in
theorem walk_far (a b c v : Int) (w : World) (h : c < -1099511627776 ∨ 1099511627776 < c) :
    Calls Try.prog 8 #[cev a b c, .int .u64 v] w fun e w' => e = .returned (.bool true) ∧ Below w.heap.size w w' := by
  have q1 := Ce.new w a b c
  have b1 : Below w.heap.size w (w.alloc (.cells #[.int .i64 a, .int .i64 b, .int .i64 c] 45)) := (Below.refl _ w).alloc (Nat.le_refl _) _
  obtain ⟨w1, hw1⟩ : ∃ w1, w.alloc (.cells #[.int .i64 a, .int .i64 b, .int .i64 c] 45) = w1 := ⟨_, rfl⟩
  rw [hw1] at q1 b1
  have e2 := q1.c2
  have KN := Lib.hid (known_any w1)
  have B0 := Lib.hid b1
  clear b1 q1
  rcases Int.lt_or_le c (-1099511627776) with h0 | h0
  · have hd : decide (c < -1099511627776) = true := decide_eq_true h0
    clear h
    go_enter Try.func8, Try.ntmps8
    go_wp2_with (go_at_call 11; refine KN.out.mono ?_; rintro e w2 ⟨rfl, hb2⟩; have B1 := Lib.hid (below_on B0.out (Nat.le_refl _) hb2); clear hb2)
    go_ret
    exact ⟨rfl, B1.out⟩
  · have h1 : 1099511627776 < c := by omega
    have hd : decide (c < -1099511627776) = false := decide_eq_false (by omega)
    have hd2 : decide (1099511627776 < c) = true := decide_eq_true h1
    clear h
    go_enter Try.func8, Try.ntmps8
    go_wp2_with (go_at_call 11; refine KN.out.mono ?_; rintro e w2 ⟨rfl, hb2⟩; have B1 := Lib.hid (below_on B0.out (Nat.le_refl _) hb2); clear hb2)
    go_ret
    exact ⟨rfl, B1.out⟩

set_option maxRecDepth 100000 in
set_option maxHeartbeats 4000000 in
theorem walk_near (a b c : Int) (v : Nat) (w : World) (hb : -9223372036854775808 ≤ b ∧ b ≤ 9223372036854775807) (hc : -1099511627776 ≤ c ∧ c ≤ 1099511627776) (hv : v < 18446744073709551616) :
    Calls Try.prog 8 #[cev a b c, .int .u64 (v : Int)] w fun e w' => e = .returned (.bool true) ∧ Below w.heap.size w w' := by
  have q1 := Ce.new w a b c
  have b1 : Below w.heap.size w (w.alloc (.cells #[.int .i64 a, .int .i64 b, .int .i64 c] 45)) := (Below.refl _ w).alloc (Nat.le_refl _) _
  obtain ⟨w1, hw1⟩ : ∃ w1, w.alloc (.cells #[.int .i64 a, .int .i64 b, .int .i64 c] 45) = w1 := ⟨_, rfl⟩
  rw [hw1] at q1 b1
  have e0 := q1.c0
  have e1 := q1.c1
  have e2 := q1.c2
  have f0 : w1.drew.cell? ⟨w.heap.size, 0, none⟩ = some (.int .i64 a) := e0
  have f1 : w1.drew.cell? ⟨w.heap.size, 1, none⟩ = some (.int .i64 b) := e1
  have f2 : w1.drew.cell? ⟨w.heap.size, 2, none⟩ = some (.int .i64 c) := e2
  obtain ⟨R, hR⟩ : ∃ R, c + ((v % 2 ^ wid b : Nat) : Int) = R := ⟨_, rfl⟩
  have NX : Hid (∀ W, Calls Try.prog 20 #[cev a b c, .int .u64 (v : Int)] W fun e w' => e = .returned (.int .i64 R) ∧ Below W.heap.size W w') := Lib.hid (fun W => by rw [← hR]; exact next_any W a b c v hv hb hc)
  have RX : Hid (∀ W, Calls Try.prog 24 #[cev a b c, .int .u64 (v : Int)] W fun e w' => e = .returned (.int .i64 R) ∧ Below W.heap.size W w') := Lib.hid (fun W => by rw [← hR]; exact rnext_any W a b c v hv hb hc)
  have Q1 : Hid (Ce w1.drew w.heap.size a b c) := Lib.hid (q1.same rfl)
  have B0 : Hid (Below w.heap.size w w1.drew) := Lib.hid b1.drew
  have hd : decide (c < -1099511627776) = false := decide_eq_false (by omega)
  have hd2 : decide (1099511627776 < c) = false := decide_eq_false (by omega)
  clear b1 q1 hR hb hc hv
  go_enter Try.func8, Try.ntmps8
  go_wp2
  go_region_held3 (fun W => W.cell? ⟨w.heap.size, 0, none⟩ = some (.int .i64 a) ∧ W.cell? ⟨w.heap.size, 1, none⟩ = some (.int .i64 b) ∧ W.cell? ⟨w.heap.size, 2, none⟩ = some (.int .i64 c)) (first | exact ⟨f0, f1, f2⟩ | exact ⟨g0, g1, g2⟩ | exact ⟨h0, h1, h2⟩ | exact ⟨i0, i1, i2⟩) (first
    | (go_at_call 20; refine (NX.out _).mono ?_; rintro e w2 ⟨rfl, hb2⟩; have B2 := Lib.hid (below_on B0.out (Nat.le_refl _) hb2); have q2 := Q1.out.below (W' := w2) hb2; have g0 := q2.c0; have g1 := q2.c1; have g2 := q2.c2; clear q2; have Q2 := Lib.hid hb2; clear hb2)
    | (go_at_call 24; refine (RX.out _).mono ?_; rintro e w3 ⟨rfl, hb3⟩; have B3 := Lib.hid (below_on B2.out (Nat.le_refl _) hb3); have q3 := (Q1.out.below (W' := w2) Q2.out).below hb3; have h0 := q3.c0; have h1 := q3.c1; have h2 := q3.c2; clear q3; have Q3 := Lib.hid hb3; clear hb3)
    | (go_at_call 11; refine (known_any _).mono ?_; rintro e w4 ⟨rfl, hb4⟩; have B4 := Lib.hid (below_on B3.out (Nat.le_refl _) hb4); have q4 := ((Q1.out.below (W' := w2) Q2.out).below Q3.out).below hb4; have i0 := q4.c0; have i1 := q4.c1; have i2 := q4.c2; clear q4 hb4))
  all_goals
    go_wp2
    go_ret
    exact ⟨rfl, B4.out⟩

theorem walk (a b c v : Int) (w : World) (_ : (Lit.int .i64 a).wf = true) (hb : (Lit.int .i64 b).wf = true) (_ : (Lit.int .i64 c).wf = true) (hv : (Lit.int .u64 v).wf = true) :
    Calls Try.prog 8 #[cev a b c, .int .u64 v] w fun e w' => e = .returned (.bool true) ∧ Below w.heap.size w w' := by
  by_cases h : c < -1099511627776 ∨ 1099511627776 < c
  · exact walk_far a b c v w h
  · have h1 := bounds_u64 hv
    obtain ⟨n, rfl⟩ : ∃ n : Nat, v = (n : Int) := ⟨v.toNat, by omega⟩
    exact walk_near a b c n w (bounds_i64 hb) (by omega) (by omega)

set_option maxRecDepth 100000 in
theorem lifted (os : Os) (started : os.Started) (H : Type) (enc : TypeId × Value → H) :
    ReturnsInHanded {} Try.checked os 8 .any (Rows.cellsNextSpec.pre6 enc Try.prog Try.f8 Rows.cellsNextRow.domain false) (Rows.cellsNextSpec.post enc Try.prog Try.f8 false true false false) := by
  refine returnsInHanded_of_change_sized (C := Try.checked) ownB started (by kernel_rfl) Try.func8
    (ChangeSpec.witness6 (enc := enc) (C := Try.checked) false ⟨#[], #[.agg #[.int .i64 0, .int .i64 0, .int .i64 0], .int .u64 0], []⟩ 8 (by kernel_rfl) (by kernel_rfl) (by kernel_rfl) (by kernel_rfl)) ?_
  intro W base args ds gs before hval0 hW _ hsz0 _
  have hsz : (DataW.weightsEach Try.prog (Try.f8.params.toList ++ Rows.cellsNextSpec.plain.varTypes Try.prog) (ds ++ gs)).all (· ≤ reachBytes) = true := hsz0
  clear hsz0
  have hval : ∀ (j : Nat) t v, Try.f8.params[j]? = some t → args[j]? = some v → Value.okWide Try.prog W .any base t v := hval0
  have hW' := hW
  obtain ⟨p, q, hA0, hV, rfl, hfz, hnd⟩ := hW
  have hA : DataW.TrodAll enc Try.prog W 0 (fun _ => true) true Try.f8.params.toList args.toList ds p := hA0
  rw [Try.params8] at hA hval hsz
  obtain ⟨v0, vs0, d0, ds0, p0, q0, hargs, rfl, rfl, h0, r0⟩ := trodAll_cons hA
  obtain ⟨v1, vs1, d1, ds1, p1, q1, rfl, rfl, rfl, h1, r1⟩ := trodAll_cons r0
  obtain ⟨rfl, rfl, rfl⟩ := trodAll_nil r1
  obtain rfl : args = #[v0, v1] := by cases args; simp_all
  obtain ⟨rfl, rfl⟩ := trodVars_none hV
  obtain ⟨cs0, rfl, hcs0⟩ := okWide_struct Try.underlying45 (hval 0 45 v0 rfl rfl)
  have k0 := h0
  have lt0 : ∀ x ∈ p0, x.block < W.heap.size := by obtain ⟨m, hm⟩ := k0; exact DataW.trod_lt m _ _ _ hm
  obtain ⟨x0, y0, z0, rfl, wx0, wy0, wz0⟩ := open_cell hcs0 h0
  obtain ⟨a1, rfl, rfl, rfl, w1⟩ := open_int Try.underlying47 (hval 1 47 v1 rfl rfl) h1
  clear hA0 hval0
  refine (walk x0 y0 z0 a1 W wx0 wy0 wz0 w1).mono fun e W' ⟨he, bel⟩ => ?_
  subst he
  exact ⟨_, rfl, _, _, _, [], _, [], hW', trodAll_mk1 (shut_bool Try.underlying4 _), (trodAll_cons_mk (Below.trod laidOut (by kernel_rfl) (of_decide_eq_true (by kernel_rfl)) k0 bel lt0) (trodAll_cons_mk (shut_int Try.underlying47 w1) trodAll_mk0)), rfl, bel.frame _, fun h => by cases h⟩

theorem proved : Rows.CellsNextSaid :=
  OpenClaim.holds_of_wide 8 Try.f8 rfl rfl rfl rfl rfl rfl rfl ⟨rfl, rfl, rfl, rfl, rfl⟩ rfl rfl rfl rfl rfl (by kernel_rfl) Try.func8 (by kernel_rfl)
    (of_decide_eq_true (by kernel_rfl)) (by unfold Func.isWrapper; rw [if_neg (by decide +kernel)]; exact ⟨rfl, rfl⟩)
    (fun os started H enc _ => lifted os started H enc)

#print axioms proved

end Go.Proofs.Ytfgjeiheekohdaa.cellsNext
