/-
  What the closures of division.settle do: whether something is left to adjust, whether a portion may be changed, how great its claim is. Only new memory. Condition: the numbers are in their ranges.
-/
import Derived.Deep.RegionHeld3
import Derived.RangeFuncCalls
import Derived.Test.YtkojdhmgefggjaaDvd
namespace Go.Proofs.Ytkojdhmgefggjaa
open Go.RowKit Go.Shelf

/-- A portion as a value. -/
abbrev por (i sh st : Int) : Value := .agg #[.int .i64 i, .int .i64 sh, .int .i64 st]

set_option maxRecDepth 100000 in
set_option maxHeartbeats 1000000 in
theorem due_up (w : World) (z : Int) : Calls Try.prog 34 #[.int .i64 z] w fun e w' => e = .returned (.bool (decide (0 < z))) ∧ w' = w := by
  go_enter Try.func34, Try.ntmps34
  go_wp2
  go_ret
  exact ⟨by simp, rfl⟩

set_option maxRecDepth 100000 in
set_option maxHeartbeats 1000000 in
theorem due_dn (w : World) (z : Int) : Calls Try.prog 36 #[.int .i64 z] w fun e w' => e = .returned (.bool (decide (z < 0))) ∧ w' = w := by
  go_enter Try.func36, Try.ntmps36
  go_wp2
  go_ret
  exact ⟨by simp, rfl⟩

set_option maxRecDepth 100000 in
set_option maxHeartbeats 1000000 in
theorem open_up (w : World) (i sh st : Int) : Calls Try.prog 35 #[por i sh st] w fun e w' => e = .returned (.bool true) ∧ Below w.heap.size w w' := by
  have B0 : Hid (Below w.heap.size w (w.alloc (.cells #[.int .i64 i, .int .i64 sh, .int .i64 st] 54))) := Lib.hid ((Below.refl _ w).alloc (Nat.le_refl _) _)
  go_enter Try.func35, Try.ntmps35
  go_wp2
  go_ret
  exact ⟨rfl, B0.out⟩

set_option maxRecDepth 100000 in
set_option maxHeartbeats 1000000 in
theorem open_dn (w : World) (i sh st : Int) : Calls Try.prog 37 #[por i sh st] w fun e w' => e = .returned (.bool (decide (1 < st))) ∧ Below w.heap.size w w' := by
  have B0 : Hid (Below w.heap.size w (w.alloc (.cells #[.int .i64 i, .int .i64 sh, .int .i64 st] 54))) := Lib.hid ((Below.refl _ w).alloc (Nat.le_refl _) _)
  go_enter Try.func37, Try.ntmps37
  go_wp2
  go_ret
  exact ⟨by simp, B0.out⟩

/-- What the claims read: the boxed division and its total. -/
structure Env (w : World) (bd b : Nat) (T : Nat) : Prop where
  box : w.cell? ⟨bd, 0, none⟩ = some (.pointer (some ⟨b, 0, none⟩))
  tot : w.cell? ⟨b, 1, none⟩ = some (.int .i64 (T : Int))
theorem Env.below {w w' : World} {bd b T : Nat} (h : Env w bd b T) (hb : Below w.heap.size w w') : Env w' bd b T :=
  ⟨(hb.cell (cell_lt h.box)).trans h.box, (hb.cell (cell_lt h.tot)).trans h.tot⟩
theorem Env.drew {w : World} {bd b T : Nat} (h : Env w bd b T) : Env w.drew bd b T := ⟨h.box, h.tot⟩

set_option maxRecDepth 100000 in
set_option maxHeartbeats 1000000 in
theorem claim_up (w : World) (i sh st : Int) (bd b T : Nat) (he : Env w bd b T) (hT : T ≤ 1099511627776) (h1 : 0 ≤ sh ∧ sh ≤ 562949953421312) (h2 : 0 ≤ st ∧ st ≤ 1000000) :
    Calls Try.prog 32 #[por i sh st, .pointer (some ⟨bd, 0, none⟩)] w fun e w' => e = .returned (.int .i64 (sh - st * (T : Int))) ∧ Below w.heap.size w w' := by
  have B0 : Hid (Below w.heap.size w (w.alloc (.cells #[.int .i64 i, .int .i64 sh, .int .i64 st] 54))) := Lib.hid ((Below.refl _ w).alloc (Nat.le_refl _) _)
  have c0 := (he.below B0.out).box
  have c1 := (he.below B0.out).tot
  have h3 : 0 ≤ st * (T : Int) ∧ st * (T : Int) ≤ 1099511627776000000 := by
    have h4 := Int.mul_le_mul h2.2 (show (T : Int) ≤ 1099511627776 by omega) (by omega) (by omega)
    have h5 := Int.mul_nonneg h2.1 (show (0 : Int) ≤ (T : Int) by omega)
    omega
  obtain ⟨P, hP⟩ : ∃ P, st * (T : Int) = P := ⟨_, rfl⟩
  rw [hP] at h3 ⊢
  have w1 : IntKind.i64.wrap P = P := IntWalk.i64_in _ (by omega)
  have w2 : IntKind.i64.wrap (sh - P) = sh - P := IntWalk.i64_in _ (by omega)
  clear he
  go_enter Try.func32, Try.ntmps32
  go_wp2
  go_region
  all_goals
    go_wp2
    go_ret
    exact ⟨rfl, B0.out.drew⟩

set_option maxRecDepth 100000 in
set_option maxHeartbeats 1000000 in
theorem claim_dn (w : World) (i sh st : Int) (bl bd b T : Nat) (hl : w.cell? ⟨bl, 0, none⟩ = some (.func (Fn.func 32) #[] #[.pointer (some ⟨bd, 0, none⟩)])) (he : Env w bd b T) (hT : T ≤ 1099511627776) (h1 : 0 ≤ sh ∧ sh ≤ 562949953421312) (h2 : 0 ≤ st ∧ st ≤ 1000000) :
    Calls Try.prog 38 #[por i sh st, .pointer (some ⟨bl, 0, none⟩)] w fun e w' => e = .returned (.int .i64 (-(sh - st * (T : Int)))) ∧ Below w.heap.size w w' := by
  have B0 : Hid (Below w.heap.size w (w.alloc (.cells #[.int .i64 i, .int .i64 sh, .int .i64 st] 54))) := Lib.hid ((Below.refl _ w).alloc (Nat.le_refl _) _)
  have c0 := (B0.out.cell (cell_lt hl)).trans hl
  have HC := Lib.hid (claim_up _ i sh st bd b T (he.below B0.out) hT h1 h2)
  have h3 : 0 ≤ st * (T : Int) ∧ st * (T : Int) ≤ 1099511627776000000 := by
    have h4 := Int.mul_le_mul h2.2 (show (T : Int) ≤ 1099511627776 by omega) (by omega) (by omega)
    have h5 := Int.mul_nonneg h2.1 (show (0 : Int) ≤ (T : Int) by omega)
    omega
  obtain ⟨P, hP⟩ : ∃ P, st * (T : Int) = P := ⟨_, rfl⟩
  rw [hP] at h3 HC ⊢
  clear he hl
  go_enter Try.func38, Try.ntmps38
  go_wp2_with (go_at_call 32; refine HC.out.mono ?_; rintro e w1 ⟨rfl, hb1⟩; have B1 := Lib.hid (below_on B0.out (Nat.le_refl _) hb1); clear hb1)
  go_ret
  exact ⟨rfl, B1.out⟩

end Go.Proofs.Ytkojdhmgefggjaa
