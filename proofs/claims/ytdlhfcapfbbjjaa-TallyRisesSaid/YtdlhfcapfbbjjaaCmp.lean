/-
  What cmp.Compare at int and the comparison that list.increasing hands to the sort do: the order of two counts. Only new memory. No condition.
-/
import Derived.Test.YtdlhfcapfbbjjaaIns
namespace Go.Proofs.Ytdlhfcapfbbjjaa
open Go.RowKit

/-- The order of two numbers. -/
def cmpi (a b : Int) : Int := if a < b then -1 else if b < a then 1 else 0

set_option maxHeartbeats 1000000 in
theorem isnan_any (w : World) (a : Int) : Calls Try.prog 63 #[.int .i64 a] w fun e w' => e = .returned (.bool false) ∧ w' = w := by
  go_enter Try.func63, Try.ntmps63
  go_wp2
  go_ret
  exact ⟨by simp, rfl⟩

set_option maxRecDepth 100000 in
set_option maxHeartbeats 1000000 in
theorem compare_any (w : World) (a b : Int) : Calls Try.prog 60 #[.int .i64 a, .int .i64 b] w fun e w' => e = .returned (.int .i64 (cmpi a b)) ∧ w' = w := by
  obtain ⟨R, hR⟩ : ∃ R, cmpi a b = R := ⟨_, rfl⟩
  rw [hR]
  have HR := Lib.hid hR
  clear hR
  by_cases h1 : a < b
  · have HE : Hid (R = -1) := Lib.hid (by rw [← HR.out, cmpi, if_pos h1])
    go_enter Try.func60, Try.ntmps60
    go_wp2_with (go_at_call 63; refine (isnan_any _ _).mono ?_; rintro e w' ⟨rfl, rfl⟩)
    go_ret
    exact ⟨by rw [HE.out]; rfl, rfl⟩
  · by_cases h2 : b < a
    · have HE : Hid (R = 1) := Lib.hid (by rw [← HR.out, cmpi, if_neg h1, if_pos h2])
      go_enter Try.func60, Try.ntmps60
      go_wp2_with (go_at_call 63; refine (isnan_any _ _).mono ?_; rintro e w' ⟨rfl, rfl⟩)
      go_ret
      exact ⟨by rw [HE.out]; rfl, rfl⟩
    · have HE : Hid (R = 0) := Lib.hid (by rw [← HR.out, cmpi, if_neg h1, if_neg h2])
      go_enter Try.func60, Try.ntmps60
      go_wp2_with (go_at_call 63; refine (isnan_any _ _).mono ?_; rintro e w' ⟨rfl, rfl⟩)
      go_ret
      exact ⟨by rw [HE.out]; rfl, rfl⟩

/-- An entry as a value. -/
abbrev ent (p : Nat × Nat) : Value := .agg #[nv p.1, nv p.2]

set_option maxRecDepth 100000 in
set_option maxHeartbeats 1000000 in
theorem incr1_any (w : World) (p q : Nat × Nat) : Calls Try.prog 59 #[ent p, ent q] w fun e w' => e = .returned (.int .i64 (cmpi p.2 q.2)) ∧ w' = (w.alloc (.cells #[nv p.1, nv p.2] 76)).alloc (.cells #[nv q.1, nv q.2] 76) := by
  go_enter Try.func59, Try.ntmps59
  go_wp2_with (go_at_call 60; refine (compare_any _ _ _).mono ?_; rintro e w' ⟨rfl, rfl⟩)
  go_ret
  exact ⟨rfl, rfl⟩

end Go.Proofs.Ytdlhfcapfbbjjaa
