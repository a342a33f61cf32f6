/-
  What spread.Step and the reference's Step do: the step for a size, which is clamped to 1..512 first. Nothing has changed. No condition.
-/
import Derived.Test.YtonapehlhkoplaaRow
namespace Go.Proofs.Ytonapehlhkoplaa
open Go.RowKit Go.Shelf

/-- The step for any size. -/
def stz (z : Int) : Nat := if z < 16 then 1 else if 512 < z then stp 512 else stp z.toNat
theorem stz_nat {s : Nat} (h : s ≤ 512) : stz (s : Int) = stp s := by
  unfold stz
  by_cases h1 : s < 16
  · rw [if_pos (by omega), stp, if_pos h1]
  · rw [if_neg (by omega), if_neg (by omega), Int.toNat_natCast]

set_option maxRecDepth 100000 in
set_option maxHeartbeats 2000000 in
theorem step_any (w : World) (z : Int) : Calls Try.prog 53 #[.int .i64 z] w fun e w' => e = .returned (nv (stz z)) ∧ w' = w := by
  by_cases h0 : z < 1
  · have e : stz z = 1 := by unfold stz; rw [if_pos (by omega)]
    rw [e]
    have hm : max z 1 = 1 := by omega
    go_enter Try.func53, Try.ntmps53
    go_wp2
    go_ret
    exact ⟨rfl, rfl⟩
  · have hm : max z 1 = z := by omega
    by_cases h1 : z < 16
    · have e : stz z = 1 := by unfold stz; rw [if_pos h1]
      rw [e]
      have hm2 : min z 512 = z := by omega
      go_enter Try.func53, Try.ntmps53
      go_wp2
      go_ret
      exact ⟨rfl, rfl⟩
    · by_cases h2 : 512 < z
      · have e : stz z = 323 := by unfold stz; rw [if_neg h1, if_pos h2]; decide
        rw [e]
        have hm2 : min z 512 = 512 := by omega
        go_enter Try.func53, Try.ntmps53
        go_wp2
        go_ret
        exact ⟨rfl, rfl⟩
      · obtain ⟨s, rfl⟩ : ∃ s : Nat, z = (s : Int) := ⟨z.toNat, by omega⟩
        have hm2 : min (s : Int) 512 = (s : Int) := by omega
        rw [stz_nat (by omega)]
        have e : stp s = s / 2 + s / 8 + 3 := by unfold stp; rw [if_neg (by omega)]
        rw [e]
        go_enter Try.func53, Try.ntmps53
        go_wp2
        go_ret
        exact ⟨by simp, rfl⟩

set_option maxRecDepth 100000 in
set_option maxHeartbeats 2000000 in
theorem rstep_any (w : World) (z : Int) : Calls Try.prog 45 #[.int .i64 z] w fun e w' => e = .returned (nv (stz z)) ∧ w' = w := by
  by_cases h1 : z < 16
  · have e : stz z = 1 := by unfold stz; rw [if_pos h1]
    rw [e]
    go_enter Try.func45, Try.ntmps45
    go_wp2
    go_ret
    exact ⟨rfl, rfl⟩
  · by_cases h2 : 512 < z
    · have e : stz z = 323 := by unfold stz; rw [if_neg h1, if_pos h2]; decide
      rw [e]
      go_enter Try.func45, Try.ntmps45
      go_wp2
      go_ret
      exact ⟨rfl, rfl⟩
    · obtain ⟨s, rfl⟩ : ∃ s : Nat, z = (s : Int) := ⟨z.toNat, by omega⟩
      rw [stz_nat (by omega)]
      have e : stp s = s / 2 + s / 8 + 3 := by unfold stp; rw [if_neg (by omega)]
      rw [e]
      go_enter Try.func45, Try.ntmps45
      go_wp2
      go_ret
      exact ⟨by simp, rfl⟩

end Go.Proofs.Ytonapehlhkoplaa
