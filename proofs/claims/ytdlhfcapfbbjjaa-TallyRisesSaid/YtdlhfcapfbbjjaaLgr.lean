/-
  What tally.logarithm and tally.Log2 do: the fixed-point logarithm, or the error. Nothing has changed. Condition of logarithm: the number is from 1 to 2^62 - 1.
-/
import Derived.Test.YtdlhfcapfbbjjaaLog
namespace Go.Proofs.Ytdlhfcapfbbjjaa
open Go.RowKit

theorem log2_le {n : Nat} (h1 : 1 ≤ n) (h2 : n ≤ 4611686018427387903) : n.log2 < 62 := (Nat.log2_lt (by omega)).2 (by omega)

theorem w64 {n : Nat} (h : n < 9223372036854775808) : wrap64 (n : Int) = (n : Int) := by unfold wrap64; omega
theorem pow_int (k : Nat) : (2 : Int) ^ k = ((2 ^ k : Nat) : Int) := by simp

theorem lg_small {n k a : Nat} (hk : k < 8) (h1 : 2 ^ k ≤ n) (h2 : n < 2 ^ (k + 1)) (h3 : n ≤ 4611686018427387903) (ha : n - 2 ^ k = a) :
    wrap64 ((k : Int) * 256 + wrap64 (wrap64 ((n : Int) - wrap64 (2 ^ k)) * 2 ^ (8 - k))) = ((k * 256 + a * 256 / 2 ^ k : Nat) : Int) := by
  rw [pow_int, pow_int]
  have PQ : 2 ^ k * 2 ^ (8 - k) = 256 := by rw [← Nat.pow_add, show k + (8 - k) = 8 by omega]
  rw [Nat.pow_succ] at h2
  have hp := Nat.two_pow_pos k
  generalize 2 ^ k = P at *
  generalize 2 ^ (8 - k) = Q at *
  have e1 : a * 256 / P = a * Q := by rw [← PQ, ← Nat.mul_assoc, Nat.mul_right_comm, Nat.mul_div_cancel _ hp]
  rw [e1, w64 (by omega), show ((n : Int) - (P : Int)) = (a : Int) by omega, w64 (by omega), ← Int.natCast_mul]
  have hb : a * Q < 256 := by
    rw [← PQ]
    exact Nat.mul_lt_mul_of_pos_right (by omega) (by rcases Nat.eq_zero_or_pos Q with h | h; (· rw [h] at PQ; omega); exact h)
  generalize a * Q = m at *
  rw [w64 (by omega), show ((k : Int) * 256 + (m : Int)) = ((k * 256 + m : Nat) : Int) by omega, w64 (by omega)]
theorem lg_big {n k a : Nat} (hk : 8 ≤ k) (hk2 : k < 62) (h1 : 2 ^ k ≤ n) (h2 : n < 2 ^ (k + 1)) (h3 : n ≤ 4611686018427387903) (ha : n - 2 ^ k = a) :
    wrap64 ((k : Int) * 256 + wrap64 ((n : Int) - wrap64 (2 ^ k)) / 2 ^ (k - 8)) = ((k * 256 + a * 256 / 2 ^ k : Nat) : Int) := by
  rw [pow_int, pow_int]
  have PQ : 2 ^ k = 2 ^ (k - 8) * 256 := by rw [show (256 : Nat) = 2 ^ 8 by rfl, ← Nat.pow_add, show k - 8 + 8 = k by omega]
  rw [Nat.pow_succ] at h2
  have hp := Nat.two_pow_pos (k - 8)
  generalize 2 ^ k = P at *
  generalize 2 ^ (k - 8) = Q at *
  have e1 : a * 256 / P = a / Q := by rw [PQ]; exact Nat.mul_div_mul_right _ _ (by decide)
  rw [e1, w64 (by omega), show ((n : Int) - (P : Int)) = (a : Int) by omega, w64 (by omega), ← Int.natCast_ediv]
  have hb : a / Q ≤ a := Nat.div_le_self _ _
  generalize a / Q = m at *
  rw [show ((k : Int) * 256 + (m : Int)) = ((k * 256 + m : Nat) : Int) by omega, w64 (by omega)]

set_option maxRecDepth 100000 in
set_option maxHeartbeats 2000000 in
theorem logarithm_any (w : World) (n : Nat) (h1 : 1 ≤ n) (h2 : n ≤ 4611686018427387903) :
    Calls Try.prog 47 #[.int .i64 (n : Int)] w fun e w' => e = .returned (.int .i64 (lg n : Int)) ∧ w' = w := by
  have hk := log2_le h1 h2
  have HL := Lib.hid (len64_any w n (by omega))
  have e1 : blen n = n.log2 + 1 := by unfold blen; rw [if_neg (by omega)]
  obtain ⟨p1, p2⟩ := (Nat.log2_eq_iff (show n ≠ 0 by omega)).1 rfl
  rw [e1] at HL
  obtain ⟨R, hR⟩ : ∃ R, lg n = R := ⟨_, rfl⟩
  have HR := Lib.hid hR
  unfold lg at hR
  obtain ⟨k, hke⟩ : ∃ k, n.log2 = k := ⟨_, rfl⟩
  rw [hke] at hk HL p1 p2 hR
  obtain ⟨a, ha⟩ : ∃ a, n - 2 ^ k = a := ⟨_, rfl⟩
  rw [ha] at hR
  rw [HR.out]
  have HRR := Lib.hid hR
  clear hR HR e1 hke
  go_enter Try.func47, Try.ntmps47
  go_wp2_with (go_at_call 57; refine HL.out.mono ?_; rintro e w' ⟨rfl, rfl⟩)
  · go_ret
    exact ⟨by rw [← HRR.out]; exact congrArg (fun z => Ending.returned (Value.int .i64 z)) (lg_small (by omega) p1 p2 h2 ha), rfl⟩
  · go_ret
    exact ⟨by rw [← HRR.out]; exact congrArg (fun z => Ending.returned (Value.int .i64 z)) (lg_big (by omega) hk p1 p2 h2 ha), rfl⟩

/-- What Log2 answers: the logarithm or the error. -/
def lgv (z : Int) : Int := if 1 ≤ z ∧ z ≤ 4611686018427387903 then (lg z.toNat : Int) else 0
def lge (z : Int) : Int := if 1 ≤ z ∧ z ≤ 4611686018427387903 then 0 else 2

set_option maxRecDepth 100000 in
set_option maxHeartbeats 2000000 in
theorem log2_no (w : World) (z : Int) (h : z < 1 ∨ 4611686018427387903 < z) :
    Calls Try.prog 30 #[.int .i64 z] w fun e w' => e = .returned (.tuple #[.int .i64 0, .int .i64 2]) ∧ w' = w := by
  go_enter Try.func30, Try.ntmps30
  go_wp2
  refine wp_scope_fwd 0 rfl ?_
  by_cases h1 : z < 1
  · go_wp2
    go_step3
    refine And.intro rfl ?_
    go_wp2
    rw [Exit.noGoto_ret]
    go_ret2
    exact ⟨rfl, rfl⟩
  · have h2 : 4611686018427387903 < z := by omega
    go_wp2
    go_step3
    refine And.intro rfl ?_
    go_wp2
    rw [Exit.noGoto_ret]
    go_ret2
    exact ⟨rfl, rfl⟩
set_option maxRecDepth 100000 in
set_option maxHeartbeats 2000000 in
theorem log2_yes (w : World) (n : Nat) (h1 : 1 ≤ n) (h2 : n ≤ 4611686018427387903) :
    Calls Try.prog 30 #[.int .i64 (n : Int)] w fun e w' => e = .returned (.tuple #[.int .i64 (lg n : Int), .int .i64 0]) ∧ w' = w := by
  have HL := Lib.hid (logarithm_any w n h1 h2)
  go_enter Try.func30, Try.ntmps30
  go_wp2
  refine wp_scope_fwd 0 rfl ?_
  go_wp2_with (go_at_call 47; refine HL.out.mono ?_; rintro e w' ⟨rfl, rfl⟩)
  rw [jump_ret]
  go_ret2
  exact ⟨rfl, rfl⟩

end Go.Proofs.Ytdlhfcapfbbjjaa
