/-
  What bits.Len64, tally.logarithm and tally.Log2 do: the number of bits; the fixed-point logarithm. Nothing has changed. Conditions: the numbers are in their ranges.
-/
import Derived.Test.YtdlhfcapfbbjjaaChk
import Derived.Lib.BitFns
import Derived.Lib.Strings
import Derived.Lib.Slices
import Derived.Lib.Small
import Derived.Lib.Walk
namespace Go.Proofs.Ytdlhfcapfbbjjaa
open Go.RowKit

/-- The number of bits of a number. -/
def blen (x : Nat) : Nat := if x = 0 then 0 else x.log2 + 1

theorem tab_len (s : ByteArray) (hs : decide (∀ x (h : x < s.size), wrap64 (s[x].toNat : Int) = (blen x : Int)) = true) (x : Nat) (h : x < s.size) : wrap64 (s[x].toNat : Int) = (blen x : Int) := of_decide_eq_true hs x h

theorem blen_div {v : Nat} (s : Nat) (h : 2 ^ s ≤ v) : blen (v / 2 ^ s) + s = blen v := by
  have hv : v ≠ 0 := by have := Nat.two_pow_pos s; omega
  have hd : v / 2 ^ s ≠ 0 := by have := Nat.div_pos h (Nat.two_pow_pos s); omega
  unfold blen
  rw [if_neg hv, if_neg hd]
  obtain ⟨h1, h2⟩ := (Nat.log2_eq_iff hd).1 rfl
  have : v.log2 = (v / 2 ^ s).log2 + s := by
    rw [Nat.log2_eq_iff hv]
    constructor
    · rw [Nat.pow_add]
      exact (Nat.le_div_iff_mul_le (Nat.two_pow_pos s)).1 h1
    · rw [show (v / 2 ^ s).log2 + s + 1 = ((v / 2 ^ s).log2 + 1) + s by omega, Nat.pow_add]
      exact (Nat.div_lt_iff_lt_mul (Nat.two_pow_pos s)).1 h2
  omega

theorem tab_sz : Lib.len8tab.size = 256 := by kernel_rfl
theorem tab_blen : decide (∀ x (h : x < Lib.len8tab.size), wrap64 (Lib.len8tab[x].toNat : Int) = (blen x : Int)) = true := by decide +kernel
theorem blen_8 {y : Nat} (h : y < 256) : blen y ≤ 8 := by
  unfold blen
  split
  · omega
  · next h0 =>
    have := (Nat.log2_lt h0).2 (show y < 2 ^ 8 by omega)
    omega

theorem tab_fin (v s D y : Nat) (h : y < Lib.len8tab.size) (hD : D = 2 ^ s) (hy : y = v / D) (hs : D ≤ v) (h56 : s ≤ 56) : wrap64 ((s : Int) + wrap64 (Lib.len8tab[y].toNat : Int)) = (blen v : Int) := by
  rw [tab_len _ tab_blen y h]
  have h8 := blen_8 (show y < 256 by rw [tab_sz] at h; exact h)
  subst hD
  have := blen_div s hs
  rw [← hy] at this
  rw [← this]
  unfold wrap64
  omega
theorem tab_fin0 (y : Nat) (h : y < Lib.len8tab.size) : wrap64 (wrap64 (Lib.len8tab[y].toNat : Int)) = (blen y : Int) := by
  rw [tab_len _ tab_blen y h]
  have h8 := blen_8 (show y < 256 by rw [tab_sz] at h; exact h)
  unfold wrap64
  omega

set_option maxRecDepth 100000 in
set_option maxHeartbeats 4000000 in
theorem len64_int (w : World) (x : Int) (h0 : 0 ≤ x) (h1 : x ≤ 18446744073709551615) : Calls Try.prog 57 #[.int .u64 x] w fun e w' => e = .returned (.int .i64 (blen x.toNat : Int)) ∧ w' = w := by
  have hsz := tab_sz
  go_enter Try.func57, Try.ntmps57
  go_wp2
  all_goals (go_ret; refine ⟨congrArg (fun z => Ending.returned (Value.int .i64 z)) ?_, rfl⟩)
  · exact tab_fin x.toNat 56 72057594037927936 _ (by rw [hsz]; omega) (by decide) (by omega) (by omega) (by omega)
  · exact tab_fin x.toNat 48 281474976710656 _ (by rw [hsz]; omega) (by decide) (by omega) (by omega) (by omega)
  · exact tab_fin x.toNat 40 1099511627776 _ (by rw [hsz]; omega) (by decide) (by omega) (by omega) (by omega)
  · exact tab_fin x.toNat 32 4294967296 _ (by rw [hsz]; omega) (by decide) (by omega) (by omega) (by omega)
  · exact tab_fin x.toNat 24 16777216 _ (by rw [hsz]; omega) (by decide) (by omega) (by omega) (by omega)
  · exact tab_fin x.toNat 16 65536 _ (by rw [hsz]; omega) (by decide) (by omega) (by omega) (by omega)
  · exact tab_fin x.toNat 8 256 _ (by rw [hsz]; omega) (by decide) (by omega) (by omega) (by omega)
  · exact tab_fin0 _ (by rw [hsz]; omega)

theorem len64_any (w : World) (v : Nat) (hv : v < 18446744073709551616) : Calls Try.prog 57 #[.int .u64 (v : Int)] w fun e w' => e = .returned (.int .i64 (blen v : Int)) ∧ w' = w :=
  len64_int w v (by omega) (by omega)

/-- The logarithm in units of 1/256, of a number from 1 on. -/
def lg (n : Nat) : Nat := n.log2 * 256 + (n - 2 ^ n.log2) * 256 / 2 ^ n.log2

end Go.Proofs.Ytdlhfcapfbbjjaa
