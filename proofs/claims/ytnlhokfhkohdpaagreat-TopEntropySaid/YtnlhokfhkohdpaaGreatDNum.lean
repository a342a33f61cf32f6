/-
  What bits.Len64 and bits.Len do: the number of bits. Nothing has changed. Conditions: the numbers are in their ranges.
  What split and states of package desc do: how many bits a truncated binary code has, the states of a norm. Nothing has changed. Conditions: those that each theorem states.
-/
import Derived.Test.YtnlhokfhkohdpaaGreatSa
import Derived.Lib.BitFns
import Derived.Lib.Strings
import Derived.Lib.Slices
import Derived.Lib.Small
import Derived.Lib.Walk
import Derived.Test.YtnlhokfhkohdpaaGreatDa
import Derived.BigQuiet
import Derived.Deep.QuietTactic
namespace Go.Proofs.YtnlhokfhkohdpaaGreat.De

section
open Go.RowKit
/-- The number of bits of a number. -/
def blen (x : Nat) : Nat := if x = 0 then 0 else x.log2 + 1

theorem tab_len (s : ByteArray) (hs : decide (∀ x (h : x < s.size), wrap64 (s[x].toNat : Int) = (blen x : Int)) = true) (x : Nat) (h : x < s.size) : wrap64 (s[x].toNat : Int) = (blen x : Int) := of_decide_eq_true hs x h

theorem blen_div {v : Nat} (s : Nat) (h : 2 ^ s ≤ v) : blen (v / 2 ^ s) + s = blen v := by
  have hv : v ≠ 0 := by have := Nat.two_pow_pos s; omega
  have hd : v / 2 ^ s ≠ 0 := by have := Nat.div_pos h (Nat.two_pow_pos s); omega
  unfold blen
  rw [if_neg hv, if_neg hd]
  obtain ⟨h1, h2⟩ := (Nat.log2_eq_iff hd).1 rfl
  have : v.log2 = (v / 2 ^ s).log2 + s := by
    rw [Nat.log2_eq_iff hv]
    constructor
    · rw [Nat.pow_add]
      exact (Nat.le_div_iff_mul_le (Nat.two_pow_pos s)).1 h1
    · rw [show (v / 2 ^ s).log2 + s + 1 = ((v / 2 ^ s).log2 + 1) + s by omega, Nat.pow_add]
      exact (Nat.div_lt_iff_lt_mul (Nat.two_pow_pos s)).1 h2
  omega

theorem tab_sz : Lib.len8tab.size = 256 := by kernel_rfl
theorem tab_blen : decide (∀ x (h : x < Lib.len8tab.size), wrap64 (Lib.len8tab[x].toNat : Int) = (blen x : Int)) = true := by decide +kernel
theorem blen_8 {y : Nat} (h : y < 256) : blen y ≤ 8 := by
  unfold blen
  split
  · omega
  · next h0 =>
    have := (Nat.log2_lt h0).2 (show y < 2 ^ 8 by omega)
    omega

theorem tab_fin (v s D y : Nat) (h : y < Lib.len8tab.size) (hD : D = 2 ^ s) (hy : y = v / D) (hs : D ≤ v) (h56 : s ≤ 56) : wrap64 ((s : Int) + wrap64 (Lib.len8tab[y].toNat : Int)) = (blen v : Int) := by
  rw [tab_len _ tab_blen y h]
  have h8 := blen_8 (show y < 256 by rw [tab_sz] at h; exact h)
  subst hD
  have := blen_div s hs
  rw [← hy] at this
  rw [← this]
  unfold wrap64
  omega
theorem tab_fin0 (y : Nat) (h : y < Lib.len8tab.size) : wrap64 (wrap64 (Lib.len8tab[y].toNat : Int)) = (blen y : Int) := by
  rw [tab_len _ tab_blen y h]
  have h8 := blen_8 (show y < 256 by rw [tab_sz] at h; exact h)
  unfold wrap64
  omega

set_option maxRecDepth 100000 in
set_option maxHeartbeats 4000000 in
theorem len64_int (w : World) (x : Int) (h0 : 0 ≤ x) (h1 : x ≤ 18446744073709551615) : Calls Tryz.prog 42 #[.int .u64 x] w fun e w' => e = .returned (.int .i64 (blen x.toNat : Int)) ∧ w' = w := by
  have hsz := tab_sz
  go_enter Tryz.func42, Tryz.ntmps42
  go_wp2
  all_goals (go_ret; refine ⟨congrArg (fun z => Ending.returned (Value.int .i64 z)) ?_, rfl⟩)
  · exact tab_fin x.toNat 56 72057594037927936 _ (by rw [hsz]; omega) (by decide) (by omega) (by omega) (by omega)
  · exact tab_fin x.toNat 48 281474976710656 _ (by rw [hsz]; omega) (by decide) (by omega) (by omega) (by omega)
  · exact tab_fin x.toNat 40 1099511627776 _ (by rw [hsz]; omega) (by decide) (by omega) (by omega) (by omega)
  · exact tab_fin x.toNat 32 4294967296 _ (by rw [hsz]; omega) (by decide) (by omega) (by omega) (by omega)
  · exact tab_fin x.toNat 24 16777216 _ (by rw [hsz]; omega) (by decide) (by omega) (by omega) (by omega)
  · exact tab_fin x.toNat 16 65536 _ (by rw [hsz]; omega) (by decide) (by omega) (by omega) (by omega)
  · exact tab_fin x.toNat 8 256 _ (by rw [hsz]; omega) (by decide) (by omega) (by omega) (by omega)
  · exact tab_fin0 _ (by rw [hsz]; omega)

theorem len64_any (w : World) (v : Nat) (hv : v < 18446744073709551616) : Calls Tryz.prog 42 #[.int .u64 (v : Int)] w fun e w' => e = .returned (.int .i64 (blen v : Int)) ∧ w' = w :=
  len64_int w v (by omega) (by omega)

set_option maxRecDepth 100000 in
set_option maxHeartbeats 1000000 in
theorem len_any (w : World) (v : Nat) (hv : v < 18446744073709551616) : Calls Tryz.prog 16 #[.int .u64 (v : Int)] w fun e w' => e = .returned (.int .i64 (blen v : Int)) ∧ w' = w := by
  have L64 := Lib.hid (len64_any w v hv)
  go_enter Tryz.func16, Tryz.ntmps16
  go_wp2_with (go_at_call 42; refine L64.out.mono ?_; rintro e w' ⟨rfl, rfl⟩)
  go_ret
  exact ⟨rfl, rfl⟩
end

section
open Go.RowKit Go.Shelf
set_option maxRecDepth 100000 in
set_option maxHeartbeats 1000000 in
theorem states_any (w : World) (z : Int) (h : -1 ≤ z) (h2 : z ≤ 1000000) : Calls Tryz.prog 52 #[.int .i64 z] w fun e w' => e = .returned (.int .i64 (sts z)) ∧ w' = w := by
  by_cases h1 : z = -1
  · subst h1
    go_enter Tryz.func52, Tryz.ntmps52
    go_wp2
    go_ret
    exact ⟨rfl, rfl⟩
  · have e : sts z = z := by unfold sts; rw [if_neg h1]
    have hm : max z (-z) = z := by omega
    rw [e]
    go_enter Tryz.func52, Tryz.ntmps52
    go_wp2
    go_ret
    exact ⟨rfl, rfl⟩

set_option maxRecDepth 100000 in
set_option maxHeartbeats 2000000 in
theorem split_any (w : World) (m g u : Nat) (h2 : 2 ≤ m) (h5 : m ≤ 514) (hg : wid m = g) (hu : sho m = u) :
    Calls Tryz.prog 80 #[.int .i64 (m : Int)] w fun e w' => e = .returned (.tuple #[.int .i64 (g : Int), .int .i64 (u : Int)]) ∧ ∃ d, w' = w.drewN d := by
  have LN := Lib.hid (len_any w m (by omega))
  have hb : blen m = g + 1 := by unfold blen; rw [if_neg (by omega), ← hg]; rfl
  have hg9 : g ≤ 9 := by rw [← hg]; exact wid_le h5
  have hs := sho_add m
  rw [hg, hu] at hs
  obtain ⟨P, hP⟩ : ∃ P, 2 ^ g = P := ⟨_, rfl⟩
  rw [hP] at hs
  have hP5 : P ≤ 512 := by rw [← hP]; exact pow_le hg9
  have hPi : (2 : Int) ^ g = (P : Int) := by rw [← hP]; exact (Int.natCast_pow 2 g).symm
  have hg64 : g ≤ 64 := by omega
  have kb : decide ((g : Int) < 0) = false := decide_eq_false (by omega)
  have w1 : IntKind.i64.wrap (2 * 2 ^ g) = ((2 * P : Nat) : Int) := by rw [hPi]; exact IntWalk.i64_in _ (by omega)
  have w2 : IntKind.i64.wrap (2 * 2 ^ min g 64) = ((2 * P : Nat) : Int) := by rw [Nat.min_eq_left hg64]; exact w1
  have w3 : wrap64 (2 * 2 ^ g) = ((2 * P : Nat) : Int) := by rw [hPi]; unfold wrap64; omega
  have w4 : IntKind.i64.wrap (((2 * P : Nat) : Int) - (m : Int)) = (u : Int) := by rw [IntWalk.i64_in _ (by omega)]; omega
  have w5 : wrap64 (((2 * P : Nat) : Int) - (m : Int)) = (u : Int) := by unfold wrap64; omega
  have HSU : Hid (2 * (P : Int) - (m : Int) = (u : Int)) := Lib.hid (by omega)
  rw [hb] at LN
  clear hb hg hu hP hPi hs
  go_enter Tryz.func80, Tryz.ntmps80
  go_wp2_with (go_at_call 16; refine LN.out.mono ?_; rintro e w' ⟨rfl, rfl⟩)
  go_quiet (fail)
  go_wp2
  go_ret2
  exact ⟨by rw [← HSU.out]; rfl, _, rfl⟩
end

end Go.Proofs.YtnlhokfhkohdpaaGreat.De
