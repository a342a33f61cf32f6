/-
  What Next and SingleSymbol of package cells, and Next and One of the reference, do. Nothing that was there has changed. Conditions: those that each theorem states.
-/
import Derived.Lib.BitFns
import Derived.Lib.Strings
import Derived.Lib.Slices
import Derived.Lib.Small
import Derived.Lib.Walk
import Derived.Laws.BitsAllLaws
import Derived.Test.YtonapehlhkoplaaRw3
namespace Go.Proofs.Ytonapehlhkoplaa
open Go.RowKit Go.Shelf

/-- The width of a cell: its bits, clamped. -/
def wid (b : Int) : Nat := (min (max b 0) 62).toNat
theorem wid_le (b : Int) : wid b ≤ 62 := by unfold wid; omega

theorem next_num {c : Int} {v W : Nat} (hv : v < 18446744073709551616) (hW : W ≤ 62) (hc : -1099511627776 ≤ c ∧ c ≤ 1099511627776) :
    wrap64 (c + wrap64 (bits BinOp.and IntKind.u64 (v : Int) (IntKind.u64.wrap (IntKind.u64.wrap (2 ^ W) - 1)))) = c + ((v % 2 ^ W : Nat) : Int) := by
  have hp : 2 ^ W ≤ 4611686018427387904 := by
    have := Nat.pow_le_pow_right (n := 2) (by decide) hW
    rwa [show (2 : Nat) ^ 62 = 4611686018427387904 by decide] at this
  have hp1 : 0 < 2 ^ W := Nat.two_pow_pos W
  have e1 : ((2 : Int) ^ W) = ((2 ^ W : Nat) : Int) := by simp
  have hr : v % 2 ^ W < 2 ^ W := Nat.mod_lt _ hp1
  have hm : v &&& (2 ^ W - 1) = v % 2 ^ W := Nat.and_two_pow_sub_one_eq_mod v W
  rw [e1]
  obtain ⟨q, hq⟩ : ∃ q, 2 ^ W = q := ⟨_, rfl⟩
  rw [hq] at hp hp1 hr hm ⊢
  rw [IntWalk.u64_in (q : Int) (by omega), IntWalk.u64_in ((q : Int) - 1) (by omega)]
  have e2 : ((q : Int) - 1) = ((q - 1 : Nat) : Int) := by omega
  rw [e2, u64_and_nat _ _ (by omega) (by omega), hm]
  obtain ⟨r, hrr⟩ : ∃ r, v % q = r := ⟨_, rfl⟩
  rw [hrr] at hr ⊢
  unfold wrap64
  omega

set_option maxRecDepth 100000 in
set_option maxHeartbeats 2000000 in
theorem next_any (w : World) (a b c : Int) (v : Nat) (hv : v < 18446744073709551616) (hb : -9223372036854775808 ≤ b ∧ b ≤ 9223372036854775807) (hc : -1099511627776 ≤ c ∧ c ≤ 1099511627776) :
    Calls Try.prog 37 #[cev a b c, .int .u64 (v : Int)] w fun e w' => e = .returned (.int .i64 (c + ((v % 2 ^ wid b : Nat) : Int))) ∧ Below w.heap.size w w' := by
  have q1 := Ce.new w a b c
  have b1 : Below w.heap.size w (w.alloc (.cells #[.int .i64 a, .int .i64 b, .int .i64 c] 35)) := (Below.refl _ w).alloc (Nat.le_refl _) _
  obtain ⟨w1, hw1⟩ : ∃ w1, w.alloc (.cells #[.int .i64 a, .int .i64 b, .int .i64 c] 35) = w1 := ⟨_, rfl⟩
  rw [hw1] at q1 b1
  have e1 := q1.c1
  have e2 := q1.c2
  have B1 := Lib.hid b1
  have hW := wid_le b
  obtain ⟨W, hWW⟩ : ∃ W, wid b = W := ⟨_, rfl⟩
  rw [hWW] at hW
  have HW : Hid (min (max b 0) 62 = (W : Int)) := Lib.hid (by rw [← hWW]; unfold wid; omega)
  rw [hWW]
  clear b1 q1 hWW
  have HE : Hid (wrap64 (c + wrap64 (bits BinOp.and IntKind.u64 (v : Int) (IntKind.u64.wrap (IntKind.u64.wrap (2 ^ W) - 1)))) = c + ((v % 2 ^ W : Nat) : Int)) := Lib.hid (next_num hv hW hc)
  obtain ⟨M, hM⟩ : ∃ M, max b 0 = M := ⟨_, rfl⟩
  have hM2 : min M 62 = (W : Int) := by rw [← hM]; exact HW.out
  have kw : decide ((W : Int) < 0) = false := decide_eq_false (by omega)
  obtain ⟨R, hR⟩ : ∃ R, c + ((v % 2 ^ W : Nat) : Int) = R := ⟨_, rfl⟩
  rw [hR] at HE ⊢
  clear HW hR
  go_enter Try.func37, Try.ntmps37
  go_wp2
  go_quiet (fail)
  go_wp2
  go_ret
  exact ⟨congrArg (fun z => Ending.returned (Value.int .i64 z)) HE.out, below_drewN' B1.out nq⟩

set_option maxRecDepth 100000 in
set_option maxHeartbeats 2000000 in
theorem rnext_any (w : World) (a b c : Int) (v : Nat) (hv : v < 18446744073709551616) (hb : -9223372036854775808 ≤ b ∧ b ≤ 9223372036854775807) (hc : -1099511627776 ≤ c ∧ c ≤ 1099511627776) :
    Calls Try.prog 26 #[cev a b c, .int .u64 (v : Int)] w fun e w' => e = .returned (.int .i64 (c + ((v % 2 ^ wid b : Nat) : Int))) ∧ Below w.heap.size w w' := by
  have q1 := Ce.new w a b c
  have b1 : Below w.heap.size w (w.alloc (.cells #[.int .i64 a, .int .i64 b, .int .i64 c] 35)) := (Below.refl _ w).alloc (Nat.le_refl _) _
  obtain ⟨w1, hw1⟩ : ∃ w1, w.alloc (.cells #[.int .i64 a, .int .i64 b, .int .i64 c] 35) = w1 := ⟨_, rfl⟩
  rw [hw1] at q1 b1
  have e1 := q1.c1
  have e2 := q1.c2
  have B1 := Lib.hid b1
  have hW := wid_le b
  obtain ⟨W, hWW⟩ : ∃ W, wid b = W := ⟨_, rfl⟩
  rw [hWW] at hW ⊢
  have HW : Hid ((W : Int) = min (max b 0) 62) := Lib.hid (by rw [← hWW]; unfold wid; omega)
  obtain ⟨R, hR⟩ : ∃ R, c + ((v % 2 ^ W : Nat) : Int) = R := ⟨_, rfl⟩
  rw [hR]
  have HR := Lib.hid hR
  have HV := Lib.hid hv
  clear b1 q1 hWW hR hv
  go_enter Try.func26, Try.ntmps26
  go_wp2
  go_loop [1, 5, 6, 7] (fun p n o t => ∃ i V m O : Nat, i ≤ W ∧ t = .int .i64 (i : Int) ∧ p = .int .u64 (V : Int) ∧ n = .int .u64 (m : Int) ∧ o = .int .u64 (O : Int) ∧ O ≤ 4611686018427387904 ∧ m < O ∧ V < 18446744073709551616 ∧ Hid (V = v / 2 ^ i ∧ m = v % 2 ^ i ∧ O = 2 ^ i)) (fun _ _ _ t => W - (intOf t).toNat)
  case atStart => exact ⟨0, v, 0, 1, Nat.zero_le _, rfl, rfl, rfl, rfl, by omega, by omega, HV.out, Lib.hid ⟨by simp, by rw [Nat.pow_zero, Nat.mod_one], rfl⟩⟩
  case round =>
    obtain ⟨i, V, m, O, hi, rfl, rfl, rfl, rfl, hO, hm, hV, HA⟩ := hrel
    by_cases hlt : i < W
    · have hib : (i : Int) < b := by have := HW.out; omega
      have hi62 : i < 62 := by omega
      have hO2 : 2 * O ≤ 4611686018427387904 := by
        have := Nat.pow_le_pow_right (n := 2) (by decide) (show i + 1 ≤ 62 by omega)
        rw [show (2 : Nat) ^ 62 = 4611686018427387904 by decide, Nat.pow_succ, ← HA.out.2.2] at this
        omega
      have HN : Hid (V / 2 = v / 2 ^ (i + 1) ∧ m + O * (V % 2) = v % 2 ^ (i + 1) ∧ 2 * O = 2 ^ (i + 1)) := Lib.hid ⟨by rw [HA.out.1, Nat.pow_succ, Nat.div_div_eq_div_mul], by rw [Nat.mod_pow_succ, HA.out.1, HA.out.2.1, HA.out.2.2], by rw [HA.out.2.2, Nat.pow_succ, Nat.mul_comm]⟩
      by_cases hodd : V % 2 = 1
      · have hN2 : Hid (m + O = v % 2 ^ (i + 1)) := Lib.hid (by have := HN.out.2.1; rw [hodd, Nat.mul_one] at this; exact this)
        go_wp2
        exact ⟨⟨i + 1, V / 2, m + O, 2 * O, by omega, by simp, by simp, by simp, by simp, hO2, by omega, by omega, Lib.hid ⟨HN.out.1, hN2.out, HN.out.2.2⟩⟩, by simp [intOf]; omega⟩
      · have hev : V % 2 = 0 := by omega
        have hN2 : Hid (m = v % 2 ^ (i + 1)) := Lib.hid (by have := HN.out.2.1; rw [hev, Nat.mul_zero, Nat.add_zero] at this; exact this)
        clear hodd
        go_wp2
        exact ⟨⟨i + 1, V / 2, m, 2 * O, by omega, by simp, by simp, by simp, by simp, hO2, by omega, by omega, Lib.hid ⟨HN.out.1, hN2.out, HN.out.2.2⟩⟩, by simp [intOf]; omega⟩
    · have hiW : i = W := by omega
      have HF : Hid (c + (m : Int) = R) := Lib.hid (by rw [← HR.out, HA.out.2.1, hiW])
      by_cases hib : (i : Int) < b
      · have hi62 : i = 62 := by have := HW.out; omega
        subst hi62
        clear hlt hiW HW
        go_wp2
        go_ret
        exact ⟨by rw [← HF.out]; rfl, B1.out⟩
      · clear hlt hiW HW
        go_wp2
        go_ret
        exact ⟨by rw [← HF.out]; rfl, B1.out⟩

end Go.Proofs.Ytonapehlhkoplaa
