/-
  The encoding of a varint as a function on numbers, and the facts about it that the walks and the laws use. Plain mathematics: nothing of the program is named. No condition beyond those that each theorem states.
-/
namespace Go.Proofs.Ytnbohkiimbooaaa

/-- The groups of n, at most f of them. -/
def viF : Nat → Nat → List UInt8
  | 0, _ => []
  | f + 1, n => if n < 128 then [UInt8.ofNat n] else UInt8.ofNat (n % 128 + 128) :: viF f (n / 128)

/-- The varint of n, for n below 2^70. -/
def vi (n : Nat) : List UInt8 := viF 10 n

theorem viF_small {f n : Nat} (h : n < 128) : viF (f + 1) n = [UInt8.ofNat n] := by rw [viF, if_pos h]
theorem viF_big {f n : Nat} (h : 128 ≤ n) : viF (f + 1) n = UInt8.ofNat (n % 128 + 128) :: viF f (n / 128) := by rw [viF, if_neg (by omega)]

theorem viF_len (f : Nat) : ∀ n, (viF f n).length ≤ f := by
  induction f with
  | zero => intro n; simp [viF]
  | succ f ih =>
    intro n
    by_cases h : n < 128
    · rw [viF_small h]; simp
    · rw [viF_big (by omega)]; simp only [List.length_cons]; have := ih (n / 128); omega

theorem viF_pos (f n : Nat) : 0 < (viF (f + 1) n).length := by
  by_cases h : n < 128
  · rw [viF_small h]; simp
  · rw [viF_big (by omega)]; simp

/-- More groups than needed make no difference. -/
theorem viF_more (f : Nat) : ∀ n g, n < 128 ^ (f + 1) → viF (f + 1 + g) n = viF (f + 1) n := by
  induction f with
  | zero => intro n g h; rw [show 0 + 1 + g = g + 1 by omega, viF_small (by simpa using h), viF_small (by simpa using h)]
  | succ f ih =>
    intro n g h
    rw [show f + 1 + 1 + g = (f + 1 + g) + 1 by omega]
    by_cases h1 : n < 128
    · rw [viF_small h1, viF_small h1]
    · rw [viF_big (by omega), viF_big (by omega), ih (n / 128) g (by rw [Nat.pow_succ] at h; exact Nat.div_lt_of_lt_mul (by omega))]

theorem vi_eq (f : Nat) (n : Nat) (h : n < 128 ^ (f + 1)) (hf : f ≤ 9) : vi n = viF (f + 1) n := by
  have := viF_more f n (9 - f) h
  rw [show f + 1 + (9 - f) = 10 by omega] at this
  exact this

theorem byte_low {n : Nat} (h : n < 128) : (UInt8.ofNat n).toNat = n := by
  rw [UInt8.toNat_ofNat']; exact Nat.mod_eq_of_lt (by omega)
theorem byte_high (n : Nat) : (UInt8.ofNat (n % 128 + 128)).toNat = n % 128 + 128 := by
  rw [UInt8.toNat_ofNat']; exact Nat.mod_eq_of_lt (by omega)

end Go.Proofs.Ytnbohkiimbooaaa
