/-
  The decoding of a varint as a function on lists of bytes, and the facts about it that the walks and the laws use. Plain mathematics: nothing of the program is named. No condition beyond those that each theorem states.
-/
import Derived.Test.YtnbohkiimbooaaaVi
namespace Go.Proofs.Ytnbohkiimbooaaa

/-- What reading a varint gives: the value, the error's number, how many bytes were read. -/
structure VRes where
  val : Nat
  err : Nat
  len : Nat

/-- The answer at the last byte b of a varint, i bytes having come before it, with the value v. -/
def gvEnd (i v : Nat) (b : UInt8) : VRes :=
  if 0 < i ∧ b.toNat = 0 then ⟨0, 5, i + 1⟩ else if 4611686018427387903 < v then ⟨0, 18, i + 1⟩ else ⟨v, 0, i + 1⟩

/-- Reading on, f bytes at most, i bytes having come with the value acc. -/
def gvF : Nat → Nat → Nat → List UInt8 → VRes
  | 0, i, _, _ => ⟨0, 18, i⟩
  | _ + 1, i, _, [] => ⟨0, 3, i⟩
  | f + 1, i, acc, b :: s => if b.toNat < 128 then gvEnd i (acc + b.toNat % 128 * 128 ^ i) b else gvF f (i + 1) (acc + b.toNat % 128 * 128 ^ i) s

/-- Reading a varint at the head of s. -/
def gv (s : List UInt8) : VRes := gvF 9 0 0 s

theorem gvF_none {f i acc : Nat} : gvF (f + 1) i acc [] = ⟨0, 3, i⟩ := rfl
theorem gvF_last {f i acc : Nat} {b : UInt8} {s : List UInt8} (h : b.toNat < 128) : gvF (f + 1) i acc (b :: s) = gvEnd i (acc + b.toNat % 128 * 128 ^ i) b := by rw [gvF, if_pos h]
theorem gvF_on {f i acc : Nat} {b : UInt8} {s : List UInt8} (h : 128 ≤ b.toNat) : gvF (f + 1) i acc (b :: s) = gvF f (i + 1) (acc + b.toNat % 128 * 128 ^ i) s := by rw [gvF, if_neg (by omega)]

theorem gvEnd_ok {i v : Nat} {b : UInt8} (h : (gvEnd i v b).err = 0) : (gvEnd i v b).len = i + 1 ∧ (gvEnd i v b).val = v ∧ v ≤ 4611686018427387903 ∧ ¬ (0 < i ∧ b.toNat = 0) := by
  unfold gvEnd at h ⊢
  split at h
  · simp at h
  · split at h
    · simp at h
    · rename_i h1 h2
      rw [if_neg h1, if_neg h2]
      exact ⟨rfl, rfl, by omega, h1⟩

theorem gvEnd_len (i v : Nat) (b : UInt8) : (gvEnd i v b).len = i + 1 := by
  unfold gvEnd
  split
  · rfl
  · split <;> rfl

theorem gvF_len (f : Nat) : ∀ (i acc : Nat) (s : List UInt8), (gvF f i acc s).len ≤ i + s.length := by
  induction f with
  | zero => intro i acc s; simp [gvF]
  | succ f ih =>
    intro i acc s
    cases s with
    | nil => simp [gvF]
    | cons b s =>
      by_cases h : b.toNat < 128
      · rw [gvF_last h, gvEnd_len]; simp
      · rw [gvF_on (by omega)]
        have := ih (i + 1) (acc + b.toNat % 128 * 128 ^ i) s
        simp only [List.length_cons]; omega

theorem step_lt {i acc y : Nat} (h : acc < 128 ^ i) (hy : y < 128) : acc + y * 128 ^ i < 128 ^ (i + 1) := by
  rw [Nat.pow_succ]
  have : y * 128 ^ i ≤ 127 * 128 ^ i := Nat.mul_le_mul_right _ (by omega)
  omega

theorem gvEnd_val_le (i v : Nat) (b : UInt8) : (gvEnd i v b).val ≤ 4611686018427387903 := by
  unfold gvEnd
  split
  · exact Nat.zero_le _
  · split
    · exact Nat.zero_le _
    · rename_i h; exact Nat.le_of_not_lt h

theorem gvF_val_le (f : Nat) : ∀ (i acc : Nat) (s : List UInt8), (gvF f i acc s).val ≤ 4611686018427387903 := by
  induction f with
  | zero => intro i acc s; exact Nat.zero_le _
  | succ f ih =>
    intro i acc s
    cases s with
    | nil => exact Nat.zero_le _
    | cons b s =>
      by_cases h : b.toNat < 128
      · rw [gvF_last h]; exact gvEnd_val_le _ _ _
      · rw [gvF_on (by omega)]; exact ih _ _ _

theorem gv_val_le (s : List UInt8) : (gv s).val ≤ 4611686018427387903 := gvF_val_le 9 0 0 s

theorem gv_len_le (s : List UInt8) : (gv s).len ≤ s.length := by
  have := gvF_len 9 0 0 s
  rw [Nat.zero_add] at this
  exact this

end Go.Proofs.Ytnbohkiimbooaaa
