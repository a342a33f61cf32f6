/-
  Bits cut out of some bytes, and their numbers: plain mathematics. No condition beyond those that each theorem states.
-/
import Derived.Test.YtpjbjbohbdlciaaQBit
namespace Go.Proofs.Ytpjbjbohbdlciaa.Bt


/-- The number of n bits of D from position i on. -/
def cut (D : List UInt8) (i n : Nat) : Nat := val (((unp D).drop i).take n)

theorem cut_zero (D : List UInt8) (i : Nat) : cut D i 0 = 0 := by simp [cut, val]

theorem cut_lt (D : List UInt8) (i n : Nat) : cut D i n < 2 ^ n := by
  have h := val_lt (((unp D).drop i).take n)
  refine Nat.lt_of_lt_of_le h (Nat.pow_le_pow_right (by decide) ?_)
  rw [List.length_take]; omega

theorem cut_add (D : List UInt8) (i m n : Nat) (h : i + m ≤ 8 * D.length) : cut D i (m + n) = cut D i m + 2 ^ m * cut D (i + m) n := by
  have hl : (((unp D).drop i).take m).length = m := by rw [List.length_take, List.length_drop, unp_len]; omega
  rw [cut, List.take_add, val_app, hl, List.drop_drop]
  rfl

theorem unp_drop : ∀ (k : Nat) (D : List UInt8), (unp D).drop (8 * k) = unp (D.drop k)
  | 0, D => by simp
  | k + 1, [] => by simp [unp]
  | k + 1, b :: D => by
    rw [unp, List.drop_succ_cons, ← unp_drop k D, List.drop_append, bitsOf_len, List.drop_of_length_le (by rw [bitsOf_len]; omega), List.nil_append]
    congr 1

theorem bitsOf_cut (x s m c : Nat) (h : s + m ≤ c) : ((bitsOf x c).drop s).take m = bitsOf (x / 2 ^ s) m := by
  obtain ⟨r, rfl⟩ : ∃ r, c = s + (m + r) := ⟨c - s - m, by omega⟩
  rw [bitsOf_add, List.drop_append, bitsOf_len, Nat.sub_self, List.drop_of_length_le (by rw [bitsOf_len]; exact Nat.le_refl _), List.nil_append, List.drop_zero, bitsOf_add, List.take_append, bitsOf_len, Nat.sub_self, List.take_zero, List.append_nil, List.take_of_length_le (by rw [bitsOf_len]; exact Nat.le_refl _)]

/-- Bits within one byte. -/
theorem cut_byte {D : List UInt8} {k s m : Nat} {b : UInt8} (hb : D[k]? = some b) (h : s + m ≤ 8) : cut D (8 * k + s) m = b.toNat / 2 ^ s % 2 ^ m := by
  obtain ⟨hk, e⟩ := List.getElem?_eq_some_iff.1 hb
  have h1 : (unp D).drop (8 * k + s) = (bitsOf b.toNat 8 ++ unp (D.drop (k + 1))).drop s := by
    rw [← List.drop_drop, unp_drop, List.drop_eq_getElem_cons hk, e, unp]
  rw [cut, h1, List.drop_append, List.take_append, bitsOf_cut _ _ _ _ h, bitsOf_len]
  have h2 : m - (List.drop s (bitsOf b.toNat 8)).length = 0 := by rw [List.length_drop, bitsOf_len]; omega
  rw [h2, List.take_zero, List.append_nil, val_bitsOf]

theorem cut_val {D : List UInt8} {l : List Bool} {i n : Nat} (h : ((unp D).drop i).take n = l) : cut D i n = val l := by rw [cut, h]

theorem cut_of_take {D : List UInt8} (i n : Nat) (h : i + n ≤ 8 * D.length) : bitsOf (cut D i n) n = ((unp D).drop i).take n := by
  have hl : (((unp D).drop i).take n).length = n := by rw [List.length_take, List.length_drop, unp_len]; omega
  have := bitsOf_val (((unp D).drop i).take n)
  rw [hl] at this
  exact this

end Go.Proofs.Ytpjbjbohbdlciaa.Bt
