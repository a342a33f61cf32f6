/-
  More about the encoding of a varint: no encoding is the beginning of another one, and a greater number has no shorter encoding. Plain mathematics: nothing of the program is named. Condition: the numbers are below 2^70.
-/
import Derived.Test.YtnbohkiimbooaaaGv
namespace Go.Proofs.Ytnbohkiimbooaaa

theorem viF_free (f : Nat) : ∀ (g a b : Nat), a < 128 ^ (f + 1) → b < 128 ^ (g + 1) → viF (f + 1) a <+: viF (g + 1) b → a = b := by
  induction f with
  | zero =>
    intro g a b ha hb h
    have ha' : a < 128 := by simpa using ha
    rw [viF_small ha'] at h
    by_cases hb' : b < 128
    · rw [viF_small hb'] at h
      have := List.IsPrefix.eq_of_length h (by simp)
      have h2 : UInt8.ofNat a = UInt8.ofNat b := by simpa using this
      have h3 := congrArg UInt8.toNat h2
      rw [byte_low ha', byte_low hb'] at h3
      exact h3
    · rw [viF_big (by omega)] at h
      obtain ⟨t, ht⟩ := h
      have h2 : UInt8.ofNat a = UInt8.ofNat (b % 128 + 128) := by
          rw [List.cons_append] at ht
          injection ht
      have h3 := congrArg UInt8.toNat h2
      rw [byte_low ha', byte_high] at h3
      omega
  | succ f ih =>
    intro g a b ha hb h
    by_cases ha' : a < 128
    · rw [viF_small ha'] at h
      by_cases hb' : b < 128
      · rw [viF_small hb'] at h
        have := List.IsPrefix.eq_of_length h (by simp)
        have h2 : UInt8.ofNat a = UInt8.ofNat b := by simpa using this
        have h3 := congrArg UInt8.toNat h2
        rw [byte_low ha', byte_low hb'] at h3
        exact h3
      · rw [viF_big (by omega)] at h
        obtain ⟨t, ht⟩ := h
        have h2 : UInt8.ofNat a = UInt8.ofNat (b % 128 + 128) := by
          rw [List.cons_append] at ht
          injection ht
        have h3 := congrArg UInt8.toNat h2
        rw [byte_low ha', byte_high] at h3
        omega
    · rw [viF_big (n := a) (by omega)] at h
      by_cases hb' : b < 128
      · rw [viF_small hb'] at h
        obtain ⟨t, ht⟩ := h
        have h2 : UInt8.ofNat (a % 128 + 128) = UInt8.ofNat b := by
          rw [List.cons_append] at ht
          injection ht
        have h3 := congrArg UInt8.toNat h2
        rw [byte_low hb', byte_high] at h3
        omega
      · rw [viF_big (n := b) (by omega)] at h
        obtain ⟨t, ht⟩ := h
        rw [List.cons_append] at ht
        injection ht with h2 h4
        have h3 := congrArg UInt8.toNat h2
        rw [byte_high, byte_high] at h3
        cases g with
        | zero => exfalso; simp at hb; omega
        | succ g =>
          have := ih g (a / 128) (b / 128) (Nat.div_lt_of_lt_mul (by rw [Nat.pow_succ] at ha; omega)) (Nat.div_lt_of_lt_mul (by rw [Nat.pow_succ] at hb; omega)) ⟨t, h4⟩
          omega

theorem viF_mono (f : Nat) : ∀ (a b : Nat), a ≤ b → (viF f a).length ≤ (viF f b).length := by
  induction f with
  | zero => intro a b _; simp [viF]
  | succ f ih =>
    intro a b h
    by_cases ha : a < 128
    · rw [viF_small ha]
      have := viF_pos f b
      simp only [List.length_cons, List.length_nil]; omega
    · rw [viF_big (by omega), viF_big (by omega)]
      have := ih (a / 128) (b / 128) (by omega)
      simp only [List.length_cons]; omega

theorem vi_free {a b : Nat} (ha : a ≤ 4611686018427387903) (hb : b ≤ 4611686018427387903) (h : vi a <+: vi b) : a = b :=
  viF_free 9 9 a b (by simp only [Nat.reduceAdd, Nat.reducePow]; omega) (by simp only [Nat.reduceAdd, Nat.reducePow]; omega) h

theorem vi_inj {a b : Nat} (ha : a ≤ 4611686018427387903) (hb : b ≤ 4611686018427387903) (h : vi a = vi b) : a = b := vi_free ha hb (by rw [h]; exact List.prefix_refl _)

theorem vi_mono {a b : Nat} (h : a ≤ b) : (vi a).length ≤ (vi b).length := viF_mono 10 a b h

theorem vi_pos (a : Nat) : 0 < (vi a).length := viF_pos 9 a

end Go.Proofs.Ytnbohkiimbooaaa
