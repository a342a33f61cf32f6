/-
  Encoding and decoding of varints fit together: an encoding is read as its number, whatever bytes follow; what is read is the encoding of its value; a padded encoding is rejected. Plain mathematics: nothing of the program is named. Condition: the number is at most MaxNumber.
-/
import Derived.Test.YtnbohkiimbooaaaVi2
namespace Go.Proofs.Ytnbohkiimbooaaa

/-- The number that groups make. -/
def lv : List UInt8 → Nat
  | [] => 0
  | b :: s => b.toNat % 128 + 128 * lv s

theorem lv_snoc (p : List UInt8) (b : UInt8) : lv (p ++ [b]) = lv p + b.toNat % 128 * 128 ^ p.length := by
  induction p with
  | nil => simp [lv]
  | cons a p ih =>
    simp only [List.cons_append, lv, ih, List.length_cons, Nat.pow_succ, Nat.mul_add]
    have : 128 * (b.toNat % 128 * 128 ^ p.length) = b.toNat % 128 * (128 ^ p.length * 128) := by
      rw [Nat.mul_comm 128, Nat.mul_assoc]
    omega

/-- All bytes have their high bit set. -/
def Hi (p : List UInt8) : Prop := ∀ x, x ∈ p → 128 ≤ x.toNat

theorem gvF_hi (p : List UInt8) : ∀ (f i acc : Nat) (s : List UInt8), Hi p → gvF (f + p.length) i acc (p ++ s) = gvF f (i + p.length) (acc + lv p * 128 ^ i) s := by
  induction p with
  | nil => intro f i acc s _; simp [lv]
  | cons a p ih =>
    intro f i acc s h
    have ha := h a (by simp)
    rw [List.length_cons, show f + (p.length + 1) = (f + p.length) + 1 by omega, List.cons_append, gvF_on ha, ih f (i + 1) _ s (fun x hx => h x (by simp [hx]))]
    congr 1
    · omega
    · simp only [lv, Nat.pow_succ, Nat.add_mul]
      have : 128 * lv p * 128 ^ i = lv p * (128 ^ i * 128) := by
        rw [Nat.mul_comm 128 (lv p), Nat.mul_assoc, Nat.mul_comm 128]
      omega

/-- A varint's bytes, read. -/
theorem gv_shape (p : List UInt8) (b : UInt8) (t : List UInt8) (hp : Hi p) (hl : p.length ≤ 8) (hb : b.toNat < 128) : gv (p ++ b :: t) = gvEnd p.length (lv (p ++ [b])) b := by
  have h := gvF_hi p (9 - p.length) 0 0 (b :: t) hp
  rw [show 9 - p.length + p.length = 9 by omega] at h
  rw [gv, h, show 9 - p.length = (8 - p.length) + 1 by omega, gvF_last hb, lv_snoc]
  simp

theorem viF_shape (f : Nat) : ∀ n, n < 128 ^ (f + 1) → ∃ p b, viF (f + 1) n = p ++ [b] ∧ Hi p ∧ b.toNat < 128 ∧ lv (p ++ [b]) = n ∧ (p ≠ [] → b.toNat ≠ 0) ∧ p.length ≤ f := by
  induction f with
  | zero =>
    intro n hn
    have hn' : n < 128 := by simpa using hn
    refine ⟨[], UInt8.ofNat n, by rw [viF_small hn']; rfl, fun x hx => by simp at hx, by rw [byte_low hn']; exact hn', ?_, fun h => absurd rfl h, Nat.le_refl _⟩
    simp only [List.nil_append, lv, byte_low hn']
    omega
  | succ f ih =>
    intro n hn
    by_cases hn' : n < 128
    · refine ⟨[], UInt8.ofNat n, by rw [viF_small hn']; rfl, fun x hx => by simp at hx, by rw [byte_low hn']; exact hn', ?_, fun h => absurd rfl h, Nat.zero_le _⟩
      simp only [List.nil_append, lv, byte_low hn']
      omega
    · obtain ⟨p, b, h1, h2, h3, h4, h5, h6⟩ := ih (n / 128) (Nat.div_lt_of_lt_mul (by rw [Nat.pow_succ] at hn; omega))
      refine ⟨UInt8.ofNat (n % 128 + 128) :: p, b, ?_, ?_, h3, ?_, ?_, by simp; omega⟩
      · rw [viF_big (by omega), h1]; rfl
      · intro x hx
        rcases List.mem_cons.1 hx with rfl | hx
        · rw [byte_high]; omega
        · exact h2 x hx
      · simp only [List.cons_append, lv, h4, byte_high]; omega
      · intro _ hb
        cases p with
        | nil =>
          simp only [List.nil_append, lv, hb] at h4
          omega
        | cons x p => exact h5 (by simp) hb

theorem lv_pos (p : List UInt8) (b : UInt8) (hb : b.toNat < 128) (h0 : b.toNat ≠ 0) : 0 < lv (p ++ [b]) := by
  rw [lv_snoc]
  have h1 : 0 < b.toNat % 128 := by omega
  have := Nat.mul_pos h1 (Nat.pow_pos (n := p.length) (show 0 < 128 by omega))
  omega

theorem viF_lv (p : List UInt8) : ∀ (b : UInt8), Hi p → b.toNat < 128 → (p ≠ [] → b.toNat ≠ 0) → viF (p.length + 1) (lv (p ++ [b])) = p ++ [b] := by
  induction p with
  | nil =>
    intro b _ hb _
    have e : lv ([] ++ [b]) = b.toNat := by simp only [List.nil_append, lv]; omega
    rw [e, List.length_nil, viF_small hb]
    simp
  | cons a p ih =>
    intro b hp hb h0
    have hbn := h0 (by simp)
    have hpos := lv_pos p b hb hbn
    have ha := hp a (by simp)
    have hal := a.toNat_lt
    have e : lv (a :: p ++ [b]) = a.toNat % 128 + 128 * lv (p ++ [b]) := rfl
    rw [e, List.length_cons, viF_big (by omega)]
    have e1 : (a.toNat % 128 + 128 * lv (p ++ [b])) / 128 = lv (p ++ [b]) := by omega
    have e2 : (a.toNat % 128 + 128 * lv (p ++ [b])) % 128 + 128 = a.toNat := by omega
    rw [e1, e2, ih b (fun x hx => hp x (by simp [hx])) hb (fun _ => hbn)]
    simp

theorem lv_lt (p : List UInt8) : lv p < 128 ^ p.length := by
  induction p with
  | nil => simp [lv]
  | cons a p ih => simp only [lv, List.length_cons, Nat.pow_succ]; omega

theorem vi_lv (p : List UInt8) (b : UInt8) (hp : Hi p) (hl : p.length ≤ 8) (hb : b.toNat < 128) (h0 : p ≠ [] → b.toNat ≠ 0) : vi (lv (p ++ [b])) = p ++ [b] := by
  have h := lv_lt (p ++ [b])
  rw [List.length_append, List.length_cons, List.length_nil] at h
  rw [vi_eq p.length _ h (by omega), viF_lv p b hp hb h0]

/-- An encoding is read as its number. -/
theorem gv_vi (n : Nat) (hn : n ≤ 4611686018427387903) (t : List UInt8) : gv (vi n ++ t) = ⟨n, 0, (vi n).length⟩ := by
  have h9 : n < 128 ^ (8 + 1) := by simp only [Nat.reduceAdd, Nat.reducePow]; omega
  obtain ⟨p, b, h1, h2, h3, h4, h5, h6⟩ := viF_shape 8 n h9
  rw [vi_eq 8 n h9 (by omega), h1, List.append_assoc, List.singleton_append, gv_shape p b t h2 h6 h3, h4, gvEnd, if_neg, if_neg (by omega)]
  · simp
  · rintro ⟨h7, h8⟩
    exact h5 (by intro h; rw [h] at h7; simp at h7) h8

theorem gvF_ok (f : Nat) : ∀ (i acc : Nat) (s : List UInt8), (gvF f i acc s).err = 0 → ∃ p b t, s = p ++ b :: t ∧ Hi p ∧ b.toNat < 128 ∧ p.length < f := by
  induction f with
  | zero => intro i acc s h; simp [gvF] at h
  | succ f ih =>
    intro i acc s h
    cases s with
    | nil => simp [gvF] at h
    | cons a s =>
      by_cases ha : a.toNat < 128
      · exact ⟨[], a, s, rfl, fun x hx => by simp at hx, ha, by simp⟩
      · rw [gvF_on (by omega)] at h
        obtain ⟨p, b, t, rfl, h2, h3, h4⟩ := ih _ _ _ h
        refine ⟨a :: p, b, t, rfl, ?_, h3, by simp; omega⟩
        intro x hx
        rcases List.mem_cons.1 hx with rfl | hx
        · omega
        · exact h2 x hx

/-- What is read is the encoding of its value. -/
theorem vi_gv (s : List UInt8) (h : (gv s).err = 0) : (gv s).val ≤ 4611686018427387903 ∧ (gv s).len = (vi (gv s).val).length ∧ vi (gv s).val = s.take (gv s).len ∧ (gv s).len ≤ s.length := by
  obtain ⟨p, b, t, rfl, h2, h3, h4⟩ := gvF_ok 9 0 0 s h
  have hg := gv_shape p b t h2 (by omega) h3
  rw [hg] at h ⊢
  obtain ⟨e1, e2, e3, e4⟩ := gvEnd_ok h
  have hv : vi (lv (p ++ [b])) = p ++ [b] := vi_lv p b h2 (by omega) h3 (fun hp hb => e4 ⟨by cases p with | nil => exact absurd rfl hp | cons _ _ => simp, hb⟩)
  rw [e1, e2, hv]
  refine ⟨e3, by simp, ?_, by simp⟩
  rw [show p ++ b :: t = (p ++ [b]) ++ t by simp, List.take_left' (by simp)]

/-- A longer encoding of the same number is rejected. -/
theorem gv_padded (n : Nat) (hn : n ≤ 4611686018427387903) (h9 : (vi n).length < 9) (p : List UInt8) (b : UInt8) (hv : vi n = p ++ [b]) (c : UInt8) (hc : 128 ≤ c.toNat) : (gv (p ++ [c] ++ [0])).err = 5 := by
  have h9' : n < 128 ^ (8 + 1) := by simp only [Nat.reduceAdd, Nat.reducePow]; omega
  obtain ⟨p', b', h1, h2, _⟩ := viF_shape 8 n h9'
  rw [vi_eq 8 n h9' (by omega), h1] at hv
  obtain ⟨rfl, _⟩ := List.append_inj' hv rfl
  have hl : (p' ++ [c]).length ≤ 8 := by
    rw [vi_eq 8 n h9' (by omega), h1] at h9
    simp at h9 ⊢; omega
  have hp : Hi (p' ++ [c]) := by
    intro x hx
    rcases List.mem_append.1 hx with hx | hx
    · exact h2 x hx
    · rw [List.mem_singleton] at hx; rw [hx]; exact hc
  have h0 : (0 : UInt8).toNat = 0 := rfl
  rw [gv_shape (p' ++ [c]) 0 [] hp hl (by rw [h0]; omega), gvEnd, if_pos ⟨by simp, h0⟩]

end Go.Proofs.Ytnbohkiimbooaaa
