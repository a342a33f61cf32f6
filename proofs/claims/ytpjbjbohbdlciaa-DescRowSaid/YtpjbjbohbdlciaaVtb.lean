/-
  Valid tables, and the description of one: its bits and how many there are at most. No condition beyond those that each theorem states.
  What is read from the bits of a description, ahead of the last bits. No condition.
-/
import Derived.Test.YtpjbjbohbdlciaaChk
import Derived.Test.YtpjbjbohbdlciaaDec
namespace Go.Proofs.Ytpjbjbohbdlciaa

section
open Bt (bitsOf bitsOf_len)
/-- A valid table. -/
structure Vt (y : Nat) (l : List Int) : Prop where
  log : y ≤ 9
  pos : 1 ≤ l.length
  len : l.length ≤ 256
  last : l.getLast? ≠ some 0
  ok : okn l = true
  sum : ssum l = ((2 ^ y : Nat) : Int)

theorem Vt.size {y : Nat} {l : List Int} (h : Vt y l) : 2 ^ y ≤ 512 := pow_le h.log
theorem Vt.vs {y : Nat} {l : List Int} (h : Vt y l) : Vs (2 ^ y) l := ⟨h.ok, h.last, h.sum⟩
theorem Vt.of {y : Nat} {l : List Int} (h : Vs (2 ^ y) l) (hy : y ≤ 9) (hl : l.length ≤ 256) : Vt y l := by
  refine ⟨hy, ?_, hl, h.last, h.ok, h.sum⟩
  cases l with
  | nil => have := h.nil; have := Nat.two_pow_pos y; omega
  | cons _ _ => simp

theorem vt_iff {y : Int} {l : List Int} : vt y l 256 9 = true ↔ ∃ n : Nat, y = (n : Int) ∧ Vt n l := by
  unfold vt
  simp only [Bool.and_eq_true, decide_eq_true_iff]
  constructor
  · rintro ⟨⟨⟨⟨⟨⟨h1, h2⟩, h3⟩, h4⟩, h5⟩, h6⟩, h7⟩
    unfold fl at h7
    rw [Bool.and_eq_true, decide_eq_true_iff] at h7
    refine ⟨y.toNat, by omega, by omega, h4, by omega, h6, h7.1, ?_⟩
    rw [h7.2]
    exact (Int.natCast_pow 2 y.toNat).symm
  · rintro ⟨n, rfl, h⟩
    have h1 := h.log
    have h2 := h.len
    have h3 := h.pos
    have h4 := h.last
    refine ⟨⟨⟨⟨⟨⟨by omega, by omega⟩, by omega⟩, h3⟩, by omega⟩, h4⟩, ?_⟩
    unfold fl
    rw [h.ok, h.sum]
    simp

/-- Whether a table has a description. -/
def may (y : Int) (l : List Int) : Bool := decide (0 < y) && vt y l 256 9
theorem may_iff {y : Int} {l : List Int} : may y l = true ↔ ∃ n : Nat, y = (n : Int) ∧ 1 ≤ n ∧ Vt n l := by
  unfold may
  rw [Bool.and_eq_true, decide_eq_true_iff, vt_iff]
  constructor
  · rintro ⟨h, n, rfl, hv⟩
    exact ⟨n, rfl, by omega, hv⟩
  · rintro ⟨n, rfl, h, hv⟩
    exact ⟨by omega, n, rfl, hv⟩

theorem runB_len : ∀ (n r : Nat), r ≤ n → (runB r).length ≤ r + 2 := by
  intro n
  induction n with
  | zero => intro r h; rw [runB_low (by omega), bitsOf_len]; omega
  | succ n ih =>
    intro r h
    by_cases h3 : r < 3
    · rw [runB_low h3, bitsOf_len]; omega
    · obtain ⟨q, rfl⟩ : ∃ q, r = q + 3 := ⟨r - 3, by omega⟩
      have := ih q (by omega)
      rw [runB_high, List.length_append, bitsOf_len]
      omega

theorem code_le {n m : Nat} (h : m ≤ 514) : (code n m).length ≤ 10 := by
  have := wid_le h
  rw [code_len]
  split <;> omega

theorem enc_len : ∀ (n left : Nat) (l : List Int), l.length ≤ n → left ≤ 512 → (enc left l).length ≤ 12 * l.length := by
  intro n
  induction n with
  | zero =>
    intro left l h _
    obtain rfl : l = [] := List.eq_nil_of_length_eq_zero (by omega)
    rw [enc_nil]
    simp
  | succ n ih =>
    intro left l h hl
    cases l with
    | nil => rw [enc_nil]; simp
    | cons x rest =>
      rw [List.length_cons] at h ⊢
      by_cases h0 : x = 0
      · subst h0
        have h1 := runB_len _ (zr rest) (Nat.le_refl _)
        have h2 := code_le (n := 1) (m := left + 2) (by omega)
        have h3 := zr_le rest
        have h4 := ih left (rest.drop (zr rest)) (by rw [List.length_drop]; omega) hl
        rw [List.length_drop] at h4
        rw [enc_zero, List.length_append, List.length_append]
        omega
      · have h2 := code_le (n := (x + 1).toNat) (m := left + 2) (by omega)
        have h4 := ih (left - (sts x).toNat) rest (by omega) (by omega)
        rw [enc_cons _ h0, List.length_append]
        omega

/-- The bits of a table's description. -/
def descr (y : Nat) (l : List Int) : List Bool := bitsOf (y - 1) 4 ++ enc (2 ^ y) l
theorem descr_len {y : Nat} {l : List Int} (h : Vt y l) : (descr y l).length ≤ 3076 := by
  have h1 := enc_len _ (2 ^ y) l (Nat.le_refl _) h.size
  have h2 := h.len
  rw [descr, List.length_append, bitsOf_len]
  omega
end

section
open Bt (bitsOf bitsOf_len unp unp_len)
/-- The norms that some bits describe, and the place behind them: at most sy norms, at most the Log lg. -/
def dcp (B : List Bool) (sy lg : Int) : Rs :=
  if B.length < 4 then .bad 3 else if lg < ((tk B 0 4 + 1 : Nat) : Int) then .bad 13 else dec B sy (2 ^ (tk B 0 4 + 1)) [] 4 false

/-- The last bits, and what Decode reads: the error, the Log, the norms, the number of bytes. -/
def dfin (B : List Bool) : Rs → Nat × Nat × List Int × Nat
  | .bad e => (e, 0, [], 0)
  | .ok out s => if tk B s (8 * ((s + 7) / 8) - s) = 0 then (0, tk B 0 4 + 1, out, (s + 7) / 8) else (14, 0, [], 0)

/-- What Decode reads from some bits: at most sy norms, at most the Log lg. -/
def dcd (B : List Bool) (sy lg : Int) : Nat × Nat × List Int × Nat := dfin B (dcp B (min sy 256) (min lg 9))
end

end Go.Proofs.Ytpjbjbohbdlciaa
