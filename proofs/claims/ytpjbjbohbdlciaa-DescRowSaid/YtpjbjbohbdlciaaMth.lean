/-
  The description of a table as mathematics: truncated binary numbers, run lengths, the bits of the norms, and what is read from some bits. No condition beyond those that each theorem states.
-/
import Derived.Test.YtpjbjbohbdlciaaQCut
import Derived.Test.YtpjbjbohbdlciaaFil
namespace Go.Proofs.Ytpjbjbohbdlciaa
open Bt (bitsOf val unp pack bitsOf_len val_bitsOf bitsOf_val val_lt)

/-- The number of n bits of B from position s on. -/
def tk (B : List Bool) (s n : Nat) : Nat := val ((B.drop s).take n)

theorem tk_lt (B : List Bool) (s n : Nat) : tk B s n < 2 ^ n := by
  have h := val_lt ((B.drop s).take n)
  refine Nat.lt_of_lt_of_le h (Nat.pow_le_pow_right (by decide) ?_)
  rw [List.length_take]; omega

theorem tk_of {B : List Bool} {s v n : Nat} {R : List Bool} (h : B.drop s = bitsOf v n ++ R) : tk B s n = v % 2 ^ n := by
  rw [tk, h, List.take_append, bitsOf_len, Nat.sub_self, List.take_zero, List.append_nil, List.take_of_length_le (by rw [bitsOf_len]; exact Nat.le_refl _), val_bitsOf]

theorem tk_bits {B : List Bool} {s n : Nat} (h : s + n ≤ B.length) : B.drop s = bitsOf (tk B s n) n ++ B.drop (s + n) := by
  have hl : ((B.drop s).take n).length = n := by rw [List.length_take, List.length_drop]; omega
  have e := bitsOf_val ((B.drop s).take n)
  rw [hl] at e
  rw [tk, e, ← List.drop_drop, List.take_append_drop]

theorem tk_prefix {B : List Bool} {N s n : Nat} (h : s + n ≤ N) : tk (B.take N) s n = tk B s n := by
  rw [tk, tk, List.drop_take, List.take_take, Nat.min_eq_left (by omega)]

/-- How many bits a short code of the numbers below m has, and how many numbers have one. -/
def wid (m : Nat) : Nat := m.log2
def sho (m : Nat) : Nat := 2 * 2 ^ wid m - m

theorem wid_lo {m : Nat} (h : 2 ≤ m) : 2 ^ wid m ≤ m := Nat.log2_self_le (by omega)
theorem wid_hi (m : Nat) : m < 2 * 2 ^ wid m := by
  have := @Nat.lt_log2_self m
  rw [Nat.pow_succ] at this
  unfold wid
  omega
theorem wid_pos {m : Nat} (h : 2 ≤ m) : 1 ≤ wid m := (Nat.le_log2 (by omega)).2 (by simpa using h)
theorem wid_le {m : Nat} (h : m ≤ 514) : wid m ≤ 9 := by
  rcases Nat.eq_zero_or_pos m with rfl | h0
  · decide
  · exact Nat.le_of_lt_succ ((Nat.log2_lt (by omega)).2 (by omega))
theorem sho_add (m : Nat) : sho m + m = 2 * 2 ^ wid m := by have := wid_hi m; unfold sho; omega
theorem sho_pos (m : Nat) : 1 ≤ sho m := by have := wid_hi m; unfold sho; omega

/-- The truncated binary code of n below m. -/
def code (n m : Nat) : List Bool := if n < sho m then bitsOf n (wid m) else bitsOf ((n + sho m) / 2) (wid m) ++ bitsOf ((n + sho m) % 2) 1

theorem code_len (n m : Nat) : (code n m).length = if n < sho m then wid m else wid m + 1 := by
  unfold code
  split
  · exact bitsOf_len _ _
  · rw [List.length_append, bitsOf_len, bitsOf_len]

/-- A number below m read at s: its value and the place behind it. -/
def rd (B : List Bool) (s m : Nat) : Option (Nat × Nat) :=
  if B.length < s + wid m then none
  else if tk B s (wid m) < sho m then some (tk B s (wid m), s + wid m)
  else if B.length < s + wid m + 1 then none
  else some (2 * tk B s (wid m) + tk B (s + wid m) 1 - sho m, s + wid m + 1)

theorem drop_app {B X R : List Bool} {s : Nat} (h : B.drop s = X ++ R) : B.drop (s + X.length) = R := by
  rw [← List.drop_drop, h, List.drop_left]
theorem drop_len {B X R : List Bool} {s : Nat} (hs : s ≤ B.length) (h : B.drop s = X ++ R) : s + X.length ≤ B.length := by
  have := congrArg List.length h
  rw [List.length_drop, List.length_append] at this
  omega

theorem rd_code {B R : List Bool} {s n m : Nat} (hm : 2 ≤ m) (hn : n < m) (hs : s ≤ B.length) (h : B.drop s = code n m ++ R) : rd B s m = some (n, s + (code n m).length) := by
  have hlen := drop_len hs h
  have h1 := sho_add m
  have h2 := wid_lo hm
  rw [code_len] at hlen ⊢
  unfold code at h
  by_cases hlt : n < sho m
  · rw [if_pos hlt] at h hlen ⊢
    have ht : tk B s (wid m) = n := by rw [tk_of h, Nat.mod_eq_of_lt (by omega)]
    rw [rd, if_neg (by omega), ht, if_pos hlt]
  · rw [if_neg hlt] at h hlen ⊢
    rw [List.append_assoc] at h
    have ht : tk B s (wid m) = (n + sho m) / 2 := by rw [tk_of h, Nat.mod_eq_of_lt (by omega)]
    have h3 := drop_app h
    rw [bitsOf_len] at h3
    have hc : tk B (s + wid m) 1 = (n + sho m) % 2 := by rw [tk_of h3]; omega
    rw [rd, if_neg (by omega), ht, if_neg (by omega), if_neg (by omega), hc]
    congr 2
    omega

theorem rd_inv {B : List Bool} {s v s' m : Nat} (hm : 2 ≤ m) (h : rd B s m = some (v, s')) : v < m ∧ B.drop s = code v m ++ B.drop s' ∧ s' = s + (code v m).length ∧ s' ≤ B.length ∧ s < s' := by
  have h1 := sho_add m
  have h2 := wid_lo hm
  have h3 := wid_pos hm
  unfold rd at h
  split at h
  · cases h
  · rename_i hl
    have ht := tk_bits (B := B) (s := s) (n := wid m) (by omega)
    have hlt := tk_lt B s (wid m)
    split at h
    · rename_i hs
      cases h
      refine ⟨by omega, ?_, ?_, by omega, by omega⟩
      · rw [code, if_pos hs]; exact ht
      · rw [code_len, if_pos hs]
    · rename_i hs
      split at h
      · cases h
      · rename_i hl2
        injection h with h
        injection h with hv hs'
        have hc := tk_bits (B := B) (s := s + wid m) (n := 1) (by omega)
        have hclt := tk_lt B (s + wid m) 1
        have e1 : (v + sho m) / 2 = tk B s (wid m) := by omega
        have e2 : (v + sho m) % 2 = tk B (s + wid m) 1 := by omega
        have hnv : ¬ v < sho m := by omega
        subst hs'
        refine ⟨by omega, ?_, ?_, by omega, by omega⟩
        · rw [code, if_neg hnv, e1, e2, List.append_assoc, ← hc]; exact ht
        · rw [code_len, if_neg hnv]; omega

theorem rd_short {B X Q : List Bool} {s n m : Nat} (hm : 2 ≤ m) (hn : n < m) (h : B.drop s ++ Q = code n m ++ X) (hl : B.length < s + (code n m).length) : rd B s m = none := by
  have h1 := sho_add m
  have h2 := wid_lo hm
  unfold rd
  split
  · rfl
  · rename_i hb
    rw [code_len] at hl
    by_cases hlt : n < sho m
    · rw [if_pos hlt] at hl; omega
    · rw [if_neg hlt] at hl
      have ht : tk B s (wid m) = (n + sho m) / 2 := by
        rw [code, if_neg hlt, List.append_assoc] at h
        have e : (B.drop s).take (wid m) = (B.drop s ++ Q).take (wid m) := by
          rw [List.take_append_of_le_length]
          rw [List.length_drop]; omega
        rw [tk, e, h, List.take_append, bitsOf_len, Nat.sub_self, List.take_zero, List.append_nil, List.take_of_length_le (by rw [bitsOf_len]; exact Nat.le_refl _), val_bitsOf, Nat.mod_eq_of_lt (by omega)]
      rw [ht, if_neg (by omega), if_pos (by omega)]

theorem rd_prefix {B : List Bool} {N s m : Nat} (h : s + wid m + 1 ≤ N) : rd (B.take N) s m = rd B s m := by
  have e1 : (B.take N).length = min N B.length := List.length_take
  have e2 := tk_prefix (B := B) (N := N) (s := s) (n := wid m) (by omega)
  have e3 := tk_prefix (B := B) (N := N) (s := s + wid m) (n := 1) (by omega)
  have c1 : ((B.take N).length < s + wid m) ↔ (B.length < s + wid m) := by rw [e1]; omega
  have c2 : ((B.take N).length < s + wid m + 1) ↔ (B.length < s + wid m + 1) := by rw [e1]; omega
  simp only [rd, e2, e3, c1, c2]

/-- The bits of a run length. -/
def runB (r : Nat) : List Bool := if 3 ≤ r then true :: true :: runB (r - 3) else bitsOf r 2
termination_by r
decreasing_by omega

theorem runB_low {r : Nat} (h : r < 3) : runB r = bitsOf r 2 := by rw [runB, if_neg (by omega)]
theorem runB_high (r : Nat) : runB (r + 3) = bitsOf 3 2 ++ runB r := by rw [runB, if_pos (by omega), Nat.add_sub_cancel]; rfl

/-- How many norms of 0 come first. -/
def zr : List Int → Nat
  | [] => 0
  | n :: l => if n = 0 then zr l + 1 else 0

theorem zr_le : ∀ l : List Int, zr l ≤ l.length
  | [] => Nat.le_refl _
  | n :: l => by
    have := zr_le l
    rw [zr, List.length_cons]
    split <;> omega
theorem zr_split : ∀ l : List Int, l = List.replicate (zr l) 0 ++ l.drop (zr l)
  | [] => rfl
  | n :: l => by
    rw [zr]
    split
    · rename_i h
      subst h
      rw [List.replicate_succ, List.drop_succ_cons, List.cons_append, ← zr_split l]
    · simp
theorem zr_head : ∀ l : List Int, (l.drop (zr l)).head? ≠ some 0
  | [] => by simp [zr]
  | n :: l => by
    rw [zr]
    split
    · rw [List.drop_succ_cons]; exact zr_head l
    · rename_i h
      simpa using h
theorem zr_app {l : List Int} (h : l.head? ≠ some 0) : ∀ r : Nat, zr (List.replicate r 0 ++ l) = r
  | 0 => by
    cases l with
    | nil => rfl
    | cons n l =>
      have : n ≠ 0 := by simpa using h
      simp [zr, this]
  | r + 1 => by rw [List.replicate_succ, List.cons_append, zr, if_pos rfl, zr_app h r]

/-- The bits of the norms where so many states are left. -/
def enc (left : Nat) : List Int → List Bool
  | [] => []
  | n :: rest => code (n + 1).toNat (left + 2) ++ (if n = 0 then runB (zr rest) ++ enc left (rest.drop (zr rest)) else enc (left - (sts n).toNat) rest)
termination_by l => l.length
decreasing_by
  · simp only [List.length_cons, List.length_drop]; omega
  · simp only [List.length_cons]; omega

theorem enc_nil (left : Nat) : enc left [] = [] := by rw [enc]
theorem enc_zero (left : Nat) (rest : List Int) : enc left (0 :: rest) = code 1 (left + 2) ++ (runB (zr rest) ++ enc left (rest.drop (zr rest))) := by rw [enc, if_pos rfl]; rfl
theorem enc_cons (left : Nat) {n : Int} (h : n ≠ 0) (rest : List Int) : enc left (n :: rest) = code (n + 1).toNat (left + 2) ++ enc (left - (sts n).toNat) rest := by rw [enc, if_neg h]

/-- Norms that take just the states that are left. -/
structure Vs (left : Nat) (l : List Int) : Prop where
  ok : okn l = true
  last : l.getLast? ≠ some 0
  sum : ssum l = (left : Int)

theorem sts_pos {n : Int} (h : -1 ≤ n) : 0 ≤ sts n ∧ n ≤ sts n ∧ (n ≠ 0 → 1 ≤ sts n) := by
  unfold sts
  split <;> omega
theorem okn_cons {n : Int} {l : List Int} (h : okn (n :: l) = true) : -1 ≤ n ∧ okn l = true := by simpa [okn] using h
theorem okn_drop {l : List Int} (h : okn l = true) (k : Nat) : okn (l.drop k) = true := by
  rw [okn, List.all_eq_true] at h ⊢
  exact fun x hx => h x (List.mem_of_mem_drop hx)
theorem last_cons {n : Int} {l : List Int} (h : (n :: l).getLast? ≠ some 0) : l.getLast? ≠ some 0 := by
  cases l with
  | nil => simp
  | cons m l => rw [List.getLast?_cons_cons] at h; exact h
theorem last_drop {l : List Int} (h : l.getLast? ≠ some 0) (k : Nat) : (l.drop k).getLast? ≠ some 0 := by
  rw [List.getLast?_drop]
  split
  · simp
  · exact h
theorem ssum_zeros : ∀ r : Nat, ssum (List.replicate r 0) = 0
  | 0 => rfl
  | r + 1 => by rw [List.replicate_succ, ssum_cons, ssum_zeros r]; rfl

section
variable {left : Nat} {l : List Int}
theorem Vs.nil (h : Vs left []) : left = 0 := by have := h.sum; simp [ssum] at this; omega
theorem Vs.pos (h : Vs left l) (hl : l ≠ []) : 0 < left := by
  have hx : l.getLast hl ≠ 0 := by
    intro e
    apply h.last
    rw [List.getLast?_eq_some_getLast hl, e]
  have e := h.sum
  have ho := h.ok
  rw [← List.dropLast_concat_getLast hl, okn_append, Bool.and_eq_true] at ho
  rw [← List.dropLast_concat_getLast hl, ssum_append] at e
  have h1 := ssum_pos ho.1
  have h2 : -1 ≤ l.getLast hl := by simpa [okn] using ho.2
  have h3 := (sts_pos h2).2.2 hx
  have h4 : ssum [l.getLast hl] = sts (l.getLast hl) := by simp [ssum]
  omega
theorem Vs.bound {n : Int} (h : Vs left (n :: l)) : -1 ≤ n ∧ sts n ≤ (left : Int) ∧ n ≤ (left : Int) ∧ 0 ≤ sts n := by
  have h1 := okn_cons h.ok
  have h2 := ssum_pos h1.2
  have h3 := h.sum
  have h4 := sts_pos h1.1
  rw [ssum_cons] at h3
  omega
theorem Vs.tail {n : Int} (h : Vs left (n :: l)) : Vs (left - (sts n).toNat) l := by
  have h1 := h.bound
  have h3 := h.sum
  rw [ssum_cons] at h3
  exact ⟨(okn_cons h.ok).2, last_cons h.last, by omega⟩
theorem Vs.skip (h : Vs left l) : Vs left (l.drop (zr l)) := by
  refine ⟨okn_drop h.ok _, last_drop h.last _, ?_⟩
  have e := h.sum
  rw [zr_split l, ssum_append, ssum_zeros] at e
  omega
theorem Vs.skip0 (h : Vs left (0 :: l)) : Vs left (l.drop (zr l)) := by
  have := h.tail
  rw [show sts 0 = 0 by rfl] at this
  exact this.skip
theorem Vs.skip0_ne (h : Vs left (0 :: l)) : l.drop (zr l) ≠ [] := by
  intro e
  have h1 := h.skip0
  rw [e] at h1
  have := h.pos (by simp)
  have := h1.nil
  omega
end

end Go.Proofs.Ytpjbjbohbdlciaa
