/-
  The description of a table as mathematics: truncated binary numbers, run lengths, the bits of the norms, and what is read from some bits. No condition beyond those that each theorem states.
  What is read from the bits of norms: the loop of the decoder as a function, and that it inverts the encoding. No condition beyond those that each theorem states.
  Valid tables, and the description of one: its bits and how many there are at most. No condition beyond those that each theorem states.
  What is read from the bits of a description, ahead of the last bits. No condition.
-/
import Derived.Test.YtnlhokfhkohdpaaGreatQa
import Derived.Test.YtnlhokfhkohdpaaGreatSb
namespace Go.Proofs.YtnlhokfhkohdpaaGreat.De
open Bt (bitsOf val unp pack bitsOf_len val_bitsOf bitsOf_val val_lt)

/-- The number of n bits of B from position s on. -/
def tk (B : List Bool) (s n : Nat) : Nat := val ((B.drop s).take n)

theorem tk_lt (B : List Bool) (s n : Nat) : tk B s n < 2 ^ n := by
  have h := val_lt ((B.drop s).take n)
  refine Nat.lt_of_lt_of_le h (Nat.pow_le_pow_right (by decide) ?_)
  rw [List.length_take]; omega

theorem tk_of {B : List Bool} {s v n : Nat} {R : List Bool} (h : B.drop s = bitsOf v n ++ R) : tk B s n = v % 2 ^ n := by
  rw [tk, h, List.take_append, bitsOf_len, Nat.sub_self, List.take_zero, List.append_nil, List.take_of_length_le (by rw [bitsOf_len]; exact Nat.le_refl _), val_bitsOf]

theorem tk_bits {B : List Bool} {s n : Nat} (h : s + n ≤ B.length) : B.drop s = bitsOf (tk B s n) n ++ B.drop (s + n) := by
  have hl : ((B.drop s).take n).length = n := by rw [List.length_take, List.length_drop]; omega
  have e := bitsOf_val ((B.drop s).take n)
  rw [hl] at e
  rw [tk, e, ← List.drop_drop, List.take_append_drop]

theorem tk_prefix {B : List Bool} {N s n : Nat} (h : s + n ≤ N) : tk (B.take N) s n = tk B s n := by
  rw [tk, tk, List.drop_take, List.take_take, Nat.min_eq_left (by omega)]

/-- How many bits a short code of the numbers below m has, and how many numbers have one. -/
def wid (m : Nat) : Nat := m.log2
def sho (m : Nat) : Nat := 2 * 2 ^ wid m - m

theorem wid_lo {m : Nat} (h : 2 ≤ m) : 2 ^ wid m ≤ m := Nat.log2_self_le (by omega)
theorem wid_hi (m : Nat) : m < 2 * 2 ^ wid m := by
  have := @Nat.lt_log2_self m
  rw [Nat.pow_succ] at this
  unfold wid
  omega
theorem wid_pos {m : Nat} (h : 2 ≤ m) : 1 ≤ wid m := (Nat.le_log2 (by omega)).2 (by simpa using h)
theorem wid_le {m : Nat} (h : m ≤ 514) : wid m ≤ 9 := by
  rcases Nat.eq_zero_or_pos m with rfl | h0
  · decide
  · exact Nat.le_of_lt_succ ((Nat.log2_lt (by omega)).2 (by omega))
theorem sho_add (m : Nat) : sho m + m = 2 * 2 ^ wid m := by have := wid_hi m; unfold sho; omega
theorem sho_pos (m : Nat) : 1 ≤ sho m := by have := wid_hi m; unfold sho; omega

/-- The truncated binary code of n below m. -/
def code (n m : Nat) : List Bool := if n < sho m then bitsOf n (wid m) else bitsOf ((n + sho m) / 2) (wid m) ++ bitsOf ((n + sho m) % 2) 1

theorem code_len (n m : Nat) : (code n m).length = if n < sho m then wid m else wid m + 1 := by
  unfold code
  split
  · exact bitsOf_len _ _
  · rw [List.length_append, bitsOf_len, bitsOf_len]

/-- A number below m read at s: its value and the place behind it. -/
def rd (B : List Bool) (s m : Nat) : Option (Nat × Nat) :=
  if B.length < s + wid m then none
  else if tk B s (wid m) < sho m then some (tk B s (wid m), s + wid m)
  else if B.length < s + wid m + 1 then none
  else some (2 * tk B s (wid m) + tk B (s + wid m) 1 - sho m, s + wid m + 1)

theorem drop_app {B X R : List Bool} {s : Nat} (h : B.drop s = X ++ R) : B.drop (s + X.length) = R := by
  rw [← List.drop_drop, h, List.drop_left]
theorem drop_len {B X R : List Bool} {s : Nat} (hs : s ≤ B.length) (h : B.drop s = X ++ R) : s + X.length ≤ B.length := by
  have := congrArg List.length h
  rw [List.length_drop, List.length_append] at this
  omega

theorem rd_code {B R : List Bool} {s n m : Nat} (hm : 2 ≤ m) (hn : n < m) (hs : s ≤ B.length) (h : B.drop s = code n m ++ R) : rd B s m = some (n, s + (code n m).length) := by
  have hlen := drop_len hs h
  have h1 := sho_add m
  have h2 := wid_lo hm
  rw [code_len] at hlen ⊢
  unfold code at h
  by_cases hlt : n < sho m
  · rw [if_pos hlt] at h hlen ⊢
    have ht : tk B s (wid m) = n := by rw [tk_of h, Nat.mod_eq_of_lt (by omega)]
    rw [rd, if_neg (by omega), ht, if_pos hlt]
  · rw [if_neg hlt] at h hlen ⊢
    rw [List.append_assoc] at h
    have ht : tk B s (wid m) = (n + sho m) / 2 := by rw [tk_of h, Nat.mod_eq_of_lt (by omega)]
    have h3 := drop_app h
    rw [bitsOf_len] at h3
    have hc : tk B (s + wid m) 1 = (n + sho m) % 2 := by rw [tk_of h3]; omega
    rw [rd, if_neg (by omega), ht, if_neg (by omega), if_neg (by omega), hc]
    congr 2
    omega

theorem rd_inv {B : List Bool} {s v s' m : Nat} (hm : 2 ≤ m) (h : rd B s m = some (v, s')) : v < m ∧ B.drop s = code v m ++ B.drop s' ∧ s' = s + (code v m).length ∧ s' ≤ B.length ∧ s < s' := by
  have h1 := sho_add m
  have h2 := wid_lo hm
  have h3 := wid_pos hm
  unfold rd at h
  split at h
  · cases h
  · rename_i hl
    have ht := tk_bits (B := B) (s := s) (n := wid m) (by omega)
    have hlt := tk_lt B s (wid m)
    split at h
    · rename_i hs
      cases h
      refine ⟨by omega, ?_, ?_, by omega, by omega⟩
      · rw [code, if_pos hs]; exact ht
      · rw [code_len, if_pos hs]
    · rename_i hs
      split at h
      · cases h
      · rename_i hl2
        injection h with h
        injection h with hv hs'
        have hc := tk_bits (B := B) (s := s + wid m) (n := 1) (by omega)
        have hclt := tk_lt B (s + wid m) 1
        have e1 : (v + sho m) / 2 = tk B s (wid m) := by omega
        have e2 : (v + sho m) % 2 = tk B (s + wid m) 1 := by omega
        have hnv : ¬ v < sho m := by omega
        subst hs'
        refine ⟨by omega, ?_, ?_, by omega, by omega⟩
        · rw [code, if_neg hnv, e1, e2, List.append_assoc, ← hc]; exact ht
        · rw [code_len, if_neg hnv]; omega

theorem rd_short {B X Q : List Bool} {s n m : Nat} (hm : 2 ≤ m) (hn : n < m) (h : B.drop s ++ Q = code n m ++ X) (hl : B.length < s + (code n m).length) : rd B s m = none := by
  have h1 := sho_add m
  have h2 := wid_lo hm
  unfold rd
  split
  · rfl
  · rename_i hb
    rw [code_len] at hl
    by_cases hlt : n < sho m
    · rw [if_pos hlt] at hl; omega
    · rw [if_neg hlt] at hl
      have ht : tk B s (wid m) = (n + sho m) / 2 := by
        rw [code, if_neg hlt, List.append_assoc] at h
        have e : (B.drop s).take (wid m) = (B.drop s ++ Q).take (wid m) := by
          rw [List.take_append_of_le_length]
          rw [List.length_drop]; omega
        rw [tk, e, h, List.take_append, bitsOf_len, Nat.sub_self, List.take_zero, List.append_nil, List.take_of_length_le (by rw [bitsOf_len]; exact Nat.le_refl _), val_bitsOf, Nat.mod_eq_of_lt (by omega)]
      rw [ht, if_neg (by omega), if_pos (by omega)]

theorem rd_prefix {B : List Bool} {N s m : Nat} (h : s + wid m + 1 ≤ N) : rd (B.take N) s m = rd B s m := by
  have e1 : (B.take N).length = min N B.length := List.length_take
  have e2 := tk_prefix (B := B) (N := N) (s := s) (n := wid m) (by omega)
  have e3 := tk_prefix (B := B) (N := N) (s := s + wid m) (n := 1) (by omega)
  have c1 : ((B.take N).length < s + wid m) ↔ (B.length < s + wid m) := by rw [e1]; omega
  have c2 : ((B.take N).length < s + wid m + 1) ↔ (B.length < s + wid m + 1) := by rw [e1]; omega
  simp only [rd, e2, e3, c1, c2]

/-- The bits of a run length. -/
def runB (r : Nat) : List Bool := if 3 ≤ r then true :: true :: runB (r - 3) else bitsOf r 2
termination_by r
decreasing_by omega

theorem runB_low {r : Nat} (h : r < 3) : runB r = bitsOf r 2 := by rw [runB, if_neg (by omega)]
theorem runB_high (r : Nat) : runB (r + 3) = bitsOf 3 2 ++ runB r := by rw [runB, if_pos (by omega), Nat.add_sub_cancel]; rfl

/-- How many norms of 0 come first. -/
def zr : List Int → Nat
  | [] => 0
  | n :: l => if n = 0 then zr l + 1 else 0

theorem zr_le : ∀ l : List Int, zr l ≤ l.length
  | [] => Nat.le_refl _
  | n :: l => by
    have := zr_le l
    rw [zr, List.length_cons]
    split <;> omega
theorem zr_split : ∀ l : List Int, l = List.replicate (zr l) 0 ++ l.drop (zr l)
  | [] => rfl
  | n :: l => by
    rw [zr]
    split
    · rename_i h
      subst h
      rw [List.replicate_succ, List.drop_succ_cons, List.cons_append, ← zr_split l]
    · simp
theorem zr_head : ∀ l : List Int, (l.drop (zr l)).head? ≠ some 0
  | [] => by simp [zr]
  | n :: l => by
    rw [zr]
    split
    · rw [List.drop_succ_cons]; exact zr_head l
    · rename_i h
      simpa using h
theorem zr_app {l : List Int} (h : l.head? ≠ some 0) : ∀ r : Nat, zr (List.replicate r 0 ++ l) = r
  | 0 => by
    cases l with
    | nil => rfl
    | cons n l =>
      have : n ≠ 0 := by simpa using h
      simp [zr, this]
  | r + 1 => by rw [List.replicate_succ, List.cons_append, zr, if_pos rfl, zr_app h r]

/-- The bits of the norms where so many states are left. -/
def enc (left : Nat) : List Int → List Bool
  | [] => []
  | n :: rest => code (n + 1).toNat (left + 2) ++ (if n = 0 then runB (zr rest) ++ enc left (rest.drop (zr rest)) else enc (left - (sts n).toNat) rest)
termination_by l => l.length
decreasing_by
  · simp only [List.length_cons, List.length_drop]; omega
  · simp only [List.length_cons]; omega

theorem enc_nil (left : Nat) : enc left [] = [] := by rw [enc]
theorem enc_zero (left : Nat) (rest : List Int) : enc left (0 :: rest) = code 1 (left + 2) ++ (runB (zr rest) ++ enc left (rest.drop (zr rest))) := by rw [enc, if_pos rfl]; rfl
theorem enc_cons (left : Nat) {n : Int} (h : n ≠ 0) (rest : List Int) : enc left (n :: rest) = code (n + 1).toNat (left + 2) ++ enc (left - (sts n).toNat) rest := by rw [enc, if_neg h]

/-- Norms that take just the states that are left. -/
structure Vs (left : Nat) (l : List Int) : Prop where
  ok : okn l = true
  last : l.getLast? ≠ some 0
  sum : ssum l = (left : Int)

theorem sts_pos {n : Int} (h : -1 ≤ n) : 0 ≤ sts n ∧ n ≤ sts n ∧ (n ≠ 0 → 1 ≤ sts n) := by
  unfold sts
  split <;> omega
theorem okn_cons {n : Int} {l : List Int} (h : okn (n :: l) = true) : -1 ≤ n ∧ okn l = true := by simpa [okn] using h
theorem okn_drop {l : List Int} (h : okn l = true) (k : Nat) : okn (l.drop k) = true := by
  rw [okn, List.all_eq_true] at h ⊢
  exact fun x hx => h x (List.mem_of_mem_drop hx)
theorem last_cons {n : Int} {l : List Int} (h : (n :: l).getLast? ≠ some 0) : l.getLast? ≠ some 0 := by
  cases l with
  | nil => simp
  | cons m l => rw [List.getLast?_cons_cons] at h; exact h
theorem last_drop {l : List Int} (h : l.getLast? ≠ some 0) (k : Nat) : (l.drop k).getLast? ≠ some 0 := by
  rw [List.getLast?_drop]
  split
  · simp
  · exact h
theorem ssum_zeros : ∀ r : Nat, ssum (List.replicate r 0) = 0
  | 0 => rfl
  | r + 1 => by rw [List.replicate_succ, ssum_cons, ssum_zeros r]; rfl

section
variable {left : Nat} {l : List Int}
theorem Vs.nil (h : Vs left []) : left = 0 := by have := h.sum; simp [ssum] at this; omega
theorem Vs.pos (h : Vs left l) (hl : l ≠ []) : 0 < left := by
  have hx : l.getLast hl ≠ 0 := by
    intro e
    apply h.last
    rw [List.getLast?_eq_some_getLast hl, e]
  have e := h.sum
  have ho := h.ok
  rw [← List.dropLast_concat_getLast hl, okn_append, Bool.and_eq_true] at ho
  rw [← List.dropLast_concat_getLast hl, ssum_append] at e
  have h1 := ssum_pos ho.1
  have h2 : -1 ≤ l.getLast hl := by simpa [okn] using ho.2
  have h3 := (sts_pos h2).2.2 hx
  have h4 : ssum [l.getLast hl] = sts (l.getLast hl) := by simp [ssum]
  omega
theorem Vs.bound {n : Int} (h : Vs left (n :: l)) : -1 ≤ n ∧ sts n ≤ (left : Int) ∧ n ≤ (left : Int) ∧ 0 ≤ sts n := by
  have h1 := okn_cons h.ok
  have h2 := ssum_pos h1.2
  have h3 := h.sum
  have h4 := sts_pos h1.1
  rw [ssum_cons] at h3
  omega
theorem Vs.tail {n : Int} (h : Vs left (n :: l)) : Vs (left - (sts n).toNat) l := by
  have h1 := h.bound
  have h3 := h.sum
  rw [ssum_cons] at h3
  exact ⟨(okn_cons h.ok).2, last_cons h.last, by omega⟩
theorem Vs.skip (h : Vs left l) : Vs left (l.drop (zr l)) := by
  refine ⟨okn_drop h.ok _, last_drop h.last _, ?_⟩
  have e := h.sum
  rw [zr_split l, ssum_append, ssum_zeros] at e
  omega
theorem Vs.skip0 (h : Vs left (0 :: l)) : Vs left (l.drop (zr l)) := by
  have := h.tail
  rw [show sts 0 = 0 by rfl] at this
  exact this.skip
theorem Vs.skip0_ne (h : Vs left (0 :: l)) : l.drop (zr l) ≠ [] := by
  intro e
  have h1 := h.skip0
  rw [e] at h1
  have := h.pos (by simp)
  have := h1.nil
  omega
end

end Go.Proofs.YtnlhokfhkohdpaaGreat.De

namespace Go.Proofs.YtnlhokfhkohdpaaGreat.De
open Bt (bitsOf val unp pack bitsOf_len val_bitsOf bitsOf_val val_lt)

/-- The states of the norm v - 1. -/
def stn (v : Nat) : Nat := if v = 0 then 1 else v - 1
theorem stn_sts (v : Nat) : sts ((v : Int) - 1) = (stn v : Int) := by
  unfold sts stn
  split <;> split <;> omega

/-- What reading ends with: an error, or norms and the place behind them. -/
inductive Rs where
  | bad (e : Nat)
  | ok (out : List Int) (s : Nat)

/-- Reading norms of B from place s on, at most sy of them and f steps: so many states are left, out has been read; run: parts of a run length come next. -/
def dst (B : List Bool) (sy : Int) : Nat → Nat → List Int → Nat → Bool → Rs
  | 0, _, _, _, _ => .bad 0
  | f + 1, left, out, s, false =>
    if left = 0 then .ok out s
    else if sy ≤ out.length then .bad 13
    else match rd B s (left + 2) with
      | none => .bad 3
      | some (v, s') => if v = 1 ∧ out.getLast? = some 0 then .bad 13 else dst B sy f (left - stn v) (out ++ [(v : Int) - 1]) s' (v == 1)
  | f + 1, left, out, s, true =>
    if sy ≤ out.length then .bad 13
    else if B.length < s + 2 then .bad 3
    else dst B sy f left (out ++ List.replicate (tk B s 2) 0) (s + 2) (tk B s 2 == 3)

theorem rd_lt {B : List Bool} {s v s' m : Nat} (hm : 2 ≤ m) (h : rd B s m = some (v, s')) : s < s' ∧ s' ≤ B.length := ⟨(rd_inv hm h).2.2.2.2, (rd_inv hm h).2.2.2.1⟩

theorem dst_fuel (B : List Bool) (sy : Int) : ∀ (f g left : Nat) (out : List Int) (s : Nat) (b : Bool), s ≤ B.length → B.length < s + f → B.length < s + g → dst B sy f left out s b = dst B sy g left out s b
  | 0, _, _, _, _, _, h0, h1, _ => by omega
  | _ + 1, 0, _, _, _, _, h0, _, h2 => by omega
  | f + 1, g + 1, left, out, s, false, h0, h1, h2 => by
    rw [dst, dst]
    split
    · rfl
    · split
      · rfl
      · cases hr : rd B s (left + 2) with
        | none => rfl
        | some x =>
          obtain ⟨v, s'⟩ := x
          have := rd_lt (by omega) hr
          dsimp only
          split
          · rfl
          · exact dst_fuel B sy f g _ _ _ _ this.2 (by omega) (by omega)
  | f + 1, g + 1, left, out, s, true, h0, h1, h2 => by
    rw [dst, dst]
    split
    · rfl
    · split
      · rfl
      · exact dst_fuel B sy f g _ _ _ _ (by omega) (by omega) (by omega)

/-- Reading to the end. -/
def dec (B : List Bool) (sy : Int) (left : Nat) (out : List Int) (s : Nat) (b : Bool) : Rs := dst B sy (B.length + 1 - s) left out s b

section
variable {B : List Bool} {sy : Int} {left : Nat} {out : List Int} {s : Nat}
theorem dec_done (h : s ≤ B.length) : dec B sy 0 out s false = .ok out s := by
  rw [dec, show B.length + 1 - s = (B.length - s) + 1 by omega, dst, if_pos rfl]
theorem dec_full (h : s ≤ B.length) (h0 : 0 < left) (hf : sy ≤ out.length) : dec B sy left out s false = .bad 13 := by
  rw [dec, show B.length + 1 - s = (B.length - s) + 1 by omega, dst, if_neg (by omega), if_pos hf]
theorem dec_short (h : s ≤ B.length) (h0 : 0 < left) (hf : ¬ sy ≤ out.length) (hr : rd B s (left + 2) = none) : dec B sy left out s false = .bad 3 := by
  rw [dec, show B.length + 1 - s = (B.length - s) + 1 by omega, dst, if_neg (by omega), if_neg hf, hr]
theorem dec_twice {v s' : Nat} (h : s ≤ B.length) (h0 : 0 < left) (hf : ¬ sy ≤ out.length) (hr : rd B s (left + 2) = some (v, s')) (hz : v = 1 ∧ out.getLast? = some 0) : dec B sy left out s false = .bad 13 := by
  rw [dec, show B.length + 1 - s = (B.length - s) + 1 by omega, dst, if_neg (by omega), if_neg hf, hr]
  dsimp only
  rw [if_pos hz]
theorem dec_num {v s' : Nat} (h : s ≤ B.length) (h0 : 0 < left) (hf : ¬ sy ≤ out.length) (hr : rd B s (left + 2) = some (v, s')) (hz : ¬ (v = 1 ∧ out.getLast? = some 0)) :
    dec B sy left out s false = dec B sy (left - stn v) (out ++ [(v : Int) - 1]) s' (v == 1) := by
  have hs := rd_lt (by omega) hr
  rw [dec, show B.length + 1 - s = (B.length - s) + 1 by omega, dst, if_neg (by omega), if_neg hf, hr]
  dsimp only
  rw [if_neg hz]
  exact dst_fuel B sy _ _ _ _ _ _ hs.2 (by omega) (by omega)
theorem dec_rfull (h : s ≤ B.length) (hf : sy ≤ out.length) : dec B sy left out s true = .bad 13 := by
  rw [dec, show B.length + 1 - s = (B.length - s) + 1 by omega, dst, if_pos hf]
theorem dec_rshort (h : s ≤ B.length) (hf : ¬ sy ≤ out.length) (hr : B.length < s + 2) : dec B sy left out s true = .bad 3 := by
  rw [dec, show B.length + 1 - s = (B.length - s) + 1 by omega, dst, if_neg hf, if_pos hr]
theorem dec_part (hf : ¬ sy ≤ out.length) (hr : s + 2 ≤ B.length) : dec B sy left out s true = dec B sy left (out ++ List.replicate (tk B s 2) 0) (s + 2) (tk B s 2 == 3) := by
  rw [dec, show B.length + 1 - s = (B.length - s) + 1 by omega, dst, if_neg hf, if_neg (by omega)]
  exact dst_fuel B sy _ _ _ _ _ _ hr (by omega) (by omega)
end

theorem getLast?_snoc (l : List Int) (n : Int) : (l ++ [n]).getLast? = some n := by simp

theorem reps (l : List Int) (a b : Nat) : l ++ List.replicate a 0 ++ List.replicate b 0 = l ++ List.replicate (a + b) 0 := by
  rw [List.append_assoc, List.replicate_append_replicate]

/-- A run length is read, or there are too many norms. -/
theorem dec_run {B : List Bool} {sy : Int} {left : Nat} : ∀ (n r : Nat), r ≤ n → ∀ (out : List Int) (s : Nat) (X : List Bool), s ≤ B.length → B.drop s = runB r ++ X →
    (dec B sy left out s true = .bad 13 ∧ sy ≤ ((out.length + r : Nat) : Int)) ∨ dec B sy left out s true = dec B sy left (out ++ List.replicate r 0) (s + (runB r).length) false := by
  intro n
  induction n with
  | zero =>
    intro r hr out s X hs hX
    obtain rfl : r = 0 := by omega
    rw [runB_low (by decide)] at hX ⊢
    have hl := drop_len hs hX
    rw [bitsOf_len] at hl ⊢
    by_cases hf : sy ≤ out.length
    · exact .inl ⟨dec_rfull hs hf, by simpa using hf⟩
    · right
      rw [dec_part hf hl, tk_of hX]
      rfl
  | succ n ih =>
    intro r hr out s X hs hX
    by_cases hf : sy ≤ out.length
    · exact .inl ⟨dec_rfull hs hf, by omega⟩
    · by_cases h3 : r < 3
      · rw [runB_low h3] at hX ⊢
        have hl := drop_len hs hX
        rw [bitsOf_len] at hl ⊢
        right
        rw [dec_part hf hl, tk_of hX, Nat.mod_eq_of_lt (by omega)]
        rw [show (r == 3) = false by simp; omega]
      · obtain ⟨q, rfl⟩ : ∃ q, r = q + 3 := ⟨r - 3, by omega⟩
        rw [runB_high, List.append_assoc] at hX
        have hl := drop_len hs hX
        have hX2 := drop_app hX
        rw [bitsOf_len] at hl hX2
        rw [dec_part hf hl, tk_of hX, runB_high, List.length_append, bitsOf_len]
        have := ih q (by omega) (out ++ List.replicate (3 % 2 ^ 2) 0) (s + 2) X hl hX2
        rw [reps, show 3 % 2 ^ 2 + q = q + 3 by omega, List.length_append, List.length_replicate] at this
        rw [show (s + 2 + (runB q).length) = s + (2 + (runB q).length) by omega] at this
        rcases this with ⟨h1, h2⟩ | h1
        · exact .inl ⟨h1, by omega⟩
        · exact .inr h1

/-- The norms are read back from their bits, whatever follows. -/
theorem dec_enc {B : List Bool} {sy : Int} : ∀ (n left : Nat) (l out : List Int) (s : Nat) (R : List Bool), l.length ≤ n → Vs left l → (out.getLast? = some 0 → l.head? ≠ some 0) → (l = [] → (out.length : Int) ≤ sy) → s ≤ B.length → B.drop s = enc left l ++ R →
    dec B sy left out s false = if ((out.length + l.length : Nat) : Int) ≤ sy then .ok (out ++ l) (s + (enc left l).length) else .bad 13 := by
  intro n
  induction n with
  | zero =>
    intro left l out s R hn hv hz hc hs hB
    obtain rfl : l = [] := List.eq_nil_of_length_eq_zero (by omega)
    obtain rfl := hv.nil
    rw [dec_done hs, if_pos (by simpa using hc rfl), enc_nil]
    simp
  | succ n ih =>
    intro left l out s R hn hv hz hc hs hB
    cases l with
    | nil =>
      obtain rfl := hv.nil
      rw [dec_done hs, if_pos (by simpa using hc rfl), enc_nil]
      simp
    | cons x rest =>
      have hp := hv.pos (by simp)
      have hb := hv.bound
      rw [List.length_cons] at hn ⊢
      by_cases hf : sy ≤ out.length
      · rw [dec_full hs hp hf, if_neg (by omega)]
      · have hx : (((x + 1).toNat : Nat) : Int) - 1 = x := by omega
        by_cases h0 : x = 0
        · subst h0
          rw [enc_zero, List.append_assoc] at hB
          have hr := rd_code (by omega) (by omega) hs hB
          have hl := drop_len hs hB
          have hB2 := drop_app hB
          rw [List.append_assoc] at hB2
          have hz1 : ¬ ((1 : Nat) = 1 ∧ out.getLast? = some 0) := fun h => hz h.2 rfl
          rw [dec_num hs hp hf hr hz1]
          have e1 : stn 1 = 0 := rfl
          rw [e1, Nat.sub_zero, show (((1 : Nat) : Int) - 1) = 0 by rfl, show ((1 : Nat) == 1) = true by rfl]
          have hzl := zr_le rest
          have hne := hv.skip0_ne
          have hpos : 0 < (rest.drop (zr rest)).length := List.length_pos_iff.2 hne
          rw [List.length_drop] at hpos
          rcases dec_run _ (zr rest) (Nat.le_refl _) (out ++ [0]) _ _ hl hB2 with ⟨h1, h2⟩ | h1
          · rw [h1, if_neg]
            rw [List.length_append, List.length_singleton] at h2
            omega
          · rw [h1]
            have hB3 := drop_app hB2
            have hl3 := drop_len hl hB2
            have hih := ih left (rest.drop (zr rest)) (out ++ [0] ++ List.replicate (zr rest) 0) _ R (by rw [List.length_drop]; omega) hv.skip0 (fun _ => zr_head rest) (fun e => absurd e hne) hl3 hB3
            rw [hih]
            have e2 : (out ++ [0] ++ List.replicate (zr rest) 0).length + (rest.drop (zr rest)).length = out.length + (rest.length + 1) := by
              simp only [List.length_append, List.length_singleton, List.length_replicate, List.length_drop]; omega
            have e3 : out ++ [0] ++ List.replicate (zr rest) 0 ++ rest.drop (zr rest) = out ++ 0 :: rest := by
              rw [List.append_assoc, ← zr_split]; simp
            rw [e2, e3, enc_zero]
            simp only [List.length_append, Nat.add_assoc]
        · rw [enc_cons _ h0, List.append_assoc] at hB
          have hr := rd_code (by omega) (by omega) hs hB
          have hl := drop_len hs hB
          have hB2 := drop_app hB
          have hz1 : ¬ ((x + 1).toNat = 1 ∧ out.getLast? = some 0) := fun h => by omega
          rw [dec_num hs hp hf hr hz1, hx, show ((x + 1).toNat == 1) = false by simp; omega]
          have hst : stn (x + 1).toNat = (sts x).toNat := by
            have := stn_sts (x + 1).toNat
            rw [hx] at this
            omega
          rw [hst]
          have hih := ih (left - (sts x).toNat) rest (out ++ [x]) _ R (by omega) hv.tail (by rw [getLast?_snoc]; intro h; exact absurd (Option.some.inj h) h0) (fun _ => by rw [List.length_append, List.length_singleton]; omega) hl hB2
          rw [hih, enc_cons _ h0]
          have e2 : (out ++ [x]).length + rest.length = out.length + (rest.length + 1) := by simp only [List.length_append, List.length_singleton]; omega
          have e3 : out ++ [x] ++ rest = out ++ x :: rest := by simp
          rw [e2, e3]
          simp only [List.length_append, Nat.add_assoc]

end Go.Proofs.YtnlhokfhkohdpaaGreat.De

namespace Go.Proofs.YtnlhokfhkohdpaaGreat.De

section
open Bt (bitsOf bitsOf_len)
/-- A valid table. -/
structure Vt (y : Nat) (l : List Int) : Prop where
  log : y ≤ 9
  pos : 1 ≤ l.length
  len : l.length ≤ 256
  last : l.getLast? ≠ some 0
  ok : okn l = true
  sum : ssum l = ((2 ^ y : Nat) : Int)

theorem Vt.size {y : Nat} {l : List Int} (h : Vt y l) : 2 ^ y ≤ 512 := pow_le h.log
theorem Vt.vs {y : Nat} {l : List Int} (h : Vt y l) : Vs (2 ^ y) l := ⟨h.ok, h.last, h.sum⟩
theorem Vt.of {y : Nat} {l : List Int} (h : Vs (2 ^ y) l) (hy : y ≤ 9) (hl : l.length ≤ 256) : Vt y l := by
  refine ⟨hy, ?_, hl, h.last, h.ok, h.sum⟩
  cases l with
  | nil => have := h.nil; have := Nat.two_pow_pos y; omega
  | cons _ _ => simp

theorem vt_iff {y : Int} {l : List Int} : vt y l 256 9 = true ↔ ∃ n : Nat, y = (n : Int) ∧ Vt n l := by
  unfold vt
  simp only [Bool.and_eq_true, decide_eq_true_iff]
  constructor
  · rintro ⟨⟨⟨⟨⟨⟨h1, h2⟩, h3⟩, h4⟩, h5⟩, h6⟩, h7⟩
    unfold fl at h7
    rw [Bool.and_eq_true, decide_eq_true_iff] at h7
    refine ⟨y.toNat, by omega, by omega, h4, by omega, h6, h7.1, ?_⟩
    rw [h7.2]
    exact (Int.natCast_pow 2 y.toNat).symm
  · rintro ⟨n, rfl, h⟩
    have h1 := h.log
    have h2 := h.len
    have h3 := h.pos
    have h4 := h.last
    refine ⟨⟨⟨⟨⟨⟨by omega, by omega⟩, by omega⟩, h3⟩, by omega⟩, h4⟩, ?_⟩
    unfold fl
    rw [h.ok, h.sum]
    simp

/-- Whether a table has a description. -/
def may (y : Int) (l : List Int) : Bool := decide (0 < y) && vt y l 256 9
theorem may_iff {y : Int} {l : List Int} : may y l = true ↔ ∃ n : Nat, y = (n : Int) ∧ 1 ≤ n ∧ Vt n l := by
  unfold may
  rw [Bool.and_eq_true, decide_eq_true_iff, vt_iff]
  constructor
  · rintro ⟨h, n, rfl, hv⟩
    exact ⟨n, rfl, by omega, hv⟩
  · rintro ⟨n, rfl, h, hv⟩
    exact ⟨by omega, n, rfl, hv⟩

theorem runB_len : ∀ (n r : Nat), r ≤ n → (runB r).length ≤ r + 2 := by
  intro n
  induction n with
  | zero => intro r h; rw [runB_low (by omega), bitsOf_len]; omega
  | succ n ih =>
    intro r h
    by_cases h3 : r < 3
    · rw [runB_low h3, bitsOf_len]; omega
    · obtain ⟨q, rfl⟩ : ∃ q, r = q + 3 := ⟨r - 3, by omega⟩
      have := ih q (by omega)
      rw [runB_high, List.length_append, bitsOf_len]
      omega

theorem code_le {n m : Nat} (h : m ≤ 514) : (code n m).length ≤ 10 := by
  have := wid_le h
  rw [code_len]
  split <;> omega

theorem enc_len : ∀ (n left : Nat) (l : List Int), l.length ≤ n → left ≤ 512 → (enc left l).length ≤ 12 * l.length := by
  intro n
  induction n with
  | zero =>
    intro left l h _
    obtain rfl : l = [] := List.eq_nil_of_length_eq_zero (by omega)
    rw [enc_nil]
    simp
  | succ n ih =>
    intro left l h hl
    cases l with
    | nil => rw [enc_nil]; simp
    | cons x rest =>
      rw [List.length_cons] at h ⊢
      by_cases h0 : x = 0
      · subst h0
        have h1 := runB_len _ (zr rest) (Nat.le_refl _)
        have h2 := code_le (n := 1) (m := left + 2) (by omega)
        have h3 := zr_le rest
        have h4 := ih left (rest.drop (zr rest)) (by rw [List.length_drop]; omega) hl
        rw [List.length_drop] at h4
        rw [enc_zero, List.length_append, List.length_append]
        omega
      · have h2 := code_le (n := (x + 1).toNat) (m := left + 2) (by omega)
        have h4 := ih (left - (sts x).toNat) rest (by omega) (by omega)
        rw [enc_cons _ h0, List.length_append]
        omega

/-- The bits of a table's description. -/
def descr (y : Nat) (l : List Int) : List Bool := bitsOf (y - 1) 4 ++ enc (2 ^ y) l
theorem descr_len {y : Nat} {l : List Int} (h : Vt y l) : (descr y l).length ≤ 3076 := by
  have h1 := enc_len _ (2 ^ y) l (Nat.le_refl _) h.size
  have h2 := h.len
  rw [descr, List.length_append, bitsOf_len]
  omega
end

section
open Bt (bitsOf bitsOf_len unp unp_len)
/-- The norms that some bits describe, and the place behind them: at most sy norms, at most the Log lg. -/
def dcp (B : List Bool) (sy lg : Int) : Rs :=
  if B.length < 4 then .bad 3 else if lg < ((tk B 0 4 + 1 : Nat) : Int) then .bad 13 else dec B sy (2 ^ (tk B 0 4 + 1)) [] 4 false

/-- The last bits, and what Decode reads: the error, the Log, the norms, the number of bytes. -/
def dfin (B : List Bool) : Rs → Nat × Nat × List Int × Nat
  | .bad e => (e, 0, [], 0)
  | .ok out s => if tk B s (8 * ((s + 7) / 8) - s) = 0 then (0, tk B 0 4 + 1, out, (s + 7) / 8) else (14, 0, [], 0)

/-- What Decode reads from some bits: at most sy norms, at most the Log lg. -/
def dcd (B : List Bool) (sy lg : Int) : Nat × Nat × List Int × Nat := dfin B (dcp B (min sy 256) (min lg 9))
end

end Go.Proofs.YtnlhokfhkohdpaaGreat.De
