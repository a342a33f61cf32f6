/-
  The mathematics of the stage's theorem: the cost of a histogram does not depend on the order of its counts nor on unused ones, is 0 with at most one used symbol, and is a times 2^(a+b) bits at 2^a counts of 2^b; the histogram of a concatenation is the sum of its parts'. No condition beyond those that each theorem states.
-/
import Derived.Test.YtbbkmmdlpmpaeaaSum
import Derived.Test.YtbbkmmdlpmpaeaaRfC
namespace Go.Proofs.Ytbbkmmdlpmpaeaa

/-- The sum of f over a list. -/
def ssum (f : Nat → Nat) (k : List Nat) : Nat := k.foldl (fun s x => s + f x) 0
theorem ssum_from (f : Nat → Nat) (k : List Nat) (s : Nat) : k.foldl (fun s x => s + f x) s = s + ssum f k := by
  unfold ssum
  induction k generalizing s with
  | nil => rfl
  | cons x k ih => rw [List.foldl_cons, ih, List.foldl_cons, ih (0 + f x)]; omega
theorem ssum_cons (f : Nat → Nat) (x : Nat) (k : List Nat) : ssum f (x :: k) = f x + ssum f k := by
  rw [ssum, List.foldl_cons, ssum_from]; omega
theorem ssum_append (f : Nat → Nat) (k m : List Nat) : ssum f (k ++ m) = ssum f k + ssum f m := by
  rw [ssum, List.foldl_append, ssum_from]; rfl
theorem ssum_perm {f : Nat → Nat} {k m : List Nat} (h : k.Perm m) : ssum f k = ssum f m := by
  induction h with
  | nil => rfl
  | cons x _ ih => rw [ssum_cons, ssum_cons, ih]
  | swap x y l => rw [ssum_cons, ssum_cons, ssum_cons, ssum_cons]; omega
  | trans _ _ h1 h2 => exact h1.trans h2
theorem tot_ssum (k : List Nat) : tot k = ssum id k := rfl
theorem cst_ssum (k : List Nat) : cst k = ssum (fun x => x * (lg (tot k) - lg x)) k := by
  unfold cst cstj
  rw [fold_all]
  exact foldl_usd (fun s x => s + x * (lg (tot k) - lg x)) (by simp) k 0 0
theorem tot_perm {k m : List Nat} (h : k.Perm m) : tot k = tot m := ssum_perm h
theorem cst_perm {k m : List Nat} (h : k.Perm m) : cst k = cst m := by rw [cst_ssum, cst_ssum, tot_perm h]; exact ssum_perm h
theorem cst_zeros (k : List Nat) : cst (k ++ [0, 0, 0]) = cst k := by
  have ht : tot (k ++ [0, 0, 0]) = tot k := by rw [tot_append]; simp [tot]
  rw [cst_ssum, cst_ssum, ssum_append, ht]
  simp [ssum]
theorem cst_one {k : List Nat} (h : (usd 0 k).length ≤ 1) : cst k = 0 := by
  unfold cst cstj
  rw [fold_all, ← totj_all, totj, fold_all]
  rcases hu : usd 0 k with _ | ⟨p, _ | ⟨q, r⟩⟩
  · rfl
  · simp
  · rw [hu] at h; simp at h
theorem ssum_replicate (f : Nat → Nat) (n x : Nat) : ssum f (List.replicate n x) = n * f x := by
  induction n with
  | zero => simp [ssum]
  | succ n ih => rw [List.replicate_succ, ssum_cons, ih, Nat.succ_mul]; omega
theorem lg_pow (n : Nat) : lg (2 ^ n) = n * 256 := by
  unfold lg
  rw [Nat.log2_two_pow, Nat.sub_self]
  simp
theorem cst_even (a b : Nat) : cst (List.replicate (2 ^ a) (2 ^ b)) = 256 * a * 2 ^ a * 2 ^ b := by
  have ht : tot (List.replicate (2 ^ a) (2 ^ b)) = 2 ^ (a + b) := by rw [tot_ssum, ssum_replicate, Nat.pow_add]; rfl
  rw [cst_ssum, ssum_replicate, ht, lg_pow, lg_pow, show (a + b) * 256 - b * 256 = 256 * a by omega, Nat.mul_comm (2 ^ b), ← Nat.mul_assoc, Nat.mul_comm (2 ^ a)]

/-- How often value i is among some bytes. -/
def cnti (l : List UInt8) (i : Nat) : Nat := l.countP (fun b => b.toNat == i)
theorem foldl_hinc_get (l : List UInt8) (h : List Nat) (i : Nat) : (l.foldl hinc h)[i]? = h[i]?.map (· + cnti l i) := by
  induction l generalizing h with
  | nil => simp [cnti]
  | cons b l ih =>
    rw [List.foldl_cons, ih, hinc, List.getElem?_set]
    by_cases hb : b.toNat = i
    · subst hb
      cases hg : h[b.toNat]? with
      | none =>
        have : ¬ b.toNat < h.length := by intro hl; rw [List.getElem?_eq_getElem hl] at hg; cases hg
        simp [this]
      | some x =>
        have : b.toNat < h.length := (List.getElem?_eq_some_iff.1 hg).1
        simp [this, cnti]; omega
    · simp [hb, cnti]
theorem hs_get (l : List UInt8) {i : Nat} (h : i < 256) : (hs l)[i]? = some (cnti l i) := by
  rw [hs, foldl_hinc_get, List.getElem?_replicate, if_pos h, Option.map_some, Nat.zero_add]
theorem hs_radd (l m : List UInt8) : radd (hs l) (hs m) = hs (l ++ m) := by
  refine List.ext_getElem? fun i => ?_
  rcases Nat.lt_or_ge i 256 with h | h
  · rw [radd_get (by rw [hs_len, hs_len]; omega), hs_get l h, hs_get m h, hs_get _ h]; simp [cnti]
  · rw [List.getElem?_eq_none (by rw [radd_len, hs_len, hs_len]; omega), List.getElem?_eq_none (by rw [hs_len]; omega)]
theorem hs_vld {l : List UInt8} (h : l.length ≤ 2147483648) : Vld (hs l) := ⟨by rw [hs_len]; omega, fun x hx => by have := hs_le l x hx; omega⟩
theorem hs_asum {l m : List UInt8} (h : l.length + m.length ≤ 2147483648) : asum ((hs l).map (fun n : Nat => (n : Int))) ((hs m).map (fun n : Nat => (n : Int))) = some (hs (l ++ m)) := by
  rw [asum_nats (hs_vld (by omega)) (hs_vld (by omega)), hs_radd, if_pos]
  exact ok_of_vld (hs_vld (by simp; omega))

theorem swap_perm {t : List Nat} {i j : Nat} {a b : Nat} (hi : t[i]? = some a) (hj : t[j]? = some b) : ((t.set i b).set j a).Perm t := by
  obtain ⟨h1, e1⟩ := List.getElem?_eq_some_iff.1 hi
  obtain ⟨h2, e2⟩ := List.getElem?_eq_some_iff.1 hj
  have := List.set_set_perm h1 h2
  rw [e1, e2] at this
  exact this
theorem Vld.perm {k m : List Nat} (h : Vld k) (hp : m.Perm k) : Vld m := ⟨by rw [hp.length_eq]; exact h.1, fun x hx => h.2 x (hp.mem_iff.1 hx)⟩
theorem rot_perm (l : List Nat) (k : Nat) : (l.drop k ++ l.take k).Perm l := by
  have := List.perm_append_comm (l₁ := l.drop k) (l₂ := l.take k)
  rwa [List.take_append_drop] at this

theorem pow8 {a : Nat} (h : a ≤ 8) : 2 ^ a ≤ 256 := by
  have h9 : 2 ^ a ≤ 2 ^ 8 := Nat.pow_le_pow_right (by decide) h
  have e : (2 : Nat) ^ 8 = 256 := by decide
  rw [e] at h9
  exact h9
theorem pow20 {a : Nat} (h : a ≤ 20) : 2 ^ a ≤ 1048576 := by
  have h9 : 2 ^ a ≤ 2 ^ 20 := Nat.pow_le_pow_right (by decide) h
  have e : (2 : Nat) ^ 20 = 1048576 := by decide
  rw [e] at h9
  exact h9
theorem mul_b {x y p q z : Nat} (h1 : x ≤ p) (h2 : y ≤ q) (h3 : p * q = z) : x * y ≤ z := by
  rw [← h3]
  exact Nat.mul_le_mul h1 h2
theorem nums {a b : Nat} (h2 : a ≤ 8) (h3 : b ≤ 20) : ∃ Pa Pb V1 V2 : Nat, 1 ≤ Pa ∧ Pa ≤ 256 ∧ Pb ≤ 1048576 ∧ V1 ≤ 524288 ∧ V2 ≤ 549755813888 ∧ RowKit.wrap64 ((2 : Int) ^ a) = (Pa : Int) ∧ RowKit.wrap64 ((2 : Int) ^ b) = (Pb : Int) ∧
    RowKit.wrap64 (256 * (a : Int) * (2 : Int) ^ a) = (V1 : Int) ∧ RowKit.wrap64 ((V1 : Int) * (2 : Int) ^ b) = (V2 : Int) ∧ cst (List.replicate Pa Pb) = V2 := by
  have q1 := pow8 h2
  have q2 := pow20 h3
  have q3 := Nat.two_pow_pos a
  have q4 : 256 * a * 2 ^ a ≤ 524288 := mul_b (p := 2048) (q := 256) (by omega) q1 (by decide)
  have q5 : 256 * a * 2 ^ a * 2 ^ b ≤ 549755813888 := mul_b (p := 524288) (q := 1048576) q4 q2 (by decide)
  have e := cst_even a b
  generalize hA : 2 ^ a = Pa at *
  generalize hB : 2 ^ b = Pb at *
  generalize hC : 256 * a * Pa = V1 at *
  generalize hD : V1 * Pb = V2 at *
  refine ⟨Pa, Pb, V1, V2, q3, q1, q2, q4, q5, ?_, ?_, ?_, ?_, e⟩
  · rw [pow_int, hA]; exact w64 (Nat.lt_of_le_of_lt q1 (by decide))
  · rw [pow_int, hB]; exact w64 (Nat.lt_of_le_of_lt q2 (by decide))
  · rw [pow_int, hA, show (256 : Int) * (a : Int) * (Pa : Int) = ((256 * a * Pa : Nat) : Int) by rw [Int.natCast_mul, Int.natCast_mul]; rfl, hC]; exact w64 (Nat.lt_of_le_of_lt q4 (by decide))
  · rw [pow_int, hB, ← Int.natCast_mul, hD]; exact w64 (Nat.lt_of_le_of_lt q5 (by decide))

end Go.Proofs.Ytbbkmmdlpmpaeaa
