/-
  The mathematics of multiplied counts: the normalized table stays. No condition beyond those that each theorem states.
-/
import Derived.Test.YtkojdhmgefggjaaOrd
namespace Go.Proofs.Ytkojdhmgefggjaa

theorem pick_scale {ok : Nat → Bool} {key key' : Nat → Int} {U : List Nat} {c : Int} (hc : 0 < c) (h : ∀ i, key' i = key i * c) : pick ok key' U = pick ok key U := by
  unfold pick
  congr 1
  funext b i
  cases b with
  | none => rfl
  | some j =>
    simp only [pickF]
    have : decide (key' j < key' i) = decide (key j < key i) := by
      rw [h, h]
      by_cases hk : key j < key i
      · rw [decide_eq_true hk, decide_eq_true (Int.mul_lt_mul_of_pos_right hk hc)]
      · rw [decide_eq_false hk, decide_eq_false]
        have := Int.mul_le_mul_of_nonneg_right (show key i ≤ key j by omega) (show 0 ≤ c by omega)
        omega
    rw [this]
theorem goN_scale {sg : Int} {ok : Int → Bool} {kf : Int → Int} {sh sh' : Nat → Int} {t t' : Int} {U : List Nat} {c : Int} (hc : 0 < c) (hs : ∀ i, sh' i = sh i * c) (ht : t' = t * c) (hk : ∀ x, kf (x * c) = kf x * c) (n : Nat) : ∀ st, goN sg ok kf sh' t' U n st = goN sg ok kf sh t U n st := by
  induction n with
  | zero => exact fun st => rfl
  | succ n ih =>
    intro st
    show goN sg ok kf sh' t' U n (go1 sg ok kf sh' t' U st) = goN sg ok kf sh t U n (go1 sg ok kf sh t U st)
    rw [ih]
    congr 1
    unfold go1
    rw [pick_scale (key := fun i => kf (sh i - st i * t)) hc (fun i => ?_)]
    show kf (sh' i - st i * t') = kf (sh i - st i * t) * c
    rw [← hk, hs, ht, Int.sub_mul, Int.mul_assoc]

section
variable {k : List Nat} {t : Nat}
/-- All counts times t. -/
def mul (t : Nat) (k : List Nat) : List Nat := k.map (· * t)
theorem mul_len : (mul t k).length = k.length := by simp [mul]
theorem mul_cn (i : Nat) : cn (mul t k) i = cn k i * t := by
  unfold cn mul
  rw [List.getElem?_map]
  cases k[i]? <;> simp
theorem mul_tot : tot (mul t k) = tot k * t := by
  induction k with
  | nil => simp [mul, tot]
  | cons x k ih =>
    show tot ((x * t) :: mul t k) = _
    rw [tot_cons, tot_cons, ih, Nat.add_mul]
theorem mul_usy (ht : 0 < t) : usy (mul t k) = usy k := by
  unfold usy
  rw [mul_len]
  congr 1
  funext i
  rw [mul_cn]
  have : (0 < cn k i * t) ↔ 0 < cn k i := ⟨fun h => Nat.pos_of_mul_pos_right h, fun h => Nat.mul_pos h ht⟩
  simp only [this]
theorem mul_nus (ht : 0 < t) : nus (mul t k) = nus k := by rw [← usy_len, ← usy_len, mul_usy ht]
theorem mul_st0 (ht : 0 < t) (s i : Nat) : st0 (mul t k) s i = st0 k s i := by
  unfold st0
  rw [mul_cn, mul_tot]
  by_cases h : cn k i = 0
  · rw [h]; simp
  · have h1 : cn k i * t ≠ 0 := Nat.ne_of_gt (Nat.mul_pos (by omega) ht)
    rw [if_neg h1, if_neg h, Nat.mul_right_comm, Nat.mul_div_mul_right _ _ ht]
theorem mul_shr (s i : Nat) : shr (mul t k) s i = shr k s i * (t : Int) := by
  unfold shr
  rw [mul_cn, Nat.mul_right_comm, Int.natCast_mul]
theorem mul_lft (ht : 0 < t) (s : Nat) : lft (mul t k) s = lft k s := by
  unfold lft
  rw [mul_usy ht, sm_congr (fun i _ => mul_st0 ht s i)]
theorem mul_fin (ht : 0 < t) (s : Nat) : fin (mul t k) s = fin k s := by
  have hc : (0 : Int) < (t : Int) := by omega
  have e0 : st0 (mul t k) s = st0 k s := funext (mul_st0 ht s)
  unfold fin
  rw [mul_lft ht, mul_usy ht, e0, mul_tot, Int.natCast_mul]
  have u : ∀ n st, upN (shr (mul t k) s) ((tot k : Int) * (t : Int)) (usy k) n st = upN (shr k s) (tot k : Int) (usy k) n st := fun n st => goN_scale (sh := shr k s) (sh' := shr (mul t k) s) (t := (tot k : Int)) hc (fun i => mul_shr s i) rfl (fun x => rfl) n st
  have d : ∀ n st, dnN (shr (mul t k) s) ((tot k : Int) * (t : Int)) (usy k) n st = dnN (shr k s) (tot k : Int) (usy k) n st := fun n st => goN_scale (sh := shr k s) (sh' := shr (mul t k) s) (t := (tot k : Int)) hc (fun i => mul_shr s i) rfl (fun x => by show -(x * (t : Int)) = -x * (t : Int); rw [Int.neg_mul]) n st
  rw [d, u]
theorem mul_nm (ht : 0 < t) (s i : Nat) : nm (mul t k) s i = nm k s i := by
  unfold nm
  rw [mul_cn, mul_tot, mul_fin ht]
  by_cases h : cn k i = 0
  · rw [h]; simp
  · have h1 : cn k i * t ≠ 0 := Nat.ne_of_gt (Nat.mul_pos (by omega) ht)
    rw [if_neg h1, if_neg h, Nat.mul_right_comm]
    by_cases h2 : cn k i * s < tot k
    · rw [if_pos h2, if_pos (Nat.mul_lt_mul_of_pos_right h2 ht)]
    · rw [if_neg h2, if_neg]
      have := Nat.mul_le_mul_right t (show tot k ≤ cn k i * s by omega)
      omega
theorem mul_lst (ht : 0 < t) : lst (mul t k) = lst k := by unfold lst; rw [mul_usy ht]
theorem mul_nrm (ht : 0 < t) (s : Nat) : nrm (mul t k) s = nrm k s := by
  unfold nrm
  rw [mul_lst ht]
  exact List.map_congr_left (fun i _ => mul_nm ht s i)
end

end Go.Proofs.Ytkojdhmgefggjaa
