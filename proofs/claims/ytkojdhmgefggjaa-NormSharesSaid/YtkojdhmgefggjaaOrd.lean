/-
  The mathematics of the consequences: order, shares, factors. No condition beyond those that each theorem states.
-/
import Derived.Test.YtkojdhmgefggjaaKno
import Derived.Test.YtkojdhmgefggjaaFil
namespace Go.Proofs.Ytkojdhmgefggjaa

/-- What a property that each step keeps says of the end. -/
theorem goN_keeps {sg : Int} {ok : Int → Bool} {kf : Int → Int} {sh : Nat → Int} {t : Int} {U : List Nat} {I : (Nat → Int) → Prop}
    (h : ∀ st b, I st → pick (fun i => ok (st i)) (fun i => kf (sh i - st i * t)) U = some b → I (fun i => if i = b then st i + sg else st i)) (n : Nat) : ∀ st, I st → I (goN sg ok kf sh t U n st) := by
  induction n with
  | zero => exact fun st hi => hi
  | succ n ih =>
    intro st hi
    show I (goN sg ok kf sh t U n (go1 sg ok kf sh t U st))
    refine ih _ ?_
    cases hb : pick (fun i => ok (st i)) (fun i => kf (sh i - st i * t)) U with
    | none => unfold go1; rw [hb]; exact hi
    | some b => rw [go1_of hb]; exact h st b hi hb

/-- A symbol with a smaller share never has more states. -/
def Ordd (U : List Nat) (sh st : Nat → Int) : Prop := ∀ i ∈ U, ∀ j ∈ U, sh i < sh j → st i ≤ st j

theorem ordd_up {U : List Nat} {sh : Nat → Int} {t : Int} {st : Nat → Int} {b : Nat} (h : Ordd U sh st) (hp : pick (fun i => upOk (st i)) (fun i => upKf (sh i - st i * t)) U = some b) : Ordd U sh (fun i => if i = b then st i + 1 else st i) := by
  obtain ⟨_, hb, hm⟩ := pick_some hp
  intro i hi j hj hs
  have h1 := h i hi j hj hs
  show (if i = b then st i + 1 else st i) ≤ (if j = b then st j + 1 else st j)
  by_cases e1 : i = b
  · by_cases e2 : j = b
    · rw [if_pos e1, if_pos e2]; omega
    · rw [if_pos e1, if_neg e2]
      by_cases h2 : st i < st j
      · omega
      · exfalso
        have h3 : st i = st j := by omega
        have h4 := hm j hj rfl
        subst e1
        simp only [upKf] at h4
        rw [h3] at h4
        omega
  · rw [if_neg e1]
    split <;> omega
theorem ordd_dn {U : List Nat} {sh : Nat → Int} {t : Int} {st : Nat → Int} {b : Nat} (h : Ordd U sh st) (hp : pick (fun i => dnOk (st i)) (fun i => dnKf (sh i - st i * t)) U = some b) : Ordd U sh (fun i => if i = b then st i + -1 else st i) := by
  obtain ⟨hok, hb, hm⟩ := pick_some hp
  intro i hi j hj hs
  have h1 := h i hi j hj hs
  show (if i = b then st i + -1 else st i) ≤ (if j = b then st j + -1 else st j)
  by_cases e2 : j = b
  · by_cases e1 : i = b
    · rw [if_pos e1, if_pos e2]; omega
    · rw [if_neg e1, if_pos e2]
      by_cases h2 : st i < st j
      · omega
      · exfalso
        have h3 : st i = st j := by omega
        subst e2
        have h4 := hm i hi (by show dnOk (st i) = true; rw [h3]; exact hok)
        simp only [dnKf] at h4
        rw [h3] at h4
        omega
  · rw [if_neg e2]
    split <;> omega

theorem shr_lt {k : List Nat} {s i j : Nat} (hs : 0 < s) : shr k s i < shr k s j ↔ cn k i < cn k j := by
  unfold shr
  constructor
  · intro h
    rcases Nat.lt_or_ge (cn k i) (cn k j) with h1 | h1
    · exact h1
    · have := Nat.mul_le_mul_right s h1
      omega
  · intro h
    have := Nat.mul_lt_mul_of_pos_right h hs
    omega
theorem st0_mono {k : List Nat} {s i j : Nat} (hi : 0 < cn k i) (h : cn k i ≤ cn k j) : st0 k s i ≤ st0 k s j := by
  unfold st0
  rw [if_neg (by omega), if_neg (by omega)]
  have := Nat.div_le_div_right (c := tot k) (Nat.mul_le_mul_right s h)
  omega
theorem fin_order {k : List Nat} {s : Nat} (hs : 0 < s) : Ordd (usy k) (shr k s) (fin k s) := by
  unfold fin
  refine goN_keeps (I := Ordd (usy k) (shr k s)) (fun st b hi hp => ordd_dn hi hp) _ _ ?_
  refine goN_keeps (I := Ordd (usy k) (shr k s)) (fun st b hi hp => ordd_up hi hp) _ _ ?_
  intro i hi j hj h
  rw [shr_lt hs] at h
  exact st0_mono (usy_mem.1 hi).2 (by omega)

/-- The number of states of each symbol. -/
theorem fin_pos {k : List Nat} {lg s : Nat} (hg : Gd k lg s) : ∀ i ∈ usy k, 1 ≤ fin k s i ∧ fin k s i ≤ 1024 := by
  have hs5 : s ≤ 512 := by rw [← hg.pow]; exact pow_le hg.log
  have hU : usy k ≠ [] := fun e => by have := usy_len k; rw [e] at this; have := hg.pos; simp at *; omega
  have hb := lft_bd k hs5 hg.use
  obtain ⟨h1, h2⟩ := upN_all (sh := shr k s) (t := (tot k : Int)) hU (usy_nodup k) (lft k s).toNat (st0 k s)
  have h3 := h2 1 512 (fun i hi => ⟨st0_pos (usy_mem.1 hi).2, (st0_bd k hs5 i).2⟩)
  have h4 : ((usy k).length : Int) + ((-(lft k s)).toNat : Int) ≤ sm (upN (shr k s) (tot k : Int) (usy k) (lft k s).toNat (st0 k s)) (usy k) := by
    rw [h1, usy_len]
    have := hg.use
    unfold lft
    unfold lft at hb
    omega
  obtain ⟨h5, h6⟩ := dnN_all (sh := shr k s) (t := (tot k : Int)) (usy_nodup k) (-(lft k s)).toNat _ h4
  intro i hi
  exact h6 1024 (fun j hj => by have := h3 j hj; omega) i hi
theorem fin_sum {k : List Nat} {lg s : Nat} (hg : Gd k lg s) : sm (fin k s) (usy k) = (s : Int) := by
  have hs5 : s ≤ 512 := by rw [← hg.pow]; exact pow_le hg.log
  have hU : usy k ≠ [] := fun e => by have := usy_len k; rw [e] at this; have := hg.pos; simp at *; omega
  obtain ⟨h1, _⟩ := upN_all (sh := shr k s) (t := (tot k : Int)) hU (usy_nodup k) (lft k s).toNat (st0 k s)
  have h4 : ((usy k).length : Int) + ((-(lft k s)).toNat : Int) ≤ sm (upN (shr k s) (tot k : Int) (usy k) (lft k s).toNat (st0 k s)) (usy k) := by
    rw [h1, usy_len]
    have := hg.use
    unfold lft
    omega
  obtain ⟨h5, _⟩ := dnN_all (sh := shr k s) (t := (tot k : Int)) (usy_nodup k) (-(lft k s)).toNat _ h4
  unfold fin
  show sm (dnN (shr k s) (tot k : Int) (usy k) (-(lft k s)).toNat (upN (shr k s) (tot k : Int) (usy k) (lft k s).toNat (st0 k s))) (usy k) = (s : Int)
  rw [h5, h1]
  unfold lft
  omega

theorem sts_nm {k : List Nat} {lg s : Nat} (hg : Gd k lg s) {i : Nat} (hi : i ∈ usy k) : 1 ≤ sts (nm k s i) := by
  have h1 := fin_pos hg i hi
  have h2 := (usy_mem.1 hi).2
  by_cases h : cn k i * s < tot k
  · have e : nm k s i = -1 := by unfold nm; rw [if_neg (by omega), if_pos h]
    rw [e]; decide
  · have e : nm k s i = fin k s i := by unfold nm; rw [if_neg (by omega), if_neg h]
    rw [e]
    unfold sts
    rw [if_neg (by omega)]
    omega
theorem sts_order {k : List Nat} {lg s : Nat} (hg : Gd k lg s) {i j : Nat} (hi : i < k.length) (hj : j < k.length) (h : cn k i < cn k j) : sts (nm k s i) ≤ sts (nm k s j) := by
  have hs : 0 < s := by rw [← hg.pow]; exact Nat.two_pow_pos lg
  have hju : j ∈ usy k := usy_mem.2 ⟨hj, by omega⟩
  have h1 := sts_nm hg hju
  by_cases h0 : cn k i = 0
  · have e : sts (nm k s i) = 0 := by unfold nm; rw [if_pos h0]; rfl
    omega
  · have hiu : i ∈ usy k := usy_mem.2 ⟨hi, by omega⟩
    by_cases hr : cn k i * s < tot k
    · have e : sts (nm k s i) = 1 := by unfold nm; rw [if_neg h0, if_pos hr]; rfl
      omega
    · have hm := Nat.mul_lt_mul_of_pos_right h hs
      have h2 := fin_pos hg i hiu
      have h3 := fin_pos hg j hju
      have e1 : sts (nm k s i) = fin k s i := by unfold nm; rw [if_neg h0, if_neg hr]; unfold sts; rw [if_neg (by omega)]
      have e2 : sts (nm k s j) = fin k s j := by unfold nm; rw [if_neg (by omega), if_neg (by omega)]; unfold sts; rw [if_neg (by omega)]
      rw [e1, e2]
      exact fin_order hs i hiu j hju ((shr_lt hs).2 h)

end Go.Proofs.Ytkojdhmgefggjaa
