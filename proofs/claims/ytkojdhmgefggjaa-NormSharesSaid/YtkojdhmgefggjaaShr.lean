/-
  The mathematics of shares: the number of states of a symbol is close to its share; symbols with a share below 1 have one state. No condition beyond those that each theorem states.
-/
import Derived.Test.YtkojdhmgefggjaaWho
namespace Go.Proofs.Ytkojdhmgefggjaa

theorem sm_lin (a b : Nat → Int) (T : Int) (U : List Nat) : sm (fun i => a i - b i * T) U = sm a U - sm b U * T := by
  induction U with
  | nil => simp [sm]
  | cons i U ih => rw [sm_cons, sm_cons, sm_cons, ih, Int.add_mul]; omega
theorem sm_nonpos {f : Nat → Int} {U : List Nat} (h : ∀ i ∈ U, f i ≤ 0) : sm f U ≤ 0 := by
  induction U with
  | nil => simp [sm]
  | cons i U ih =>
    rw [sm_cons]
    have h1 := h i List.mem_cons_self
    have h2 := ih (fun j hj => h j (List.mem_cons_of_mem _ hj))
    omega
theorem sm_le {f g : Nat → Int} {U : List Nat} (h : ∀ i ∈ U, f i ≤ g i) : sm f U ≤ sm g U := by
  induction U with
  | nil => simp [sm]
  | cons i U ih =>
    rw [sm_cons, sm_cons]
    have h1 := h i List.mem_cons_self
    have h2 := ih (fun j hj => h j (List.mem_cons_of_mem _ hj))
    omega
theorem sm_mul (f : Nat → Int) (c : Int) (U : List Nat) : sm (fun i => f i * c) U = sm f U * c := by
  induction U with
  | nil => simp [sm]
  | cons i U ih => rw [sm_cons, sm_cons, ih, Int.add_mul]
theorem sm_shr (k : List Nat) (s : Nat) : sm (shr k s) (usy k) = (tot k : Int) * (s : Int) := by
  rw [← sm_all, ← sm_mul]
  exact sm_congr (fun i _ => Int.natCast_mul _ _)

/-- What is always true of a used symbol's states. -/
structure Cl (T : Int) (sh st : Int) : Prop where
  one : 1 ≤ st
  hi : (st - 1) * T < sh
  rare : sh < T → st = 1

theorem cl_up {U : List Nat} {sh : Nat → Int} {T s : Int} (hT : 0 < T) (hU : U ≠ []) (hn : U.Nodup) (hs : sm sh U = T * s) (n : Nat) : ∀ st : Nat → Int, sm st U + n = s → (∀ i ∈ U, Cl T (sh i) (st i)) → ∀ i ∈ U, Cl T (sh i) (upN sh T U n st i) := by
  induction n with
  | zero => exact fun st _ h => h
  | succ n ih =>
    intro st hsum h
    obtain ⟨b, hb, hp⟩ := up_pick (sh := sh) (t := T) (st := st) hU
    have e1 : go1 1 upOk upKf sh T U st = fun i => if i = b then st i + 1 else st i := go1_of hp
    have hkey : 0 < sh b - st b * T := by
      have hm := (pick_some hp).2.2
      rcases Int.lt_or_le 0 (sh b - st b * T) with h1 | h1
      · exact h1
      · exfalso
        have h2 : sm (fun i => sh i - st i * T) U ≤ 0 := sm_nonpos (fun i hi => by
          have := hm i hi rfl
          simp only [upKf] at this
          omega)
        rw [sm_lin, hs] at h2
        have h3 : sm st U = s - (n + 1 : Nat) := by omega
        rw [h3, Int.sub_mul, Int.mul_comm T s] at h2
        have h4 : 0 < ((n + 1 : Nat) : Int) * T := Int.mul_pos (by omega) hT
        omega
    show ∀ i ∈ U, Cl T (sh i) (upN sh T U n (go1 1 upOk upKf sh T U st) i)
    refine ih _ ?_ ?_
    · rw [e1, sm_upd hn hb]; omega
    · intro i hi
      rw [e1]
      show Cl T (sh i) (if i = b then st i + 1 else st i)
      have hc := h i hi
      split
      · next e =>
        subst e
        refine ⟨by have := hc.one; omega, by rw [Int.add_sub_cancel]; omega, fun hr => ?_⟩
        exfalso
        have h5 := Int.mul_le_mul_of_nonneg_right hc.one (show 0 ≤ T by omega)
        omega
      · exact hc
theorem cl_dn {U : List Nat} {sh : Nat → Int} {T : Int} (hT : 0 < T) (n : Nat) (st : Nat → Int) (h : ∀ i ∈ U, Cl T (sh i) (st i)) : ∀ i ∈ U, Cl T (sh i) (dnN sh T U n st i) := by
  refine goN_keeps (I := fun st => ∀ i ∈ U, Cl T (sh i) (st i)) (fun st b hI hp i hi => ?_) n st h
  have hok := (pick_some hp).1
  have hc := hI i hi
  show Cl T (sh i) (if i = b then st i + -1 else st i)
  split
  · next e =>
    subst e
    have h1 : 1 < st i := by simpa using hok
    refine ⟨by omega, ?_, fun hr => by have := hc.rare hr; omega⟩
    have h2 := hc.hi
    have h3 : (st i + -1 - 1) * T = (st i - 1) * T - T := by rw [show st i + -1 - 1 = (st i - 1) - 1 by omega, Int.sub_mul]; omega
    omega
  · exact hc
theorem cl_st0 {k : List Nat} {s i : Nat} (hs : 0 < s) (hT : 0 < tot k) (hc : 0 < cn k i) : Cl (tot k) (shr k s i) (st0 k s i) := by
  have hp : 0 < cn k i * s := Nat.mul_pos hc hs
  have hq := Nat.div_mul_le_self (cn k i * s) (tot k)
  unfold st0 shr
  rw [if_neg (by omega)]
  obtain ⟨q, hqe⟩ : ∃ q, cn k i * s / tot k = q := ⟨_, rfl⟩
  obtain ⟨X, hX⟩ : ∃ X, cn k i * s = X := ⟨_, rfl⟩
  rw [hqe] at hq ⊢
  rw [hX] at hq hp hqe ⊢
  by_cases h1 : q ≤ 1
  · rw [show max 1 q = 1 by omega]
    exact ⟨by omega, by simp; omega, fun _ => rfl⟩
  · rw [show max 1 q = q by omega]
    refine ⟨by omega, ?_, fun hr => ?_⟩
    · have h2 : ((q : Int) - 1) * (tot k : Int) = (q : Int) * (tot k : Int) - (tot k : Int) := by rw [Int.sub_mul]; omega
      rw [h2, ← Int.natCast_mul]
      omega
    · exfalso
      have : X / tot k = 0 := Nat.div_eq_of_lt (by omega)
      omega
theorem cl_fin {k : List Nat} {lg s : Nat} (hg : Gd k lg s) : ∀ i ∈ usy k, Cl (tot k) (shr k s i) (fin k s i) := by
  have hs : 0 < s := by rw [← hg.pow]; exact Nat.two_pow_pos lg
  have hT := nus_tot hg.pos
  have hU : usy k ≠ [] := fun e => by have := usy_len k; rw [e] at this; have := hg.pos; simp at *; omega
  have h0 : ∀ i ∈ usy k, Cl (tot k) (shr k s i) (st0 k s i) := fun i hi => cl_st0 hs hT (usy_mem.1 hi).2
  unfold fin
  refine cl_dn (by omega) _ _ ?_
  rcases Int.lt_or_le (lft k s) 0 with h | h
  · have e : (lft k s).toNat = 0 := by omega
    rw [e]
    exact h0
  · exact cl_up (by omega) hU (usy_nodup k) (sm_shr k s) _ _ (by unfold lft at h ⊢; omega) h0
/-- The states that a norm tells are the symbol's. -/
theorem sts_fin {k : List Nat} {lg s : Nat} (hg : Gd k lg s) {i : Nat} (hi : i ∈ usy k) : sts (nm k s i) = fin k s i := by
  have hc := cl_fin hg i hi
  have h2 := (usy_mem.1 hi).2
  by_cases h : cn k i * s < tot k
  · have e : nm k s i = -1 := by unfold nm; rw [if_neg (by omega), if_pos h]
    rw [e, hc.rare (by unfold shr; omega)]; rfl
  · have e : nm k s i = fin k s i := by unfold nm; rw [if_neg (by omega), if_neg h]
    rw [e]
    unfold sts
    rw [if_neg (by have := hc.one; omega)]

/-- Without rare symbols the states are not far below the share. -/
theorem lo_fin {k : List Nat} {lg s : Nat} (hg : Gd k lg s) (hr : ∀ i ∈ usy k, tot k ≤ cn k i * s) : ∀ i ∈ usy k, shr k s i < (fin k s i + 1) * (tot k : Int) := by
  have hT := nus_tot hg.pos
  have hq : ∀ i ∈ usy k, st0 k s i * (tot k : Int) ≤ shr k s i ∧ shr k s i < (st0 k s i + 1) * (tot k : Int) := fun i hi => by
    have h1 := hr i hi
    have h2 : 1 ≤ cn k i * s / tot k := (Nat.le_div_iff_mul_le hT).2 (by omega)
    have h3 := Nat.div_add_mod (cn k i * s) (tot k)
    have h4 := Nat.mod_lt (cn k i * s) hT
    unfold st0 shr
    rw [if_neg (by have := (usy_mem.1 hi).2; omega), show max 1 (cn k i * s / tot k) = cn k i * s / tot k by omega]
    obtain ⟨q, hqe⟩ : ∃ q, cn k i * s / tot k = q := ⟨_, rfl⟩
    rw [hqe] at h3 ⊢
    rw [Nat.mul_comm] at h3
    have h5 : (q : Int) * (tot k : Int) = ((q * tot k : Nat) : Int) := (Int.natCast_mul _ _).symm
    rw [Int.add_mul, h5]
    omega
  have hl : 0 ≤ lft k s := by
    have h1 : sm (fun i => st0 k s i * (tot k : Int)) (usy k) ≤ sm (shr k s) (usy k) := sm_le (fun i hi => (hq i hi).1)
    rw [sm_mul, sm_shr, Int.mul_comm (tot k : Int)] at h1
    have h2 := Int.le_of_mul_le_mul_right h1 (show (0 : Int) < (tot k : Int) by omega)
    unfold lft
    omega
  have e : (-(lft k s)).toNat = 0 := by omega
  unfold fin
  rw [e]
  show ∀ i ∈ usy k, shr k s i < (upN (shr k s) (tot k : Int) (usy k) (lft k s).toNat (st0 k s) i + 1) * (tot k : Int)
  refine goN_keeps (sg := 1) (ok := upOk) (kf := upKf) (I := fun st => ∀ i ∈ usy k, shr k s i < (st i + 1) * (tot k : Int)) (fun st b hI hp i hi => ?_) _ _ (fun i hi => (hq i hi).2)
  have h1 := hI i hi
  show shr k s i < ((if i = b then st i + 1 else st i) + 1) * (tot k : Int)
  split
  · rw [Int.add_mul (st i + 1)]; omega
  · exact h1

/-- The norms' states sum to the size. -/
theorem ssum_map (f : Nat → Int) (U : List Nat) : ssum (U.map f) = sm (fun i => sts (f i)) U := by
  unfold ssum sm
  rw [List.map_map]
  rfl
theorem sm_filter {f : Nat → Int} {p : Nat → Bool} {U : List Nat} (h : ∀ i ∈ U, p i = false → f i = 0) : sm f U = sm f (U.filter p) := by
  induction U with
  | nil => rfl
  | cons i U ih =>
    have h1 := ih (fun j hj => h j (List.mem_cons_of_mem _ hj))
    rw [sm_cons, h1]
    cases hp : p i with
    | true => rw [List.filter_cons_of_pos hp, sm_cons]
    | false =>
      rw [List.filter_cons_of_neg (by simp [hp]), h i List.mem_cons_self hp]
      omega
theorem usy_range {k : List Nat} (h : 0 < nus k) : (List.range (lst k + 1)).filter (fun i => decide (0 < cn k i)) = usy k := by
  have hl := lst_lt h
  have hu : ∀ i, lst k < i → cn k i = 0 := fun i hi => by
    rcases Nat.eq_zero_or_pos (cn k i) with h0 | h0
    · exact h0
    · exfalso
      have hk : i < k.length := by
        rcases Nat.lt_or_ge i k.length with h1 | h1
        · exact h1
        · unfold cn at h0; rw [List.getElem?_eq_none h1] at h0; simp at h0
      have := usy_le i (usy_mem.2 ⟨hk, h0⟩)
      omega
  obtain ⟨d, hd⟩ : ∃ d, k.length = lst k + 1 + d := ⟨k.length - (lst k + 1), by omega⟩
  unfold usy
  rw [hd]
  clear hd hl
  induction d with
  | zero => rfl
  | succ d ih =>
    rw [ih, show lst k + 1 + (d + 1) = (lst k + 1 + d) + 1 by omega, List.range_succ (n := lst k + 1 + d), List.filter_append]
    have : List.filter (fun i => decide (0 < cn k i)) [lst k + 1 + d] = [] := by
      rw [List.filter_cons_of_neg (by simp [hu (lst k + 1 + d) (by omega)])]
      rfl
    rw [this, List.append_nil]
theorem nrm_valid {k : List Nat} {lg s : Nat} (hg : Gd k lg s) {N : Nat} (hN : k.length = N) {most : Int} (hm : (lg : Int) ≤ most) : vt lg (nrm k s) N most = true := by
  have hl := lst_lt hg.pos
  have hlm := lst_mem hg.pos
  have hlen : (nrm k s).length = lst k + 1 := by simp [nrm]
  have hlog := hg.log
  have hnz : ∀ i ∈ usy k, nm k s i ≠ 0 := fun i hi e => by
    have h1 := sts_nm hg hi
    rw [e] at h1
    exact absurd h1 (by decide)
  rw [vt_of (by omega) hm (by omega) (by omega) (by omega)]
  · unfold fl
    rw [Bool.and_eq_true, decide_eq_true_iff]
    constructor
    · unfold okn nrm
      rw [List.all_eq_true]
      intro x hx
      obtain ⟨i, hi, rfl⟩ := List.mem_map.1 hx
      rw [decide_eq_true_iff]
      unfold nm
      split
      · omega
      · next h0 =>
        split
        · omega
        · have hiu : i ∈ usy k := usy_mem.2 ⟨by rw [List.mem_range] at hi; omega, by omega⟩
          have := (cl_fin hg i hiu).one
          omega
    · unfold nrm
      rw [ssum_map, sm_filter (p := fun i => decide (0 < cn k i)), usy_range hg.pos, sm_congr (fun i hi => sts_fin hg hi), fin_sum hg, Int.toNat_natCast, ← hg.pow]
      · exact Int.natCast_pow 2 lg
      · intro i _ hp
        have h0 : cn k i = 0 := by simpa using hp
        unfold nm
        rw [if_pos h0]
        rfl
  · rw [List.getLast?_eq_getElem?, hlen]
    unfold nrm
    rw [List.getElem?_map, show lst k + 1 - 1 = lst k by omega, List.getElem?_range (by omega)]
    intro e
    exact hnz _ hlm (Option.some.inj e)

end Go.Proofs.Ytkojdhmgefggjaa
