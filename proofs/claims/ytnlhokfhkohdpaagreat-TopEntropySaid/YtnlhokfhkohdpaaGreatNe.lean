/-
  A literal row; counts that have a normalized table.
  The mathematics of the consequences: order, shares, factors. No condition beyond those that each theorem states.
  The sum of the counts.
  The mathematics of shares: the number of states of a symbol is close to its share; symbols with a share below 1 have one state. No condition beyond those that each theorem states.
  Arguments that have a normalized table, as natural numbers.
  A recommended Log is one that the counts may have.
-/
import Derived.Test.YtnlhokfhkohdpaaGreatNd
import Derived.Test.YtnlhokfhkohdpaaGreatNc
import Derived.Test.YtnlhokfhkohdpaaGreatSb
namespace Go.Proofs.YtnlhokfhkohdpaaGreat.No
open Go.RowKit Go.Shelf

theorem lit_rv (W : World) (xs : List Value) (H : Nat) (hH : W.heap.size = H) : Rv (W.alloc (.cells xs.toArray 3)) (some ⟨H, 0, none⟩) xs := by
  subst hH
  intro j v hj
  refine ⟨_, rfl, ?_⟩
  have e : (Addr.add ⟨W.heap.size, 0, none⟩ j) = ⟨W.heap.size, j, none⟩ := by
    unfold Addr.add
    by_cases h0 : j = 0
    · rw [if_pos h0, h0]
    · rw [if_neg h0]; simp
  rw [e, cell_of_row _ _ j _ _ _ (World.alloc_heap_new W _)]
  simpa using hj

/-- Counts that have a normalized table. -/
structure Gd (k : List Nat) (lg s : Nat) : Prop where
  tot : tot k ≤ 1099511627776
  pos : 0 < nus k
  log : lg ≤ 9
  pow : 2 ^ lg = s
  use : nus k ≤ s
  len : k.length ≤ 1000000

end Go.Proofs.YtnlhokfhkohdpaaGreat.No

namespace Go.Proofs.YtnlhokfhkohdpaaGreat.No


/-- What a property that each step keeps says of the end. -/
theorem goN_keeps {sg : Int} {ok : Int → Bool} {kf : Int → Int} {sh : Nat → Int} {t : Int} {U : List Nat} {I : (Nat → Int) → Prop}
    (h : ∀ st b, I st → pick (fun i => ok (st i)) (fun i => kf (sh i - st i * t)) U = some b → I (fun i => if i = b then st i + sg else st i)) (n : Nat) : ∀ st, I st → I (goN sg ok kf sh t U n st) := by
  induction n with
  | zero => exact fun st hi => hi
  | succ n ih =>
    intro st hi
    show I (goN sg ok kf sh t U n (go1 sg ok kf sh t U st))
    refine ih _ ?_
    cases hb : pick (fun i => ok (st i)) (fun i => kf (sh i - st i * t)) U with
    | none => unfold go1; rw [hb]; exact hi
    | some b => rw [go1_of hb]; exact h st b hi hb

/-- A symbol with a smaller share never has more states. -/
def Ordd (U : List Nat) (sh st : Nat → Int) : Prop := ∀ i ∈ U, ∀ j ∈ U, sh i < sh j → st i ≤ st j

theorem ordd_up {U : List Nat} {sh : Nat → Int} {t : Int} {st : Nat → Int} {b : Nat} (h : Ordd U sh st) (hp : pick (fun i => upOk (st i)) (fun i => upKf (sh i - st i * t)) U = some b) : Ordd U sh (fun i => if i = b then st i + 1 else st i) := by
  obtain ⟨_, hb, hm⟩ := pick_some hp
  intro i hi j hj hs
  have h1 := h i hi j hj hs
  show (if i = b then st i + 1 else st i) ≤ (if j = b then st j + 1 else st j)
  by_cases e1 : i = b
  · by_cases e2 : j = b
    · rw [if_pos e1, if_pos e2]; omega
    · rw [if_pos e1, if_neg e2]
      by_cases h2 : st i < st j
      · omega
      · exfalso
        have h3 : st i = st j := by omega
        have h4 := hm j hj rfl
        subst e1
        simp only [upKf] at h4
        rw [h3] at h4
        omega
  · rw [if_neg e1]
    split <;> omega
theorem ordd_dn {U : List Nat} {sh : Nat → Int} {t : Int} {st : Nat → Int} {b : Nat} (h : Ordd U sh st) (hp : pick (fun i => dnOk (st i)) (fun i => dnKf (sh i - st i * t)) U = some b) : Ordd U sh (fun i => if i = b then st i + -1 else st i) := by
  obtain ⟨hok, hb, hm⟩ := pick_some hp
  intro i hi j hj hs
  have h1 := h i hi j hj hs
  show (if i = b then st i + -1 else st i) ≤ (if j = b then st j + -1 else st j)
  by_cases e2 : j = b
  · by_cases e1 : i = b
    · rw [if_pos e1, if_pos e2]; omega
    · rw [if_neg e1, if_pos e2]
      by_cases h2 : st i < st j
      · omega
      · exfalso
        have h3 : st i = st j := by omega
        subst e2
        have h4 := hm i hi (by show dnOk (st i) = true; rw [h3]; exact hok)
        simp only [dnKf] at h4
        rw [h3] at h4
        omega
  · rw [if_neg e2]
    split <;> omega

theorem shr_lt {k : List Nat} {s i j : Nat} (hs : 0 < s) : shr k s i < shr k s j ↔ cn k i < cn k j := by
  unfold shr
  constructor
  · intro h
    rcases Nat.lt_or_ge (cn k i) (cn k j) with h1 | h1
    · exact h1
    · have := Nat.mul_le_mul_right s h1
      omega
  · intro h
    have := Nat.mul_lt_mul_of_pos_right h hs
    omega
theorem st0_mono {k : List Nat} {s i j : Nat} (hi : 0 < cn k i) (h : cn k i ≤ cn k j) : st0 k s i ≤ st0 k s j := by
  unfold st0
  rw [if_neg (by omega), if_neg (by omega)]
  have := Nat.div_le_div_right (c := tot k) (Nat.mul_le_mul_right s h)
  omega
theorem fin_order {k : List Nat} {s : Nat} (hs : 0 < s) : Ordd (usy k) (shr k s) (fin k s) := by
  unfold fin
  refine goN_keeps (I := Ordd (usy k) (shr k s)) (fun st b hi hp => ordd_dn hi hp) _ _ ?_
  refine goN_keeps (I := Ordd (usy k) (shr k s)) (fun st b hi hp => ordd_up hi hp) _ _ ?_
  intro i hi j hj h
  rw [shr_lt hs] at h
  exact st0_mono (usy_mem.1 hi).2 (by omega)

/-- The number of states of each symbol. -/
theorem fin_pos {k : List Nat} {lg s : Nat} (hg : Gd k lg s) : ∀ i ∈ usy k, 1 ≤ fin k s i ∧ fin k s i ≤ 1024 := by
  have hs5 : s ≤ 512 := by rw [← hg.pow]; exact pow_le hg.log
  have hU : usy k ≠ [] := fun e => by have := usy_len k; rw [e] at this; have := hg.pos; simp at *; omega
  have hb := lft_bd k hs5 hg.use
  obtain ⟨h1, h2⟩ := upN_all (sh := shr k s) (t := (tot k : Int)) hU (usy_nodup k) (lft k s).toNat (st0 k s)
  have h3 := h2 1 512 (fun i hi => ⟨st0_pos (usy_mem.1 hi).2, (st0_bd k hs5 i).2⟩)
  have h4 : ((usy k).length : Int) + ((-(lft k s)).toNat : Int) ≤ sm (upN (shr k s) (tot k : Int) (usy k) (lft k s).toNat (st0 k s)) (usy k) := by
    rw [h1, usy_len]
    have := hg.use
    unfold lft
    unfold lft at hb
    omega
  obtain ⟨h5, h6⟩ := dnN_all (sh := shr k s) (t := (tot k : Int)) (usy_nodup k) (-(lft k s)).toNat _ h4
  intro i hi
  exact h6 1024 (fun j hj => by have := h3 j hj; omega) i hi
theorem fin_sum {k : List Nat} {lg s : Nat} (hg : Gd k lg s) : sm (fin k s) (usy k) = (s : Int) := by
  have hs5 : s ≤ 512 := by rw [← hg.pow]; exact pow_le hg.log
  have hU : usy k ≠ [] := fun e => by have := usy_len k; rw [e] at this; have := hg.pos; simp at *; omega
  obtain ⟨h1, _⟩ := upN_all (sh := shr k s) (t := (tot k : Int)) hU (usy_nodup k) (lft k s).toNat (st0 k s)
  have h4 : ((usy k).length : Int) + ((-(lft k s)).toNat : Int) ≤ sm (upN (shr k s) (tot k : Int) (usy k) (lft k s).toNat (st0 k s)) (usy k) := by
    rw [h1, usy_len]
    have := hg.use
    unfold lft
    omega
  obtain ⟨h5, _⟩ := dnN_all (sh := shr k s) (t := (tot k : Int)) (usy_nodup k) (-(lft k s)).toNat _ h4
  unfold fin
  show sm (dnN (shr k s) (tot k : Int) (usy k) (-(lft k s)).toNat (upN (shr k s) (tot k : Int) (usy k) (lft k s).toNat (st0 k s))) (usy k) = (s : Int)
  rw [h5, h1]
  unfold lft
  omega

theorem sts_nm {k : List Nat} {lg s : Nat} (hg : Gd k lg s) {i : Nat} (hi : i ∈ usy k) : 1 ≤ sts (nm k s i) := by
  have h1 := fin_pos hg i hi
  have h2 := (usy_mem.1 hi).2
  by_cases h : cn k i * s < tot k
  · have e : nm k s i = -1 := by unfold nm; rw [if_neg (by omega), if_pos h]
    rw [e]; decide
  · have e : nm k s i = fin k s i := by unfold nm; rw [if_neg (by omega), if_neg h]
    rw [e]
    unfold sts
    rw [if_neg (by omega)]
    omega
theorem sts_order {k : List Nat} {lg s : Nat} (hg : Gd k lg s) {i j : Nat} (hi : i < k.length) (hj : j < k.length) (h : cn k i < cn k j) : sts (nm k s i) ≤ sts (nm k s j) := by
  have hs : 0 < s := by rw [← hg.pow]; exact Nat.two_pow_pos lg
  have hju : j ∈ usy k := usy_mem.2 ⟨hj, by omega⟩
  have h1 := sts_nm hg hju
  by_cases h0 : cn k i = 0
  · have e : sts (nm k s i) = 0 := by unfold nm; rw [if_pos h0]; rfl
    omega
  · have hiu : i ∈ usy k := usy_mem.2 ⟨hi, by omega⟩
    by_cases hr : cn k i * s < tot k
    · have e : sts (nm k s i) = 1 := by unfold nm; rw [if_neg h0, if_pos hr]; rfl
      omega
    · have hm := Nat.mul_lt_mul_of_pos_right h hs
      have h2 := fin_pos hg i hiu
      have h3 := fin_pos hg j hju
      have e1 : sts (nm k s i) = fin k s i := by unfold nm; rw [if_neg h0, if_neg hr]; unfold sts; rw [if_neg (by omega)]
      have e2 : sts (nm k s j) = fin k s j := by unfold nm; rw [if_neg (by omega), if_neg (by omega)]; unfold sts; rw [if_neg (by omega)]
      rw [e1, e2]
      exact fin_order hs i hiu j hju ((shr_lt hs).2 h)

end Go.Proofs.YtnlhokfhkohdpaaGreat.No

namespace Go.Proofs.YtnlhokfhkohdpaaGreat.No


theorem sm_cn {k : List Nat} {i : Nat} (h : i ≤ k.length) : sm (fun i => (cn k i : Int)) (usi k i) = (tot (k.take i) : Int) := by
  induction i with
  | zero => simp [usi, sm, tot]
  | succ i ih =>
    obtain ⟨x, hx⟩ : ∃ x, k[i]? = some x := ⟨_, List.getElem?_eq_getElem (by omega)⟩
    have hc : cn k i = x := by unfold cn; rw [hx]; rfl
    rw [usi_succ, sm_append, ih (by omega), take_succ_get hx, tot_append, hc]
    by_cases h0 : 0 < x
    · rw [if_pos h0, sm_cons, sm_nil, hc]; simp [tot]
    · rw [if_neg h0, sm_nil]; simp [tot]; omega
theorem sm_all (k : List Nat) : sm (fun i => (cn k i : Int)) (usy k) = (tot k : Int) := by
  have := sm_cn (k := k) (Nat.le_refl _)
  rwa [List.take_length] at this
section
variable {k : List Nat} {s : Nat}
end

end Go.Proofs.YtnlhokfhkohdpaaGreat.No

namespace Go.Proofs.YtnlhokfhkohdpaaGreat.No


theorem sm_lin (a b : Nat → Int) (T : Int) (U : List Nat) : sm (fun i => a i - b i * T) U = sm a U - sm b U * T := by
  induction U with
  | nil => simp [sm]
  | cons i U ih => rw [sm_cons, sm_cons, sm_cons, ih, Int.add_mul]; omega
theorem sm_nonpos {f : Nat → Int} {U : List Nat} (h : ∀ i ∈ U, f i ≤ 0) : sm f U ≤ 0 := by
  induction U with
  | nil => simp [sm]
  | cons i U ih =>
    rw [sm_cons]
    have h1 := h i List.mem_cons_self
    have h2 := ih (fun j hj => h j (List.mem_cons_of_mem _ hj))
    omega
theorem sm_le {f g : Nat → Int} {U : List Nat} (h : ∀ i ∈ U, f i ≤ g i) : sm f U ≤ sm g U := by
  induction U with
  | nil => simp [sm]
  | cons i U ih =>
    rw [sm_cons, sm_cons]
    have h1 := h i List.mem_cons_self
    have h2 := ih (fun j hj => h j (List.mem_cons_of_mem _ hj))
    omega
theorem sm_mul (f : Nat → Int) (c : Int) (U : List Nat) : sm (fun i => f i * c) U = sm f U * c := by
  induction U with
  | nil => simp [sm]
  | cons i U ih => rw [sm_cons, sm_cons, ih, Int.add_mul]
theorem sm_shr (k : List Nat) (s : Nat) : sm (shr k s) (usy k) = (tot k : Int) * (s : Int) := by
  rw [← sm_all, ← sm_mul]
  exact sm_congr (fun i _ => Int.natCast_mul _ _)

/-- What is always true of a used symbol's states. -/
structure Cl (T : Int) (sh st : Int) : Prop where
  one : 1 ≤ st
  hi : (st - 1) * T < sh
  rare : sh < T → st = 1

theorem cl_up {U : List Nat} {sh : Nat → Int} {T s : Int} (hT : 0 < T) (hU : U ≠ []) (hn : U.Nodup) (hs : sm sh U = T * s) (n : Nat) : ∀ st : Nat → Int, sm st U + n = s → (∀ i ∈ U, Cl T (sh i) (st i)) → ∀ i ∈ U, Cl T (sh i) (upN sh T U n st i) := by
  induction n with
  | zero => exact fun st _ h => h
  | succ n ih =>
    intro st hsum h
    obtain ⟨b, hb, hp⟩ := up_pick (sh := sh) (t := T) (st := st) hU
    have e1 : go1 1 upOk upKf sh T U st = fun i => if i = b then st i + 1 else st i := go1_of hp
    have hkey : 0 < sh b - st b * T := by
      have hm := (pick_some hp).2.2
      rcases Int.lt_or_le 0 (sh b - st b * T) with h1 | h1
      · exact h1
      · exfalso
        have h2 : sm (fun i => sh i - st i * T) U ≤ 0 := sm_nonpos (fun i hi => by
          have := hm i hi rfl
          simp only [upKf] at this
          omega)
        rw [sm_lin, hs] at h2
        have h3 : sm st U = s - (n + 1 : Nat) := by omega
        rw [h3, Int.sub_mul, Int.mul_comm T s] at h2
        have h4 : 0 < ((n + 1 : Nat) : Int) * T := Int.mul_pos (by omega) hT
        omega
    show ∀ i ∈ U, Cl T (sh i) (upN sh T U n (go1 1 upOk upKf sh T U st) i)
    refine ih _ ?_ ?_
    · rw [e1, sm_upd hn hb]; omega
    · intro i hi
      rw [e1]
      show Cl T (sh i) (if i = b then st i + 1 else st i)
      have hc := h i hi
      split
      · next e =>
        subst e
        refine ⟨by have := hc.one; omega, by rw [Int.add_sub_cancel]; omega, fun hr => ?_⟩
        exfalso
        have h5 := Int.mul_le_mul_of_nonneg_right hc.one (show 0 ≤ T by omega)
        omega
      · exact hc
theorem cl_dn {U : List Nat} {sh : Nat → Int} {T : Int} (hT : 0 < T) (n : Nat) (st : Nat → Int) (h : ∀ i ∈ U, Cl T (sh i) (st i)) : ∀ i ∈ U, Cl T (sh i) (dnN sh T U n st i) := by
  refine goN_keeps (I := fun st => ∀ i ∈ U, Cl T (sh i) (st i)) (fun st b hI hp i hi => ?_) n st h
  have hok := (pick_some hp).1
  have hc := hI i hi
  show Cl T (sh i) (if i = b then st i + -1 else st i)
  split
  · next e =>
    subst e
    have h1 : 1 < st i := by simpa using hok
    refine ⟨by omega, ?_, fun hr => by have := hc.rare hr; omega⟩
    have h2 := hc.hi
    have h3 : (st i + -1 - 1) * T = (st i - 1) * T - T := by rw [show st i + -1 - 1 = (st i - 1) - 1 by omega, Int.sub_mul]; omega
    omega
  · exact hc
theorem cl_st0 {k : List Nat} {s i : Nat} (hs : 0 < s) (hT : 0 < tot k) (hc : 0 < cn k i) : Cl (tot k) (shr k s i) (st0 k s i) := by
  have hp : 0 < cn k i * s := Nat.mul_pos hc hs
  have hq := Nat.div_mul_le_self (cn k i * s) (tot k)
  unfold st0 shr
  rw [if_neg (by omega)]
  obtain ⟨q, hqe⟩ : ∃ q, cn k i * s / tot k = q := ⟨_, rfl⟩
  obtain ⟨X, hX⟩ : ∃ X, cn k i * s = X := ⟨_, rfl⟩
  rw [hqe] at hq ⊢
  rw [hX] at hq hp hqe ⊢
  by_cases h1 : q ≤ 1
  · rw [show max 1 q = 1 by omega]
    exact ⟨by omega, by simp; omega, fun _ => rfl⟩
  · rw [show max 1 q = q by omega]
    refine ⟨by omega, ?_, fun hr => ?_⟩
    · have h2 : ((q : Int) - 1) * (tot k : Int) = (q : Int) * (tot k : Int) - (tot k : Int) := by rw [Int.sub_mul]; omega
      rw [h2, ← Int.natCast_mul]
      omega
    · exfalso
      have : X / tot k = 0 := Nat.div_eq_of_lt (by omega)
      omega
theorem cl_fin {k : List Nat} {lg s : Nat} (hg : Gd k lg s) : ∀ i ∈ usy k, Cl (tot k) (shr k s i) (fin k s i) := by
  have hs : 0 < s := by rw [← hg.pow]; exact Nat.two_pow_pos lg
  have hT := nus_tot hg.pos
  have hU : usy k ≠ [] := fun e => by have := usy_len k; rw [e] at this; have := hg.pos; simp at *; omega
  have h0 : ∀ i ∈ usy k, Cl (tot k) (shr k s i) (st0 k s i) := fun i hi => cl_st0 hs hT (usy_mem.1 hi).2
  unfold fin
  refine cl_dn (by omega) _ _ ?_
  rcases Int.lt_or_le (lft k s) 0 with h | h
  · have e : (lft k s).toNat = 0 := by omega
    rw [e]
    exact h0
  · exact cl_up (by omega) hU (usy_nodup k) (sm_shr k s) _ _ (by unfold lft at h ⊢; omega) h0
/-- The states that a norm tells are the symbol's. -/
theorem sts_fin {k : List Nat} {lg s : Nat} (hg : Gd k lg s) {i : Nat} (hi : i ∈ usy k) : sts (nm k s i) = fin k s i := by
  have hc := cl_fin hg i hi
  have h2 := (usy_mem.1 hi).2
  by_cases h : cn k i * s < tot k
  · have e : nm k s i = -1 := by unfold nm; rw [if_neg (by omega), if_pos h]
    rw [e, hc.rare (by unfold shr; omega)]; rfl
  · have e : nm k s i = fin k s i := by unfold nm; rw [if_neg (by omega), if_neg h]
    rw [e]
    unfold sts
    rw [if_neg (by have := hc.one; omega)]

/-- Without rare symbols the states are not far below the share. -/
theorem lo_fin {k : List Nat} {lg s : Nat} (hg : Gd k lg s) (hr : ∀ i ∈ usy k, tot k ≤ cn k i * s) : ∀ i ∈ usy k, shr k s i < (fin k s i + 1) * (tot k : Int) := by
  have hT := nus_tot hg.pos
  have hq : ∀ i ∈ usy k, st0 k s i * (tot k : Int) ≤ shr k s i ∧ shr k s i < (st0 k s i + 1) * (tot k : Int) := fun i hi => by
    have h1 := hr i hi
    have h2 : 1 ≤ cn k i * s / tot k := (Nat.le_div_iff_mul_le hT).2 (by omega)
    have h3 := Nat.div_add_mod (cn k i * s) (tot k)
    have h4 := Nat.mod_lt (cn k i * s) hT
    unfold st0 shr
    rw [if_neg (by have := (usy_mem.1 hi).2; omega), show max 1 (cn k i * s / tot k) = cn k i * s / tot k by omega]
    obtain ⟨q, hqe⟩ : ∃ q, cn k i * s / tot k = q := ⟨_, rfl⟩
    rw [hqe] at h3 ⊢
    rw [Nat.mul_comm] at h3
    have h5 : (q : Int) * (tot k : Int) = ((q * tot k : Nat) : Int) := (Int.natCast_mul _ _).symm
    rw [Int.add_mul, h5]
    omega
  have hl : 0 ≤ lft k s := by
    have h1 : sm (fun i => st0 k s i * (tot k : Int)) (usy k) ≤ sm (shr k s) (usy k) := sm_le (fun i hi => (hq i hi).1)
    rw [sm_mul, sm_shr, Int.mul_comm (tot k : Int)] at h1
    have h2 := Int.le_of_mul_le_mul_right h1 (show (0 : Int) < (tot k : Int) by omega)
    unfold lft
    omega
  have e : (-(lft k s)).toNat = 0 := by omega
  unfold fin
  rw [e]
  show ∀ i ∈ usy k, shr k s i < (upN (shr k s) (tot k : Int) (usy k) (lft k s).toNat (st0 k s) i + 1) * (tot k : Int)
  refine goN_keeps (sg := 1) (ok := upOk) (kf := upKf) (I := fun st => ∀ i ∈ usy k, shr k s i < (st i + 1) * (tot k : Int)) (fun st b hI hp i hi => ?_) _ _ (fun i hi => (hq i hi).2)
  have h1 := hI i hi
  show shr k s i < ((if i = b then st i + 1 else st i) + 1) * (tot k : Int)
  split
  · rw [Int.add_mul (st i + 1)]; omega
  · exact h1

/-- The norms' states sum to the size. -/
theorem ssum_map (f : Nat → Int) (U : List Nat) : ssum (U.map f) = sm (fun i => sts (f i)) U := by
  unfold ssum sm
  rw [List.map_map]
  rfl
theorem sm_filter {f : Nat → Int} {p : Nat → Bool} {U : List Nat} (h : ∀ i ∈ U, p i = false → f i = 0) : sm f U = sm f (U.filter p) := by
  induction U with
  | nil => rfl
  | cons i U ih =>
    have h1 := ih (fun j hj => h j (List.mem_cons_of_mem _ hj))
    rw [sm_cons, h1]
    cases hp : p i with
    | true => rw [List.filter_cons_of_pos hp, sm_cons]
    | false =>
      rw [List.filter_cons_of_neg (by simp [hp]), h i List.mem_cons_self hp]
      omega
theorem usy_range {k : List Nat} (h : 0 < nus k) : (List.range (lst k + 1)).filter (fun i => decide (0 < cn k i)) = usy k := by
  have hl := lst_lt h
  have hu : ∀ i, lst k < i → cn k i = 0 := fun i hi => by
    rcases Nat.eq_zero_or_pos (cn k i) with h0 | h0
    · exact h0
    · exfalso
      have hk : i < k.length := by
        rcases Nat.lt_or_ge i k.length with h1 | h1
        · exact h1
        · unfold cn at h0; rw [List.getElem?_eq_none h1] at h0; simp at h0
      have := usy_le i (usy_mem.2 ⟨hk, h0⟩)
      omega
  obtain ⟨d, hd⟩ : ∃ d, k.length = lst k + 1 + d := ⟨k.length - (lst k + 1), by omega⟩
  unfold usy
  rw [hd]
  clear hd hl
  induction d with
  | zero => rfl
  | succ d ih =>
    rw [ih, show lst k + 1 + (d + 1) = (lst k + 1 + d) + 1 by omega, List.range_succ (n := lst k + 1 + d), List.filter_append]
    have : List.filter (fun i => decide (0 < cn k i)) [lst k + 1 + d] = [] := by
      rw [List.filter_cons_of_neg (by simp [hu (lst k + 1 + d) (by omega)])]
      rfl
    rw [this, List.append_nil]
theorem nrm_valid {k : List Nat} {lg s : Nat} (hg : Gd k lg s) {N : Nat} (hN : k.length = N) {most : Int} (hm : (lg : Int) ≤ most) : vt lg (nrm k s) N most = true := by
  have hl := lst_lt hg.pos
  have hlm := lst_mem hg.pos
  have hlen : (nrm k s).length = lst k + 1 := by simp [nrm]
  have hlog := hg.log
  have hnz : ∀ i ∈ usy k, nm k s i ≠ 0 := fun i hi e => by
    have h1 := sts_nm hg hi
    rw [e] at h1
    exact absurd h1 (by decide)
  rw [vt_of (by omega) hm (by omega) (by omega) (by omega)]
  · unfold fl
    rw [Bool.and_eq_true, decide_eq_true_iff]
    constructor
    · unfold okn nrm
      rw [List.all_eq_true]
      intro x hx
      obtain ⟨i, hi, rfl⟩ := List.mem_map.1 hx
      rw [decide_eq_true_iff]
      unfold nm
      split
      · omega
      · next h0 =>
        split
        · omega
        · have hiu : i ∈ usy k := usy_mem.2 ⟨by rw [List.mem_range] at hi; omega, by omega⟩
          have := (cl_fin hg i hiu).one
          omega
    · unfold nrm
      rw [ssum_map, sm_filter (p := fun i => decide (0 < cn k i)), usy_range hg.pos, sm_congr (fun i hi => sts_fin hg hi), fin_sum hg, Int.toNat_natCast, ← hg.pow]
      · exact Int.natCast_pow 2 lg
      · intro i _ hp
        have h0 : cn k i = 0 := by simpa using hp
        unfold nm
        rw [if_pos h0]
        rfl
  · rw [List.getLast?_eq_getElem?, hlen]
    unfold nrm
    rw [List.getElem?_map, show lst k + 1 - 1 = lst k by omega, List.getElem?_range (by omega)]
    intro e
    exact hnz _ hlm (Option.some.inj e)

end Go.Proofs.YtnlhokfhkohdpaaGreat.No

namespace Go.Proofs.YtnlhokfhkohdpaaGreat.No
open Go.RowKit Go.Shelf

/-- Arguments that have a normalized table, as natural numbers. -/
theorem gd_of {l : List Int} {z : Int} (hg : good l z) (hlen : l.length ≤ 1000000) : ∃ (k : List Nat) (lg : Nat), l = k.map (fun n : Nat => (n : Int)) ∧ k.length = l.length ∧ z = (lg : Int) ∧ Gd k lg (2 ^ lg) := by
  obtain ⟨hm, h0, h9, hu⟩ := hg
  obtain ⟨hf, _, hus, hp⟩ := may_fine hm
  refine ⟨l.map Int.toNat, z.toNat, fine_nats hf, by simp, by omega, ⟨fine_tot hf, hp, by omega, rfl, by rw [← hus]; exact hu, by simpa using hlen⟩⟩

end Go.Proofs.YtnlhokfhkohdpaaGreat.No

namespace Go.Proofs.YtnlhokfhkohdpaaGreat.No

/-- A recommended Log is one that the counts may have; where there is none, the counts have no table. -/
theorem rcl_cases (l : List Int) (z : Int) : (rcl l z = -1 ∧ ¬ good l z) ∨ (good l (rcl l z) ∧ rcl l z ≤ z) := by
  unfold rcl
  split
  · next h =>
    left
    refine ⟨rfl, fun hg => ?_⟩
    obtain ⟨h1, h2, h3, h4⟩ := hg
    have hm : min z 9 = z := by omega
    rw [hm] at h
    rcases h with h | h | h
    · omega
    · rw [h1] at h; cases h
    · omega
  · next h =>
    right
    have hm : may l = true := by
      cases hh : may l with
      | true => rfl
      | false => exact absurd (.inr (.inl hh)) h
    have h0 : 0 ≤ min z 9 := by
      rcases Int.lt_or_le (min z 9) 0 with h1 | h1
      · exact absurd (.inl h1) h
      · exact h1
    have hu : us l ≤ 2 ^ (min z 9).toNat := by
      rcases Nat.lt_or_ge (2 ^ (min z 9).toNat) (us l) with h1 | h1
      · exact absurd (.inr (.inr h1)) h
      · exact h1
    split
    · next h1 => exact ⟨⟨hm, by omega, by omega, by rw [h1]; exact Nat.one_le_two_pow⟩, by omega⟩
    · next h1 =>
      have hus : 0 < us l := by unfold may at hm; simpa using hm
      have hb : us l ≤ 2 ^ blen (us l - 1) := by
        have h2 : us l - 1 ≠ 0 := by omega
        have := Nat.lt_log2_self (n := us l - 1)
        unfold blen
        rw [if_neg h2]
        omega
      obtain ⟨M, hM⟩ : ∃ M, (min z 9).toNat = M := ⟨_, rfl⟩
      obtain ⟨ba, hba⟩ : ∃ ba, blen (us l - 1) = ba := ⟨_, rfl⟩
      rw [hM] at hu
      rw [hba] at hb
      refine ⟨⟨hm, by omega, by omega, ?_⟩, by omega⟩
      rw [hba]
      rcases Nat.lt_or_ge M (min (min z 9) (max (ba : Int) ((blen (tl l) : Int) - 2))).toNat with h3 | h3
      · omega
      · by_cases h4 : ba ≤ (min (min z 9) (max (ba : Int) ((blen (tl l) : Int) - 2))).toNat
        · exact Nat.le_trans hb (Nat.pow_le_pow_right (by decide) h4)
        · have h5 : (min (min z 9) (max (ba : Int) ((blen (tl l) : Int) - 2))).toNat = M := by omega
          rw [h5]
          exact hu

end Go.Proofs.YtnlhokfhkohdpaaGreat.No
