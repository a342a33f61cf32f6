/-
  The mathematics of whole shares: counts that are norms without -1 have these norms. No condition beyond those that each theorem states.
-/
import Derived.Test.YtkojdhmgefggjaaTms
import Derived.Test.YtkojdhmgefggjaaMay
import Derived.Test.YtkojdhmgefggjaaRfm
namespace Go.Proofs.Ytkojdhmgefggjaa

theorem sm_cn {k : List Nat} {i : Nat} (h : i ≤ k.length) : sm (fun i => (cn k i : Int)) (usi k i) = (tot (k.take i) : Int) := by
  induction i with
  | zero => simp [usi, sm, tot]
  | succ i ih =>
    obtain ⟨x, hx⟩ : ∃ x, k[i]? = some x := ⟨_, List.getElem?_eq_getElem (by omega)⟩
    have hc : cn k i = x := by unfold cn; rw [hx]; rfl
    rw [usi_succ, sm_append, ih (by omega), take_succ_get hx, tot_append, hc]
    by_cases h0 : 0 < x
    · rw [if_pos h0, sm_cons, sm_nil, hc]; simp [tot]
    · rw [if_neg h0, sm_nil]; simp [tot]; omega
theorem sm_all (k : List Nat) : sm (fun i => (cn k i : Int)) (usy k) = (tot k : Int) := by
  have := sm_cn (k := k) (Nat.le_refl _)
  rwa [List.take_length] at this
theorem nus_le_tot (k : List Nat) : nus k ≤ tot k := by
  induction k with
  | nil => simp [nus, tot]
  | cons x k ih =>
    rw [show x :: k = [x] ++ k by rfl, nus_append, tot_append]
    have : nus [x] ≤ tot [x] := by
      unfold nus tot
      by_cases h : 0 < x
      · simp [h]; omega
      · simp [h]
    omega
section
variable {k : List Nat} {s : Nat}
theorem whole_st0 (hT : tot k = s) (hs : 0 < s) (i : Nat) : st0 k s i = (cn k i : Int) := by
  unfold st0
  rw [hT, Nat.mul_div_cancel _ hs]
  split
  · next h => rw [h]; rfl
  · omega
theorem whole_fin (hT : tot k = s) (hs : 0 < s) (i : Nat) : fin k s i = (cn k i : Int) := by
  have h1 : lft k s = 0 := by
    unfold lft
    rw [sm_congr (fun i _ => whole_st0 hT hs i), sm_all, hT]
    omega
  unfold fin
  rw [h1]
  exact whole_st0 hT hs i
theorem whole_nm (hT : tot k = s) (hs : 0 < s) (i : Nat) : nm k s i = (cn k i : Int) := by
  unfold nm
  split
  · next h => rw [h]; rfl
  · next h =>
    rw [if_neg, whole_fin hT hs]
    rw [hT]
    have := Nat.mul_le_mul_right s (show 1 ≤ cn k i by omega)
    omega
theorem whole_lst {m : Nat} (hm : k.length = m + 1) (h : 0 < cn k m) : lst k = m := by
  rw [← lsi_all, hm]
  exact lsi_yes h
theorem whole_nrm {m : Nat} (hT : tot k = s) (hs : 0 < s) (hm : k.length = m + 1) (h : 0 < cn k m) : nrm k s = k.map (fun n : Nat => (n : Int)) := by
  unfold nrm
  rw [whole_lst hm h, ← hm]
  refine List.ext_getElem? fun j => ?_
  rcases Nat.lt_or_ge j k.length with h1 | h1
  · rw [List.getElem?_map, List.getElem?_range h1, List.getElem?_map, List.getElem?_eq_getElem h1]
    show some (nm k s j) = some ((k[j] : Nat) : Int)
    rw [whole_nm hT hs]
    unfold cn
    rw [List.getElem?_eq_getElem h1]
    rfl
  · rw [List.getElem?_eq_none (by simpa using h1), List.getElem?_eq_none (by simpa using h1)]
end

theorem sts_le {l : List Int} (h : okn l = true) {x : Int} (hx : x ∈ l) : sts x ≤ ssum l := by
  induction l with
  | nil => cases hx
  | cons y l ih =>
    unfold okn at h
    rw [List.all_cons, Bool.and_eq_true, decide_eq_true_iff] at h
    have h1 : okn l = true := h.2
    have h2 := ssum_pos h1
    have h3 := (sts_bd h.1).1
    rw [ssum_cons]
    rcases List.mem_cons.1 hx with rfl | hx
    · omega
    · have := ih h1 hx; omega
theorem ssum_nats {l : List Int} (h : ∀ x ∈ l, 0 ≤ x) : ssum l = (tot (l.map Int.toNat) : Int) := by
  induction l with
  | nil => simp [ssum, tot]
  | cons y l ih =>
    rw [ssum_cons, List.map_cons, tot_cons, ih (fun x hx => h x (List.mem_cons_of_mem _ hx))]
    have := h y List.mem_cons_self
    unfold sts
    rw [if_neg (by omega)]
    omega
theorem vt_yes {y : Int} {l : List Int} {sy lg : Int} (h : vt y l sy lg = true) : 0 ≤ y ∧ y ≤ 9 ∧ 1 ≤ l.length ∧ l.getLast? ≠ some 0 ∧ okn l = true ∧ ssum l = 2 ^ y.toNat := by
  unfold vt fl at h
  simp only [Bool.and_eq_true, decide_eq_true_iff] at h
  exact ⟨h.1.1.1.1.1.1, h.1.1.1.1.2, h.1.1.1.2, h.1.2, h.2.1, h.2.2⟩

/-- What Normalize finds in multiplied norms. -/
theorem whole_of {y : Int} {l : List Int} {t : Nat} (hv : vt y l 300 9 = true) (h0 : ∀ x ∈ l, 0 ≤ x) (hl : l.length ≤ 300) (ht : 1 ≤ t) (ht2 : t ≤ 1000000) :
    ∃ lg, y = ((lg : Nat) : Int) ∧ Gd (mul t (l.map Int.toNat)) lg (2 ^ lg) ∧ nrm (mul t (l.map Int.toNat)) (2 ^ lg) = l ∧ lst (mul t (l.map Int.toNat)) + 1 = l.length := by
  obtain ⟨h1, h2, h3, h4, h5, h6⟩ := vt_yes hv
  obtain ⟨lg, rfl⟩ : ∃ lg : Nat, y = (lg : Int) := ⟨y.toNat, by omega⟩
  have hs : 0 < 2 ^ lg := Nat.two_pow_pos lg
  have hs5 : 2 ^ lg ≤ 512 := pow_le (by omega)
  have hT : tot (l.map Int.toNat) = 2 ^ lg := by
    rw [ssum_nats h0, Int.toNat_natCast] at h6
    have e : ((2 : Int) ^ lg) = ((2 ^ lg : Nat) : Int) := (Int.natCast_pow 2 lg).symm
    rw [e] at h6
    exact Int.ofNat.inj h6
  obtain ⟨m, hm⟩ : ∃ m, l.length = m + 1 := ⟨l.length - 1, by omega⟩
  have hkm : (l.map Int.toNat).length = m + 1 := by simpa using hm
  have hlast : 0 < cn (l.map Int.toNat) m := by
    obtain ⟨x, hx⟩ : ∃ x, l[m]? = some x := ⟨_, List.getElem?_eq_getElem (by omega)⟩
    have hgl : l.getLast? = some x := by rw [List.getLast?_eq_getElem?, hm]; exact hx
    have hx0 := h0 x (List.mem_of_getElem? hx)
    have hxn : x ≠ 0 := fun e => h4 (by rw [hgl, e])
    unfold cn
    rw [List.getElem?_map, hx]
    show 0 < x.toNat
    omega
  have hback : (l.map Int.toNat).map (fun n : Nat => (n : Int)) = l := by
    rw [List.map_map]
    exact (List.map_congr_left (g := id) (fun x hx => by have := h0 x hx; simp; omega)).trans (List.map_id l)
  refine ⟨lg, rfl, ⟨?_, ?_, by omega, rfl, ?_, ?_⟩, ?_, ?_⟩
  · rw [mul_tot, hT]
    have := Nat.mul_le_mul hs5 ht2
    omega
  · rw [mul_nus (by omega), ← usy_len]
    refine List.length_pos_of_mem (a := m) (usy_mem.2 ⟨by omega, hlast⟩)
  · rw [mul_nus (by omega)]
    have := nus_le_tot (l.map Int.toNat)
    omega
  · rw [mul_len]; simp; omega
  · rw [mul_nrm (by omega), whole_nrm hT hs hkm hlast, hback]
  · rw [mul_lst (by omega), whole_lst hkm hlast, hm]

end Go.Proofs.Ytkojdhmgefggjaa
