/-
  The mathematics of SpreadRare and SpreadOrder: which symbols the highest indices and the other indices have; the symbols in the order of the visits. Conditions: those that each theorem states.
-/
import Derived.Test.YtpiebkkaileocaaCnt
namespace Go.Proofs.Ytpiebkkaileocaa

theorem go_from (vs : List Nat) : ∀ {m : Nat → Option Nat} {r : List Nat} {i x : Nat}, m i = none → go vs m r i = some x → x ∈ r := by
  induction vs with
  | nil => intro m r i x h h2; rw [show go [] m r i = m i from rfl, h] at h2; cases h2
  | cons v vs ih =>
    intro m r i x h h2
    cases hv : m v with
    | some u => rw [go_taken hv] at h2; exact ih h h2
    | none =>
      cases r with
      | nil => rw [go_empty hv] at h2; exact ih h h2
      | cons u r =>
        rw [go_free hv] at h2
        by_cases hi : i = v
        · subst hi
          rw [go_keep vs (upd_same m i u)] at h2
          cases h2
          simp
        · exact List.mem_cons_of_mem _ (ih (by rw [upd_other _ _ hi]; exact h) h2)
theorem go_nth (vs : List Nat) : ∀ {m : Nat → Option Nat} {r : List Nat}, vs.Nodup → (∀ v ∈ vs, m v = none) → r.length = vs.length → ∀ {j v : Nat}, vs[j]? = some v → go vs m r v = r[j]? := by
  induction vs with
  | nil => intro m r _ _ _ j v h; cases h
  | cons u vs ih =>
    intro m r hn hm hl j v h
    cases r with
    | nil => simp at hl
    | cons x r =>
      rw [go_free (hm u (by simp))]
      cases j with
      | zero =>
        simp at h
        subst h
        rw [go_keep vs (upd_same m u x)]
        rfl
      | succ j =>
        rw [List.getElem?_cons_succ] at h ⊢
        refine ih (List.nodup_cons.1 hn).2 (fun v hv => ?_) (by simpa using hl) h
        rw [upd_other _ _ (fun e => (List.nodup_cons.1 hn).1 (by rw [← e]; exact hv))]
        exact hm v (by simp [hv])
/-- The rare symbols have the highest indices. -/
theorem spl_rare {y s : Nat} {l : List Int} (hv : Vt y l) (hse : 2 ^ y = s) {r i : Nat} (h : (rs 0 l)[r]? = some i) : (spl s l)[s - 1 - r]? = some i := by
  have hr : r < (rs 0 l).length := (List.getElem?_eq_some_iff.1 h).1
  have ht := hv.total
  rw [hse] at ht
  rw [spl_get l (by omega)]
  have : fin s l (s - 1 - r) = some i := by
    unfold fin
    refine go_keep _ ?_
    unfold m0
    rw [if_pos (by omega), show s - 1 - (s - 1 - r) = r by omega, h]
  rw [this]
  rfl
/-- The other indices have symbols with positive norms. -/
theorem spl_other {y s : Nat} {l : List Int} (hv : Vt y l) (hse : 2 ^ y = s) {k : Nat} (h : k < s - (rs 0 l).length) : ∃ x z, (spl s l)[k]? = some x ∧ l[x]? = some z ∧ 1 ≤ z := by
  obtain ⟨x, hx⟩ := hv.has (i := k) (by rw [hse]; omega)
  rw [hse] at hx
  have hm : m0 s (rs 0 l) k = none := by
    unfold m0
    rw [if_pos (by omega), List.getElem?_eq_none (by omega)]
  obtain ⟨z, h1, h2⟩ := ors_mem (go_from _ hm hx)
  rw [Nat.sub_zero] at h1
  refine ⟨x, z, ?_, h1, h2⟩
  rw [spl_get l (by omega), hx]
  rfl
theorem rs_at {l : List Int} {i : Nat} (h : l[i]? = some (-1)) : (rs 0 l)[(rs 0 (l.take i)).length]? = some i := by
  have h1 : rs 0 l = rs 0 (l.take (i + 1)) ++ rs (i + 1) (l.drop (i + 1)) := by
    have hl : i < l.length := (List.getElem?_eq_some_iff.1 h).1
    conv => lhs; rw [← List.take_append_drop (i + 1) l, rs_append]
    rw [Nat.zero_add, List.length_take, Nat.min_eq_left (by omega)]
  rw [h1, rs_step h, if_pos rfl, List.append_assoc, List.getElem?_append_right (Nat.le_refl _), Nat.sub_self]
  rfl
theorem rs_none {l : List Int} : ∀ i, (∀ x ∈ l, 0 ≤ x) → rs i l = [] := by
  induction l with
  | nil => intro i _; rfl
  | cons x l ih =>
    intro i h
    have := h x (by simp)
    simp only [rs]
    rw [if_neg (by omega)]
    exact ih (i + 1) (fun z hz => h z (by simp [hz]))
/-- Without rare symbols the visits give the states in order. -/
theorem spl_order {y s : Nat} {l : List Int} (hv : Vt y l) (hse : 2 ^ y = s) (h : ∀ x ∈ l, 0 ≤ x) : (ors 0 l).length = s ∧ ∀ j, j < s → ∃ x, (ors 0 l)[j]? = some x ∧ (spl s l)[vi s j]? = some x := by
  have hr := rs_none 0 h
  have ht := hv.total
  rw [hse, hr] at ht
  simp at ht
  refine ⟨ht, fun j hj => ?_⟩
  obtain ⟨x, hx⟩ : ∃ x, (ors 0 l)[j]? = some x := ⟨_, List.getElem?_eq_getElem (by omega)⟩
  refine ⟨x, hx, ?_⟩
  rw [spl_get l (vi_lt (by omega) j)]
  have hn := vis_nodup hv.log
  rw [hse] at hn
  have : fin s l (vi s j) = some x := by
    unfold fin
    rw [hr, m0_nil, go_nth (vis s) hn (fun _ _ => rfl) (by rw [vis_len]; exact ht) (vis_get hj), hx]
  rw [this]
  rfl

end Go.Proofs.Ytpiebkkaileocaa
