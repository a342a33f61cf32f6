/-
  Add and the reference's Add at any two lists of integers: the sums in new memory, or the error. Nothing that was there has changed. No condition.
-/
import Derived.Test.YtbbkmmdlpmpaeaaRfB
namespace Go.Proofs.Ytbbkmmdlpmpaeaa
open Go.RowKit

/-- The sums of two lists, where both and the sums are valid. -/
def asum (l m : List Int) : Option (List Nat) :=
  if ok l = true ∧ ok m = true ∧ ok ((radd (l.map Int.toNat) (m.map Int.toNat)).map (fun n : Nat => (n : Int))) = true then some (radd (l.map Int.toNat) (m.map Int.toNat)) else none

theorem toNats (k : List Nat) : (k.map (fun n : Nat => (n : Int))).map Int.toNat = k := by
  rw [List.map_map]; conv => rhs; rw [← List.map_id k]
  exact List.map_congr_left fun x _ => by simp
theorem asum_nats {k m : List Nat} (hv : Vld k) (hv2 : Vld m) : asum (k.map (fun n : Nat => (n : Int))) (m.map (fun n : Nat => (n : Int))) = if ok ((radd k m).map (fun n : Nat => (n : Int))) = true then some (radd k m) else none := by
  unfold asum
  rw [toNats, toNats, ok_of_vld hv, ok_of_vld hv2]
  simp
theorem psum_radd {k m : List Nat} (h : m.length ≤ k.length) : psum k m = (radd k m).map (fun n : Nat => (n : Int)) := by rw [psum, radd_padd h]

/-- What a call of Add leaves: the sums in new memory, or the error. -/
def SumR (s : Option (List Nat)) (w : World) (e : Ending) (w' : World) : Prop :=
  match s with
  | some s => ∃ A' c', e = .returned (.tuple #[.slice A' s.length c', .int .i64 0]) ∧ s.length ≤ 256 ∧ w'.ownsRow w.heap.size 3 1 (.slice A' s.length c') s.length (s.map nv)
  | none => e = .returned (.tuple #[.slice none 0 0, .int .i64 2])

theorem sumr_of {k m : List Nat} {N : Nat} {w : World} {V : Value} {E : Int} {w' : World} (hN : k.length = N) (hv : Vld k) (hm : m.length ≤ k.length) (h : PlsV k m N w V E w') :
    SumR (if ok ((radd k m).map (fun n : Nat => (n : Int))) = true then some (radd k m) else none) w (.returned (.tuple #[V, .int .i64 E])) w' := by
  have hl : (radd k m).length = N := by rw [radd_padd hm, padd_len, hN]
  have h1 := hv.1
  rcases h with ⟨h1, rfl, A', c', rfl, _, ho⟩ | ⟨h1, rfl, rfl⟩
  · rw [psum_radd hm] at h1
    rw [← radd_padd hm] at ho
    rw [if_pos h1]
    subst hl
    exact ⟨A', c', rfl, by omega, ho⟩
  · rw [psum_radd hm] at h1
    rw [if_neg (by rw [h1]; simp)]
    rfl

theorem add_all (w : World) (A : Option Addr) (l : List Int) (N c : Nat) (hN : l.length = N) (hNc : N ≤ c) (hR : Ri w A l) (A2 : Option Addr) (m : List Int) (M c2 : Nat) (hM : m.length = M) (hMc : M ≤ c2) (hR2 : Ri w A2 m) :
    Calls Try.prog 28 #[.slice A N c, .slice A2 M c2] w fun e w' => SumR (asum l m) w e w' ∧ Below w.heap.size w w' := by
  have no : ok l = false ∨ ok m = false → asum l m = none := fun h => by
    unfold asum
    rw [if_neg]
    rintro ⟨h1, h2, _⟩
    rcases h with h | h
    · rw [h1] at h; cases h
    · rw [h2] at h; cases h
  cases h1 : ok l with
  | true =>
    obtain ⟨k, rfl, hv⟩ := ok_nats h1
    rw [List.length_map] at hN
    have hRk : Rn w A k := by show Rv _ _ _; rw [← ri_nats]; exact hR
    cases h2 : ok m with
    | true =>
      obtain ⟨k2, rfl, hv2⟩ := ok_nats h2
      rw [List.length_map] at hM
      have hRk2 : Rn w A2 k2 := by show Rv _ _ _; rw [← ri_nats]; exact hR2
      rw [asum_nats hv hv2]
      by_cases hMN : M ≤ N
      · refine (add_yes w A k N c hN hNc hv A2 k2 M c2 hM hMc hv2 hMN hRk hRk2).mono fun e w' h => ?_
        obtain ⟨V, E, rfl, hp, hb⟩ := h
        exact ⟨sumr_of hN hv (by omega) hp, hb⟩
      · refine (add_yes_s w A2 k2 M c2 hM hMc hv2 A k N c hN hNc hv (by omega) hRk2 hRk).mono fun e w' h => ?_
        obtain ⟨V, E, rfl, hp, hb⟩ := h
        rw [radd_comm]
        exact ⟨sumr_of hM hv2 (by omega) hp, hb⟩
    | false =>
      rw [no (.inr h2)]
      by_cases hMN : M ≤ N
      · exact (add_no2 w A k N c hN hNc hv A2 m M c2 hM h2 hMN hRk hR2).mono fun e w' h => ⟨h.1, h.2⟩
      · exact (add_no1_s w A2 m M c2 hM h2 A N c (by omega) hR2).mono fun e w' h => ⟨h.1, h.2⟩
  | false =>
    rw [no (.inl h1)]
    by_cases hMN : M ≤ N
    · exact (add_no1 w A l N c hN h1 A2 M c2 hMN hR).mono fun e w' h => ⟨h.1, h.2⟩
    · cases h2 : ok m with
      | true =>
        obtain ⟨k2, rfl, hv2⟩ := ok_nats h2
        rw [List.length_map] at hM
        have hRk2 : Rn w A2 k2 := by show Rv _ _ _; rw [← ri_nats]; exact hR2
        exact (add_no2_s w A2 k2 M c2 hM hMc hv2 A l N c hN h1 (by omega) hRk2 hR).mono fun e w' h => ⟨h.1, h.2⟩
      | false => exact (add_no1_s w A2 m M c2 hM h2 A N c (by omega) hR2).mono fun e w' h => ⟨h.1, h.2⟩

theorem rsum_all (w : World) (A : Option Addr) (l : List Int) (N c : Nat) (hN : l.length = N) (hR : Ri w A l) (A2 : Option Addr) (m : List Int) (M c2 : Nat) (hM : m.length = M) (hR2 : Ri w A2 m) :
    Calls Try.prog 29 #[.slice A N c, .slice A2 M c2] w fun e w' => SumR (asum l m) w e w' ∧ Below w.heap.size w w' := by
  by_cases hno : ok l = false ∨ ok m = false
  · have e : asum l m = none := by
      unfold asum
      rw [if_neg]
      rintro ⟨h1, h2, _⟩
      rcases hno with h | h
      · rw [h1] at h; cases h
      · rw [h2] at h; cases h
    rw [e]
    exact (radd_no w A l N c hN hR A2 m M c2 hM hR2 hno).mono fun e w' h => ⟨h.1, by rw [h.2]; exact Below.refl _ _⟩
  · have h1 : ok l = true := by cases h : ok l with | true => rfl | false => exact absurd (.inl h) hno
    have h2 : ok m = true := by cases h : ok m with | true => rfl | false => exact absurd (.inr h) hno
    obtain ⟨k, rfl, hv⟩ := ok_nats h1
    obtain ⟨k2, rfl, hv2⟩ := ok_nats h2
    rw [List.length_map] at hN hM
    rw [asum_nats hv hv2]
    refine (radd_yes w A k N c hN hv (by show Rv _ _ _; rw [← ri_nats]; exact hR) A2 k2 M c2 hM hv2 (by show Rv _ _ _; rw [← ri_nats]; exact hR2)).mono fun e w' h => ?_
    obtain ⟨hb, ⟨ho, A', c', rfl, hr⟩ | ⟨ho, rfl⟩⟩ := h
    · have hl : (radd k k2).length = max N M := by rw [radd_len, hN, hM]
      rw [← hl] at hr ⊢
      rw [if_pos ho]
      have q1 := hv.1
      have q2 := hv2.1
      exact ⟨⟨A', c', rfl, by rw [radd_len]; omega, hr⟩, hb⟩
    · rw [if_neg (by rw [ho]; simp)]
      exact ⟨rfl, hb⟩

end Go.Proofs.Ytbbkmmdlpmpaeaa
