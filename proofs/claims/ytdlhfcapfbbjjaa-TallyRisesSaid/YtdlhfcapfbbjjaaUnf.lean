/-
  What the reference's Rising and the program's Increasing return at any counts: one list of pairs, as a row and as what the iterator hands on. Only new memory. Condition: a slice can hold the counts.
-/
import Derived.Test.YtdlhfcapfbbjjaaRiy
namespace Go.Proofs.Ytdlhfcapfbbjjaa
open Go.RowKit

/-- The list of pairs that counts have: the stable sort of the used symbols, nothing where the counts are not valid. -/
def Lst (l : List Int) (S : List (Nat × Nat)) : Prop := (ok l = false ∧ S = []) ∨ ∃ k : List Nat, l = k.map (fun n : Nat => (n : Int)) ∧ Vld k ∧ Stb (usd 0 k) S
theorem nat_map_inj {k m : List Nat} (h : k.map (fun n : Nat => (n : Int)) = m.map (fun n : Nat => (n : Int))) : k = m := by
  induction k generalizing m with
  | nil => cases m with
    | nil => rfl
    | cons b m => simp at h
  | cons a k ih => cases m with
    | nil => simp at h
    | cons b m =>
      simp only [List.map_cons, List.cons.injEq] at h
      rw [ih h.2, show a = b by omega]
theorem Lst.unique {l : List Int} {S T : List (Nat × Nat)} (h1 : Lst l S) (h2 : Lst l T) : S = T := by
  rcases h1 with ⟨h1, rfl⟩ | ⟨k, rfl, hk, hS⟩
  · rcases h2 with ⟨_, rfl⟩ | ⟨m, rfl, hm, _⟩
    · rfl
    · rw [ok_of_vld hm] at h1; cases h1
  · rcases h2 with ⟨h2, _⟩ | ⟨m, e, hm, hT⟩
    · rw [ok_of_vld hk] at h2; cases h2
    · have := nat_map_inj e
      subst this
      exact hS.unique hT
theorem usd_short (k : List Nat) : ∀ i, (usd i k).length ≤ k.length := by
  induction k with
  | nil => intro i; simp [usd]
  | cons x k ih =>
    intro i
    have := ih (i + 1)
    unfold usd
    split
    · simp; omega
    · simp; omega
theorem stb_len {k : List Nat} (hk : Vld k) {S : List (Nat × Nat)} (h : Stb (usd 0 k) S) : S.length ≤ 256 := by
  rw [h.len]
  have h1 : (usd 0 k).length ≤ k.length := usd_short k 0
  have h2 := hk.1
  omega
theorem rising_u (w : World) (A : Option Addr) (l : List Int) (N c : Nat) (hN : l.length = N) (hR : Ri w A l) :
    Calls Try.prog 34 #[.slice A N c] w fun e w' => ∃ S A' r c', e = .returned (.slice A' r c') ∧ S.length = r ∧ r ≤ 256 ∧ Lst l S ∧ RdE w' A' S ∧ Below w.heap.size w w' := by
  cases hok : ok l with
  | false =>
    refine (rising_no w A l N c hN hR hok).mono ?_
    rintro e w' ⟨rfl, rfl⟩
    exact ⟨[], none, 0, 0, rfl, rfl, by omega, .inl ⟨hok, rfl⟩, fun j p hp => by simp at hp, Below.refl _ _⟩
  | true =>
    obtain ⟨k, rfl, hk⟩ := ok_nats hok
    rw [List.length_map] at hN
    refine (rising_yes w A k N c hN hk (by have h1 : Rv _ _ _ := hR; rwa [ri_nats] at h1)).mono ?_
    rintro e w' ⟨⟨S, A', c', rfl, hS, hP⟩, hb⟩
    exact ⟨S, A', S.length, c', rfl, rfl, stb_len hk hS, .inr ⟨k, rfl, hk, hS⟩, rde_own hP.2.2, hb⟩
theorem incr_u (w : World) (A : Option Addr) (l : List Int) (N c : Nat) (hN : l.length = N) (hNc : N ≤ c) (hR : Ri w A l) (S : List (Nat × Nat)) (r : Nat) (hS : Lst l S) (hr : S.length = r) :
    Calls Try.prog 35 #[.slice A N c] w fun e w' => ∃ Bx Ai ci, e = .returned (.func (.func 53) #[] #[.pointer (some ⟨Bx, 0, none⟩)]) ∧ KpI Ai S r ci Bx w' ∧ w.heap.size ≤ Bx ∧ (∀ ad, Ai = some ad → w.heap.size ≤ ad.block) ∧ Below w.heap.size w w' := by
  have key : ∀ {e : Ending} {w' : World}, ((∃ Bx, e = .returned (.func (.func 53) #[] #[.pointer (some ⟨Bx, 0, none⟩)]) ∧ Itr w' w.heap.size l Bx) ∧ Below w.heap.size w w') → ∃ Bx Ai ci, e = .returned (.func (.func 53) #[] #[.pointer (some ⟨Bx, 0, none⟩)]) ∧ KpI Ai S r ci Bx w' ∧ w.heap.size ≤ Bx ∧ (∀ ad, Ai = some ad → w.heap.size ≤ ad.block) ∧ Below w.heap.size w w' := by
    rintro e w' ⟨⟨Bx, rfl, hI⟩, hb⟩
    rcases itr_kp hI with ⟨h1, h2⟩ | ⟨k, T, g, r', c', h1, h2, h3, h4, _, h6, h7⟩
    · have e1 : S = [] := hS.unique (.inl ⟨h1, rfl⟩)
      subst e1
      simp only [List.length_nil] at hr
      subst hr
      exact ⟨Bx, none, 0, rfl, h2, hI.1, (fun ad e => by cases e), hb⟩
    · have e1 : S = T := hS.unique (.inr ⟨k, h1, h2, h3⟩)
      subst e1
      rw [hr] at h4
      subst h4
      exact ⟨Bx, _, c', rfl, h7, hI.1, (fun ad e => by injection e with e; subst e; exact h6), hb⟩
  cases hok : ok l with
  | false => exact (incr_no w A l N c hN hR hok).mono fun e w' h => key h
  | true =>
    obtain ⟨k, rfl, hk⟩ := ok_nats hok
    rw [List.length_map] at hN
    exact (incr_yes w A k N c hN hNc hk (by have h1 : Rv _ _ _ := hR; rwa [ri_nats] at h1)).mono fun e w' h => key h

end Go.Proofs.Ytdlhfcapfbbjjaa
