/-
  Two stable sorts of one list are equal. No program.
-/
import Derived.Test.YtdlhfcapfbbjjaaIst
namespace Go.Proofs.Ytdlhfcapfbbjjaa

theorem srt_unique : ∀ (S T : List (Nat × Nat)), Srt2 S → Srt2 T → (∀ v : Nat, S.filter (fun p => p.2 == v) = T.filter (fun p => p.2 == v)) → S = T := by
  intro S
  induction S with
  | nil =>
    intro T _ _ hf
    cases T with
    | nil => rfl
    | cons b t =>
      have := hf b.2
      simp at this
  | cons a s ih =>
    intro T hS hT hf
    unfold Srt2 at hS hT ih
    cases T with
    | nil =>
      have := hf a.2
      simp at this
    | cons b t =>
      rw [List.pairwise_cons] at hS hT
      have hb : b ∈ a :: s := by
        have : b ∈ (b :: t).filter (fun p => p.2 == b.2) := List.mem_filter.2 ⟨by simp, by simp⟩
        rw [← hf b.2] at this
        exact (List.mem_filter.1 this).1
      have ha : a ∈ b :: t := by
        have : a ∈ (a :: s).filter (fun p => p.2 == a.2) := List.mem_filter.2 ⟨by simp, by simp⟩
        rw [hf a.2] at this
        exact (List.mem_filter.1 this).1
      have h1 : a.2 ≤ b.2 := by
        rcases List.mem_cons.1 hb with h | h
        · rw [h]; exact Nat.le_refl _
        · exact hS.1 b h
      have h2 : b.2 ≤ a.2 := by
        rcases List.mem_cons.1 ha with h | h
        · rw [h]; exact Nat.le_refl _
        · exact hT.1 a h
      have e2 : b.2 = a.2 := by omega
      have hv := hf a.2
      rw [List.filter_cons_of_pos (by simp), List.filter_cons_of_pos (by simp [e2])] at hv
      have hab : a = b := (List.cons.inj hv).1
      subst hab
      rw [ih t hS.2 hT.2 (fun v => ?_)]
      by_cases hva : a.2 = v
      · subst hva
        exact (List.cons.inj hv).2
      · have := hf v
        rw [List.filter_cons_of_neg (by simpa using hva), List.filter_cons_of_neg (by simpa using hva)] at this
        exact this
theorem Stb.unique {seg S T : List (Nat × Nat)} (h1 : Stb seg S) (h2 : Stb seg T) : S = T := srt_unique S T h1.1 h2.1 (fun v => (h1.2 v).trans (h2.2 v).symm)

end Go.Proofs.Ytdlhfcapfbbjjaa
