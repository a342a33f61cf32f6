/-
  The mathematics of merging: two stable sorts whose entries do not cross make one. No condition beyond those that each theorem states.
-/
import Derived.Test.YtdlhfcapfbbjjaaIst
namespace Go.Proofs.Ytdlhfcapfbbjjaa

theorem Stb.refl {S : List (Nat × Nat)} (h : Srt2 S) : Stb S S := ⟨h, fun _ => rfl⟩
theorem Stb.mem {seg S : List (Nat × Nat)} (h : Stb seg S) {p : Nat × Nat} : p ∈ S ↔ p ∈ seg := by
  have hf := h.2 p.2
  constructor
  · intro hp
    have : p ∈ S.filter (fun q => q.2 == p.2) := List.mem_filter.2 ⟨hp, by simp⟩
    rw [hf] at this
    exact (List.mem_filter.1 this).1
  · intro hp
    have : p ∈ seg.filter (fun q => q.2 == p.2) := List.mem_filter.2 ⟨hp, by simp⟩
    rw [← hf] at this
    exact (List.mem_filter.1 this).1
/-- Two halves, each merged, make the whole. -/
theorem Stb.merge {A1 A2 C1 C2 M1 M2 : List (Nat × Nat)} (h1 : Stb (A1 ++ C1) M1) (h2 : Stb (A2 ++ C2) M2) (hle : ∀ p ∈ A1 ++ C1, ∀ q ∈ A2 ++ C2, p.2 ≤ q.2) (hlt : ∀ p ∈ C1, ∀ q ∈ A2, p.2 < q.2) : Stb ((A1 ++ A2) ++ (C1 ++ C2)) (M1 ++ M2) := by
  refine ⟨?_, fun v => ?_⟩
  · unfold Srt2
    rw [List.pairwise_append]
    exact ⟨h1.1, h2.1, fun p hp q hq => hle p (h1.mem.1 hp) q (h2.mem.1 hq)⟩
  · rw [List.filter_append, h1.2 v, h2.2 v]
    simp only [List.filter_append]
    have hc : C1.filter (fun p => p.2 == v) = [] ∨ A2.filter (fun p => p.2 == v) = [] := by
      by_cases h : C1.filter (fun p => p.2 == v) = []
      · exact .inl h
      · right
        obtain ⟨c, hc⟩ := List.exists_mem_of_ne_nil _ h
        rw [List.mem_filter] at hc
        rw [List.filter_eq_nil_iff]
        intro q hq
        have := hlt c hc.1 q hq
        simp at hc ⊢
        omega
    rcases hc with h | h
    · rw [h]; simp [List.append_assoc]
    · rw [h]; simp [List.append_assoc]
theorem srt_append {S T : List (Nat × Nat)} (h : Srt2 (S ++ T)) : Srt2 S ∧ Srt2 T ∧ ∀ p ∈ S, ∀ q ∈ T, p.2 ≤ q.2 := List.pairwise_append.1 h
/-- One entry before others. -/
theorem Stb.first {x : Nat × Nat} {C1 C2 : List (Nat × Nat)} (h : Srt2 (C1 ++ C2)) (h1 : ∀ p ∈ C1, p.2 < x.2) (h2 : ∀ p ∈ C2, x.2 ≤ p.2) : Stb ([x] ++ (C1 ++ C2)) (C1 ++ ([x] ++ C2)) := by
  obtain ⟨s1, s2, s3⟩ := srt_append h
  have m2 : Srt2 ([x] ++ C2) := by
    unfold Srt2
    rw [List.singleton_append, List.pairwise_cons]
    exact ⟨h2, s2⟩
  have := Stb.merge (A1 := []) (A2 := [x]) (C1 := C1) (C2 := C2) (Stb.refl s1) (Stb.refl m2) (fun p hp q hq => ?_) (fun p hp q hq => ?_)
  · simpa using this
  · rw [List.nil_append] at hp
    rw [List.singleton_append, List.mem_cons] at hq
    rcases hq with rfl | hq
    · exact Nat.le_of_lt (h1 p hp)
    · exact s3 p hp q hq
  · rw [List.mem_singleton] at hq
    subst hq
    exact h1 p hp
/-- One entry behind others. -/
theorem Stb.behind {x : Nat × Nat} {A1 A2 : List (Nat × Nat)} (h : Srt2 (A1 ++ A2)) (h1 : ∀ p ∈ A1, p.2 ≤ x.2) (h2 : ∀ p ∈ A2, x.2 < p.2) : Stb ((A1 ++ A2) ++ [x]) (A1 ++ [x] ++ A2) := by
  obtain ⟨s1, s2, s3⟩ := srt_append h
  have m1 : Srt2 (A1 ++ [x]) := by
    unfold Srt2
    rw [List.pairwise_append]
    exact ⟨s1, List.pairwise_singleton _ _, fun p hp q hq => by rw [List.mem_singleton] at hq; subst hq; exact h1 p hp⟩
  have := Stb.merge (A1 := A1) (A2 := A2) (C1 := [x]) (C2 := []) (Stb.refl m1) (Stb.refl (by simpa using s2)) (fun p hp q hq => ?_) (fun p hp q hq => ?_)
  · simpa using this
  · rw [List.append_nil] at hq
    rcases List.mem_append.1 hp with hp | hp
    · exact s3 p hp q hq
    · rw [List.mem_singleton] at hp
      subst hp
      exact Nat.le_of_lt (h2 q hq)
  · rw [List.mem_singleton] at hp
    subst hp
    exact h2 q hq

end Go.Proofs.Ytdlhfcapfbbjjaa
