/-
  The mathematics of the merge's search: where it ends, the two halves do not cross. No condition beyond those that each theorem states.
-/
import Derived.Test.YtdlhfcapfbbjjaaMrg
namespace Go.Proofs.Ytdlhfcapfbbjjaa

theorem srt_take {L : List (Nat × Nat)} (h : Srt2 L) {k : Nat} {x : Nat × Nat} (hx : L[k]? = some x) : ∀ p ∈ L.take (k + 1), p.2 ≤ x.2 := by
  intro p hp
  obtain ⟨t, ht, e⟩ := List.getElem_of_mem hp
  rw [List.length_take] at ht
  rw [List.getElem_take] at e
  obtain ⟨hk, ek⟩ := List.getElem?_eq_some_iff.1 hx
  rcases Nat.lt_or_ge t k with q | q
  · have := List.pairwise_iff_getElem.1 h t k (by omega) hk q
    rw [e, ek] at this
    exact this
  · have : t = k := by omega
    subst this
    rw [← e, ek]
    exact Nat.le_refl _
theorem srt_drop {L : List (Nat × Nat)} (h : Srt2 L) {k : Nat} {x : Nat × Nat} (hx : L[k]? = some x) : ∀ p ∈ L.drop k, x.2 ≤ p.2 := by
  intro p hp
  obtain ⟨t, ht, e⟩ := List.getElem_of_mem hp
  rw [List.length_drop] at ht
  rw [List.getElem_drop] at e
  obtain ⟨hk, ek⟩ := List.getElem?_eq_some_iff.1 hx
  rcases Nat.eq_zero_or_pos t with q | q
  · subst q
    simp only [Nat.add_zero] at e
    rw [← e, ek]
    exact Nat.le_refl _
  · have := List.pairwise_iff_getElem.1 h k (k + t) hk (by omega) (by omega)
    rw [e, ek] at this
    exact this
/-- Where the search ends: i of A's entries come first, j of C's. -/
structure Crs (A C : List (Nat × Nat)) (i j : Nat) : Prop where
  low : i = 0 ∨ C.length ≤ j ∨ ∃ x y, A[i - 1]? = some x ∧ C[j]? = some y ∧ x.2 ≤ y.2
  high : j = 0 ∨ A.length ≤ i ∨ ∃ x y, C[j - 1]? = some x ∧ A[i]? = some y ∧ x.2 < y.2
theorem Crs.strict {A C : List (Nat × Nat)} {i j : Nat} (h : Crs A C i j) (hA : Srt2 A) (hC : Srt2 C) : ∀ p ∈ C.take j, ∀ q ∈ A.drop i, p.2 < q.2 := by
  intro p hp q hq
  rcases h.high with e | e | ⟨x, y, hx, hy, hxy⟩
  · subst e; simp at hp
  · rw [List.drop_eq_nil_of_le e] at hq; cases hq
  · rcases Nat.eq_zero_or_pos j with e | e
    · subst e; simp at hp
    · have h1 := srt_take hC hx p (by rw [show j - 1 + 1 = j by omega]; exact hp)
      have h2 := srt_drop hA hy q hq
      omega
theorem Crs.cross {A C : List (Nat × Nat)} {i j : Nat} (h : Crs A C i j) (hA : Srt2 A) (hC : Srt2 C) : ∀ p ∈ A.take i ++ C.take j, ∀ q ∈ A.drop i ++ C.drop j, p.2 ≤ q.2 := by
  have sA := srt_append (S := A.take i) (T := A.drop i) (by rw [List.take_append_drop]; exact hA)
  have sC := srt_append (S := C.take j) (T := C.drop j) (by rw [List.take_append_drop]; exact hC)
  intro p hp q hq
  rcases List.mem_append.1 hp with hp | hp
  · rcases List.mem_append.1 hq with hq | hq
    · exact sA.2.2 p hp q hq
    · rcases h.low with e | e | ⟨x, y, hx, hy, hxy⟩
      · subst e; simp at hp
      · rw [List.drop_eq_nil_of_le e] at hq; cases hq
      · rcases Nat.eq_zero_or_pos i with e | e
        · subst e; simp at hp
        · have h1 := srt_take hA hx p (by rw [show i - 1 + 1 = i by omega]; exact hp)
          have h2 := srt_drop hC hy q hq
          omega
  · rcases List.mem_append.1 hq with hq | hq
    · exact Nat.le_of_lt (h.strict hA hC p hp q hq)
    · exact sC.2.2 p hp q hq
/-- The two halves, each merged, make the whole. -/
theorem Crs.merge {A C M1 M2 : List (Nat × Nat)} {i j : Nat} (h : Crs A C i j) (hA : Srt2 A) (hC : Srt2 C) (h1 : Stb (A.take i ++ C.take j) M1) (h2 : Stb (A.drop i ++ C.drop j) M2) : Stb (A ++ C) (M1 ++ M2) := by
  have := Stb.merge h1 h2 (h.cross hA hC) (h.strict hA hC)
  rwa [List.take_append_drop, List.take_append_drop] at this
theorem srt_sub {A : List (Nat × Nat)} (hA : Srt2 A) (i : Nat) : Srt2 (A.take i) ∧ Srt2 (A.drop i) := by
  have := srt_append (S := A.take i) (T := A.drop i) (by rw [List.take_append_drop]; exact hA)
  exact ⟨this.1, this.2.1⟩
/-- Where one of two stretches is empty there is nothing to merge. -/
theorem Stb.none {A C : List (Nat × Nat)} (hA : Srt2 A) (hC : Srt2 C) (h : A = [] ∨ C = []) : Stb (A ++ C) (A ++ C) := by
  rcases h with rfl | rfl
  · simpa using Stb.refl hC
  · simpa using Stb.refl hA

end Go.Proofs.Ytdlhfcapfbbjjaa
