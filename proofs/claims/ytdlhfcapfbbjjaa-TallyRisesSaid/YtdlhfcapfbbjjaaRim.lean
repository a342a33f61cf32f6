/-
  One step of the reference's Rising: a used symbol that is put behind the last entry of no greater count keeps the stable sort. No program.
-/
import Derived.Test.YtdlhfcapfbbjjaaUnq
namespace Go.Proofs.Ytdlhfcapfbbjjaa

theorem ris_used {k : List Nat} {i x : Nat} (hx : k[i]? = some x) : usd 0 (k.take (i + 1)) = usd 0 (k.take i) ++ (if 0 < x then [(i, x)] else []) := by
  have hl : i < k.length := (List.getElem?_eq_some_iff.1 hx).1
  rw [List.take_add_one, hx, Option.toList_some, usd_append]
  by_cases h0 : 0 < x
  · simp [usd, h0, Nat.min_eq_left (Nat.le_of_lt hl), show x ≠ 0 by omega]
  · simp [usd, show x = 0 by omega]

theorem ris_step {k : List Nat} {i x : Nat} (hx : k[i]? = some x) (h0 : 0 < x) {S : List (Nat × Nat)} (h : Stb (usd 0 (k.take i)) S) {q : Nat}
    (h1 : q = 0 ∨ ∃ p, S[q - 1]? = some p ∧ p.2 ≤ x) (h2 : ∀ j p, q ≤ j → S[j]? = some p → x < p.2) : Stb (usd 0 (k.take (i + 1))) (S.take q ++ [(i, x)] ++ S.drop q) := by
  rw [ris_used hx, if_pos h0]
  refine Stb.insert (by rw [List.take_append_drop]; exact h) ?_ ?_
  · intro p hp
    rcases h1 with rfl | ⟨r, hr, hrx⟩
    · simp at hp
    · obtain ⟨j, hj, hjp⟩ := List.mem_iff_getElem.1 hp
      rw [List.length_take] at hj
      rw [List.getElem_take] at hjp
      obtain ⟨hq, hqr⟩ := List.getElem?_eq_some_iff.1 hr
      have hs := h.1
      unfold Srt2 at hs
      show p.2 ≤ x
      rcases Nat.lt_or_ge j (q - 1) with hlt | hge
      · have := List.pairwise_iff_getElem.1 hs j (q - 1) (by omega) hq hlt
        rw [hjp, hqr] at this
        omega
      · have e : j = q - 1 := by omega
        subst e
        rw [hjp] at hqr
        rw [hqr]
        exact hrx
  · intro p hp
    obtain ⟨j, hj, hjp⟩ := List.mem_iff_getElem.1 hp
    rw [List.length_drop] at hj
    rw [List.getElem_drop] at hjp
    exact h2 (q + j) p (by omega) (by rw [List.getElem?_eq_getElem (by omega), hjp])

end Go.Proofs.Ytdlhfcapfbbjjaa
