/-
  Mathematics of RingHolds: the bytes that a copy appends equal those at their distance. No condition.
-/
import Derived.Test.YteogpmapbeogpaaDoorRow
namespace Go.Proofs.YteogpmapbeogpaaDoor
open Go.RowKit

theorem fin_drop_len {lim D : Nat} {T : List UInt8} (hD : D ≤ min lim T.length) : (fin lim T).drop ((fin lim T).length - D) = T.drop (T.length - D) := by
  rw [fin_len]
  unfold fin
  rw [List.drop_drop]
  congr 1
  omega
/-- The byte at place k of what has been copied onto T. -/
theorem hold_eq {T : List UInt8} {D n k : Nat} (hD1 : 1 ≤ D) (hD : D ≤ T.length) (hk1 : T.length ≤ k) (hk2 : k < T.length + n) :
    (T ++ cyc (T.drop (T.length - D)) n)[k]? = (T ++ cyc (T.drop (T.length - D)) n)[k - D]? := by
  have hs : (T.drop (T.length - D)).length = D := by rw [List.length_drop]; omega
  obtain ⟨j, rfl⟩ : ∃ j, k = T.length + j := ⟨k - T.length, by omega⟩
  have e1 : (T ++ cyc (T.drop (T.length - D)) n)[T.length + j]? = some ((T.drop (T.length - D)).getD (j % D) 0) := by
    rw [List.getElem?_append_right (by omega), show T.length + j - T.length = j by omega, cyc_get _ (by omega), hs]
  rw [e1]
  rcases Nat.lt_or_ge j D with h | h
  · rw [List.getElem?_append_left (by omega), Nat.mod_eq_of_lt h]
    have := getD_of (s := T.drop (T.length - D)) (j := j) (by omega)
    rw [List.getElem?_drop] at this
    rw [← this]
    congr 1
    omega
  · rw [List.getElem?_append_right (by omega), show T.length + j - D - T.length = j - D by omega, cyc_get _ (by omega), hs, Nat.mod_eq_sub_mod h]

theorem hold_cell {w : World} {A : Option Addr} {T : List UInt8} (h : Rd w A T) {k : Nat} (hk : k < T.length) : ∃ ad b, A = some ad ∧ T[k]? = some b ∧ w.cell? (ad.add k) = some (byt b) := by
  obtain ⟨b, hb⟩ : ∃ b, T[k]? = some b := ⟨_, List.getElem?_eq_getElem hk⟩
  obtain ⟨ad, e, hc⟩ := h k (byt b) (by rw [List.getElem?_map, hb]; rfl)
  exact ⟨ad, b, e, hb, hc⟩

end Go.Proofs.YteogpmapbeogpaaDoor
