/-
  One group of some bytes is replaced, or one byte: the checksum tells it if and only if the bytes are others. Plain mathematics: nothing of the program is named. No condition beyond those that each theorem states.
-/
import Derived.Test.YtcmfejehlkbmoaaInj
namespace Go.Proofs.Ytcmfejehlkbmoaa

theorem grp_get (l : List UInt8) (j q : Nat) (hq : q < 8) : ((l.drop (8 * j)).take 8)[q]? = l[8 * j + q]? := by
  rw [List.getElem?_take_of_lt hq, List.getElem?_drop]

theorem grp_ext {l m : List UInt8} {j : Nat} (h : ∀ q, q < 8 → l[8 * j + q]? = m[8 * j + q]?) : grp l j = grp m j := by
  unfold grp
  congr 1
  apply List.ext_getElem?
  intro q
  by_cases hq : q < 8
  · rw [grp_get l j q hq, grp_get m j q hq, h q hq]
  · rw [List.getElem?_eq_none (by simp; omega), List.getElem?_eq_none (by simp; omega)]

theorem grp_ne {l m : List UInt8} (hlm : l.length = m.length) {j q : Nat} (hq : q < 8) (h : l[8 * j + q]? ≠ m[8 * j + q]?) : grp l j ≠ grp m j := by
  intro e
  unfold grp at e
  have := le_inj (by simp [hlm]) e
  apply h
  rw [← grp_get l j q hq, ← grp_get m j q hq, this]

theorem getD_get {l : List UInt8} {i : Nat} (h : i < l.length) : l[i]? = some (l.getD i 0) := by
  rw [List.getD_eq_getElem?_getD, List.getElem?_eq_getElem h]
  rfl

/-- i bytes of group k are replaced by those of m. -/
def st (l m : List UInt8) (k : Nat) : Nat → List UInt8
  | 0 => l
  | i + 1 => (st l m k i).set (8 * k + i) (m.getD i 0)
/-- Was one of them another? -/
def ot (l m : List UInt8) (k : Nat) : Nat → Bool
  | 0 => false
  | i + 1 => ot l m k i || (l.getD (8 * k + i) 0 != m.getD i 0)

theorem st_len (l m : List UInt8) (k : Nat) : ∀ i, (st l m k i).length = l.length
  | 0 => rfl
  | i + 1 => by rw [st, List.length_set, st_len l m k i]

theorem st_get (l m : List UInt8) (k p : Nat) : ∀ i, 8 * k + i ≤ l.length → (st l m k i)[p]? = if 8 * k ≤ p ∧ p < 8 * k + i then some (m.getD (p - 8 * k) 0) else l[p]?
  | 0, _ => by rw [st, if_neg (by omega)]
  | i + 1, h => by
    rw [st, List.getElem?_set, st_len, st_get l m k p i (by omega)]
    by_cases hp : 8 * k + i = p
    · rw [if_pos hp, if_pos (by omega), if_pos (by omega), show p - 8 * k = i by omega]
    · rw [if_neg hp]
      by_cases hin : 8 * k ≤ p ∧ p < 8 * k + i
      · rw [if_pos hin, if_pos (by omega)]
      · rw [if_neg hin, if_neg (by omega)]

theorem ot_false (l m : List UInt8) (k : Nat) : ∀ i, ot l m k i = false → ∀ j, j < i → l.getD (8 * k + j) 0 = m.getD j 0
  | 0, _, j, hj => absurd hj (by omega)
  | i + 1, h, j, hj => by
    rw [ot, Bool.or_eq_false_iff] at h
    by_cases hji : j = i
    · subst hji
      simpa using h.2
    · exact ot_false l m k i h.1 j (by omega)
theorem ot_true (l m : List UInt8) (k : Nat) : ∀ i, ot l m k i = true → ∃ j, j < i ∧ l.getD (8 * k + j) 0 ≠ m.getD j 0
  | 0, h => by simp [ot] at h
  | i + 1, h => by
    rw [ot, Bool.or_eq_true_iff] at h
    rcases h with h | h
    · obtain ⟨j, hj, hne⟩ := ot_true l m k i h
      exact ⟨j, by omega, hne⟩
    · exact ⟨i, by omega, by simpa using h⟩

theorem chk_st (l m : List UInt8) (k i : Nat) (hi8 : i ≤ 8) (hi : 8 * k + i ≤ l.length) (hl : l.length < M64) : (chk l = chk (st l m k i)) ↔ ot l m k i = false := by
  constructor
  · intro e
    cases ho : ot l m k i with
    | false => rfl
    | true =>
      obtain ⟨j, hj, hne⟩ := ot_true l m k i ho
      refine absurd e (chk_tells l _ (st_len l m k i).symm hl k (by unfold grps; omega) ?_ ?_)
      · refine grp_ne (st_len l m k i).symm (q := j) (by omega) ?_
        rw [st_get l m k _ i hi, if_pos (by omega), getD_get (by omega), show 8 * k + j - 8 * k = j by omega]
        simpa using hne
      · intro j' hj'
        refine grp_ext fun q hq => ?_
        rw [st_get l m k _ i hi, if_neg (by omega)]
  · intro ho
    have : st l m k i = l := by
      apply List.ext_getElem?
      intro p
      rw [st_get l m k p i hi]
      by_cases hp : 8 * k ≤ p ∧ p < 8 * k + i
      · rw [if_pos hp, getD_get (by omega)]
        have := ot_false l m k i ho (p - 8 * k) (by omega)
        rw [show 8 * k + (p - 8 * k) = p by omega] at this
        rw [this]
      · rw [if_neg hp]
    rw [this]

theorem chk_set {l : List UInt8} {i : Nat} {b v : UInt8} (hi : l[i]? = some b) (hv : b ≠ v) (hl : l.length < M64) : chk l ≠ chk (l.set i v) := by
  have hlt : i < l.length := (List.getElem?_eq_some_iff.1 hi).1
  refine chk_tells l _ (by rw [List.length_set]) hl (i / 8) (by unfold grps; omega) ?_ ?_
  · refine grp_ne (by rw [List.length_set]) (q := i % 8) (by omega) ?_
    rw [show 8 * (i / 8) + i % 8 = i by omega, hi, List.getElem?_set, if_pos rfl, if_pos hlt]
    simpa using hv
  · intro j hj
    refine grp_ext fun q hq => ?_
    rw [List.getElem?_set, if_neg (by omega)]

theorem flip_ne {y t : Nat} : y ^^^ 2 ^ t ≠ y := by
  intro e
  have : y ^^^ 2 ^ t = y ^^^ 0 := by rw [e, Nat.xor_zero]
  have := xor_left this
  have := Nat.two_pow_pos t
  omega

end Go.Proofs.Ytcmfejehlkbmoaa
