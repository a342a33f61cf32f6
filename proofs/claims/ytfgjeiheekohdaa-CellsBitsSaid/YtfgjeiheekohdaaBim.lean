/-
  The mathematics of CellsBits: the bits of a symbol's last cell so far. Conditions: those that each theorem states.
-/
import Derived.Test.YtfgjeiheekohdaaPut
namespace Go.Proofs.Ytfgjeiheekohdaa

/-- One more than the bits of the last cell of symbol u among the first i, or 0. -/
def lab (y : Nat) (l : List Int) (K : List Nat) (i u : Nat) : Nat := if (K.take i).count u = 0 then 0 else bts y (nos l u + ((K.take i).count u - 1)) + 1
def lst (N y : Nat) (l : List Int) (K : List Nat) (i : Nat) : List Nat := (List.range N).map (lab y l K i)
theorem lst_len (N y : Nat) (l : List Int) (K : List Nat) (i : Nat) : (lst N y l K i).length = N := by simp [lst]
theorem lst_get {N y u : Nat} (l : List Int) (K : List Nat) (i : Nat) (h : u < N) : (lst N y l K i)[u]? = some (lab y l K i u) := by simp [lst, h]
theorem lst_zero (N y : Nat) (l : List Int) (K : List Nat) : lst N y l K 0 = List.replicate N 0 := by
  refine List.ext_getElem? fun j => ?_
  rcases Nat.lt_or_ge j N with h | h
  · simp [lst, lab, h]
  · simp [lst, h]
theorem lst_set {N y i x X : Nat} {l : List Int} {K : List Nat} (hx : K[i]? = some x) (hX : nos l x + (K.take i).count x = X) : (lst N y l K i).set x (bts y X + 1) = lst N y l K (i + 1) := by
  refine List.ext_getElem? fun j => ?_
  rw [List.getElem?_set]
  rcases Nat.lt_or_ge j N with h | h
  · rw [lst_get l K (i + 1) h]
    unfold lab
    rw [take_succ_get hx, List.count_append, List.count_singleton]
    by_cases hij : x = j
    · subst hij
      rw [if_pos rfl, if_pos (by rw [lst_len]; exact h)]
      simp [hX]
    · rw [if_neg hij, lst_get l K i h]
      unfold lab
      simp [hij]
  · rw [List.getElem?_eq_none (l := lst N y l K (i + 1)) (by rw [lst_len]; exact h)]
    split
    · rw [if_neg (by rw [lst_len]; omega)]
    · exact List.getElem?_eq_none (by rw [lst_len]; exact h)
/-- The bits do not increase. -/
theorem lab_mono {y i x X n : Nat} {l : List Int} {K : List Nat} (hn : nos l x = n) (h1 : 1 ≤ n) (hX : n + (K.take i).count x = X) : lab y l K i x = 0 ∨ bts y X + 1 ≤ lab y l K i x := by
  unfold lab
  split
  · exact .inl rfl
  · right
    have := bts_mono (y := y) (X := nos l x + ((K.take i).count x - 1)) (X' := X) (by omega) (by omega)
    omega
theorem lab_le (y i u : Nat) (l : List Int) (K : List Nat) : lab y l K i u ≤ y + 1 := by
  unfold lab
  split
  · omega
  · have := bts_le y (nos l u + ((K.take i).count u - 1)); omega
/-- A power of two: the span's number times the states is all. -/
theorem two_pow_list {n : Nat} (h : n = 1 ∨ n = 2 ∨ n = 4 ∨ n = 8 ∨ n = 16 ∨ n = 32 ∨ n = 64 ∨ n = 128 ∨ n = 256 ∨ n = 512) : ∃ e, n = 2 ^ e := by
  rcases h with rfl | rfl | rfl | rfl | rfl | rfl | rfl | rfl | rfl | rfl
  · exact ⟨0, rfl⟩
  · exact ⟨1, rfl⟩
  · exact ⟨2, rfl⟩
  · exact ⟨3, rfl⟩
  · exact ⟨4, rfl⟩
  · exact ⟨5, rfl⟩
  · exact ⟨6, rfl⟩
  · exact ⟨7, rfl⟩
  · exact ⟨8, rfl⟩
  · exact ⟨9, rfl⟩

end Go.Proofs.Ytfgjeiheekohdaa
