/-
  The mathematics of SpreadCounts: counts of symbols in a list's first entries. No condition beyond those that each theorem states.
-/
import Derived.Test.YtonapehlhkoplaaSpm
namespace Go.Proofs.Ytonapehlhkoplaa

/-- How often each of the symbols below N stands in the first i entries. -/
def cn (N : Nat) (K : List Nat) (i : Nat) : List Nat := (List.range N).map (fun k => (K.take i).count k)
theorem cn_zero (N : Nat) (K : List Nat) : cn N K 0 = List.replicate N 0 := by
  refine List.ext_getElem? fun j => ?_
  rcases Nat.lt_or_ge j N with h | h
  · simp [cn, h]
  · simp [cn, h]
theorem cn_get {N k : Nat} (K : List Nat) (i : Nat) (h : k < N) : (cn N K i)[k]? = some ((K.take i).count k) := by simp [cn, h]
theorem cn_set {N : Nat} {K : List Nat} {i x : Nat} (hx : K[i]? = some x) : (cn N K i).set x ((K.take i).count x + 1) = cn N K (i + 1) := by
  refine List.ext_getElem? fun j => ?_
  rw [List.getElem?_set]
  rcases Nat.lt_or_ge j N with h | h
  · rw [cn_get K (i + 1) h, take_succ_get hx, List.count_append, List.count_singleton]
    by_cases hij : x = j
    · subst hij
      rw [if_pos rfl, if_pos (by simp [cn]; exact h)]
      simp
    · rw [if_neg hij, cn_get K i h]
      simp [hij]
  · rw [List.getElem?_eq_none (l := cn N K (i + 1)) (by simp [cn]; exact h)]
    split
    · rw [if_neg (by simp [cn]; omega)]
    · exact List.getElem?_eq_none (by simp [cn]; exact h)
theorem spl_lt {y : Nat} {l : List Int} (hv : Vt y l) {x : Nat} (hx : x ∈ spl (2 ^ y) l) : x < l.length := by
  rcases Nat.lt_or_ge x l.length with h | h
  · exact h
  · have h1 := hv.count x
    rw [List.getElem?_eq_none h] at h1
    have h2 := List.count_pos_iff.2 hx
    simp only at h1
    omega

end Go.Proofs.Ytonapehlhkoplaa
