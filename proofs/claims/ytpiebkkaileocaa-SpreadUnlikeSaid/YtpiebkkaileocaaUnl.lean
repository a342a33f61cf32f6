/-
  The mathematics of SpreadUnlike: two valid tables with the same spread have the same Log, as many norms, and the same numbers of states. No condition beyond those that each theorem states.
-/
import Derived.Test.YtpiebkkaileocaaCnt
namespace Go.Proofs.Ytpiebkkaileocaa

theorem sts_pos {x : Int} (h : -1 ≤ x) (h0 : x ≠ 0) : 1 ≤ sts x := by
  unfold sts
  split <;> omega
theorem unl_len {y z : Nat} {l m : List Int} (hv : Vt y l) (hm : Vt z m) (h : spl (2 ^ y) l = spl (2 ^ z) m) : m.length ≤ l.length := by
  rcases Nat.lt_or_ge l.length m.length with h1 | h1
  · have h2 := hm.pos
    obtain ⟨x, hx⟩ : ∃ x, m[m.length - 1]? = some x := ⟨_, List.getElem?_eq_getElem (by omega)⟩
    have h3 : x ≠ 0 := by
      rintro rfl
      exact hm.last (by rw [List.getLast?_eq_getElem?]; exact hx)
    have h4 : -1 ≤ x := by
      have := hm.ok
      unfold okn at this
      rw [List.all_eq_true] at this
      have := this x (List.mem_of_getElem? hx)
      simpa using this
    have h5 := sts_pos h4 h3
    have h6 := hm.count (m.length - 1)
    have h7 := hv.count (m.length - 1)
    rw [hx] at h6
    rw [List.getElem?_eq_none (by omega), h] at h7
    simp only at h6 h7
    omega
  · exact h1
theorem unl_log {y z : Nat} {l m : List Int} (h : spl (2 ^ y) l = spl (2 ^ z) m) : y = z := by
  have h1 := congrArg List.length h
  rw [spl_len, spl_len] at h1
  exact (Nat.pow_right_inj (by decide)).1 h1
theorem unl_sts {y z : Nat} {l m : List Int} (hv : Vt y l) (hm : Vt z m) (h : spl (2 ^ y) l = spl (2 ^ z) m) {k : Nat} {a b : Int} (ha : l[k]? = some a) (hb : m[k]? = some b) : sts a = sts b := by
  have h6 := hm.count k
  have h7 := hv.count k
  rw [hb] at h6
  rw [ha, h] at h7
  simp only at h6 h7
  omega

end Go.Proofs.Ytpiebkkaileocaa
