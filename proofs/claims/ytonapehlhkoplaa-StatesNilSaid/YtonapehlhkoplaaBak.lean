/-
  The mathematics of the predecessors: each state has one for each symbol with states, and the other way round. Conditions: those that each theorem states.
-/
import Derived.Test.YtonapehlhkoplaaFrm
namespace Go.Proofs.Ytonapehlhkoplaa
open Go.RowKit Go.Shelf

theorem halves {n : Nat} (hn : 1 ≤ n) : ∀ X : Nat, n ≤ X → ∃ j, n ≤ X / 2 ^ j ∧ X / 2 ^ j < 2 * n := by
  intro X
  induction X using Nat.strongRecOn with
  | ind X ih =>
    intro h
    rcases Nat.lt_or_ge X (2 * n) with h1 | h1
    · exact ⟨0, by simpa using h, by simpa using h1⟩
    · obtain ⟨j, h2, h3⟩ := ih (X / 2) (by omega) (by omega)
      refine ⟨j + 1, ?_, ?_⟩
      · rw [Nat.pow_succ', ← Nat.div_div_eq_div_mul]; exact h2
      · rw [Nat.pow_succ', ← Nat.div_div_eq_div_mul]; exact h3
section
variable {y s : Nat} {l : List Int}
theorem nos_le (hv : Vt y l) (hse : 2 ^ y = s) (x : Nat) : nos l x ≤ s := by
  rw [hv.nos, ← hse]
  have := List.count_le_length (a := x) (l := spl (2 ^ y) l)
  rwa [spl_len] at this
/-- The predecessor of a state for a symbol. -/
theorem back_at (hv : Vt y l) (hse : 2 ^ y = s) {x t : Nat} (hx : 1 ≤ nos l x) (ht : t < s) : ∃ i p q, i < s ∧ (cls y l (spl s l))[i]? = some (x, p, q) ∧ p ≤ 9 ∧ q ≤ t ∧ t < q + 2 ^ p ∧ Tp (cls y l (spl s l)) (t : Int) (x : Int) = .tuple #[stv (i : Int) ((t - q : Nat) : Int) (p : Int), .int .i64 0] := by
  have hle := nos_le hv hse x
  obtain ⟨j, h1, h2⟩ := halves hx (s + t) (by omega)
  obtain ⟨i, c, r1, r2, r3, r4, r5, r6, r7, r8⟩ := vt_place hv (x := x) (t := t) (j := j) hx (by rw [hse]; exact ht) (by rw [hse]) h1 h2
  obtain ⟨x', p, q⟩ := c
  simp only at r4 r5 r6 r7
  subst r4
  rw [hse] at r2 r3 r8
  refine ⟨i, p, q, r2, r3, r5, r6, r7, ?_⟩
  unfold Tp pra pre
  rw [cls_s hv hse, if_neg (by omega), if_neg (by omega), r8]
  simp only [r3, Option.getD_some, Option.isSome_some, if_true]
  have e : ((t : Int) - (q : Int)).toNat = t - q := by omega
  rw [e]
/-- The state is the predecessor of the states in its span. -/
theorem onto_at (hv : Vt y l) (hse : 2 ^ y = s) {i t : Nat} {x p q : Nat} (hc : (cls y l (spl s l))[i]? = some (x, p, q)) (h1 : q ≤ t) (h2 : t < q + 2 ^ p) (ht : t < s) : Tp (cls y l (spl s l)) (t : Int) (x : Int) = .tuple #[stv (i : Int) ((t - q : Nat) : Int) (p : Int), .int .i64 0] := by
  have hh : hit (x : Int) (t : Int) (x, p, q) = true := by
    rw [hit_iff]
    simp only
    exact ⟨trivial, by omega, by omega⟩
  have hf : (cls y l (spl s l)).findIdx? (hit (x : Int) (t : Int)) = some i := fst_some hc hh (fun j d hj hd => by
    cases hq : hit (x : Int) (t : Int) d with
    | false => rfl
    | true =>
      rw [← hse] at hd hc
      have := vt_uniq hv hd hc hq hh
      omega)
  unfold Tp pra pre
  rw [cls_s hv hse, if_neg (by omega), if_neg (by omega), hf]
  simp only [hc, Option.getD_some, Option.isSome_some, if_true]
  have e : ((t : Int) - (q : Int)).toNat = t - q := by omega
  rw [e]
theorem span_of (hv : Vt y l) (hse : 2 ^ y = s) {i : Nat} {x p q : Nat} (hc : (cls y l (spl s l))[i]? = some (x, p, q)) : q + 2 ^ p ≤ s ∧ p ≤ 9 ∧ x ≤ 256 ∧ x < l.length ∧ 1 ≤ nos l x := by
  have hi := (List.getElem?_eq_some_iff.1 hc).1
  rw [cls_s hv hse, ← hse] at hi
  rw [← hse] at hc
  obtain ⟨x', n, X, b1, b2, b3, b4, b5, b6⟩ := vt_cell hv hi
  rw [b4] at hc
  injection hc with hc
  injection hc with hx hc
  injection hc with hp hq
  subst hx hp hq
  have h1 := hv.len
  have h2 := hv.log
  have h3 := bts_le y X
  have h4 := b5.fits
  have h5 := b5.pos
  exact ⟨by omega, by omega, by omega, b6, by omega⟩
theorem tc_at {C : List (Nat × Nat × Nat)} {i x p q : Nat} (hc : C[i]? = some (x, p, q)) : Tc C (i : Int) = .tuple #[cev (x : Int) (p : Int) (q : Int), .int .i64 0] := by
  obtain ⟨e1, e2⟩ := cle_ok hc
  unfold Tc
  rw [e1, e2]
theorem tn_at {C : List (Nat × Nat × Nat)} {i x p q : Nat} (hc : C[i]? = some (x, p, q)) (v : Nat) : Tn C (i : Int) v = .tuple #[.int .i64 ((q + v % 2 ^ p : Nat) : Int), .int .i64 0] := by
  obtain ⟨e1, e2⟩ := cle_ok hc
  unfold Tn nxa
  rw [e1, e2, if_pos rfl]
end

end Go.Proofs.Ytonapehlhkoplaa
