/-
  What norm.Normalize does: it returns the normalized table of valid counts, its norms in new memory, or the error. Nothing that was there has changed. Condition: at most 1000000 counts.
-/
import Derived.Test.YtkojdhmgefggjaaNms
namespace Go.Proofs.Ytkojdhmgefggjaa
open Go.RowKit Go.Shelf

theorem usy_sorted (k : List Nat) : (usy k).Pairwise (· < ·) := List.Pairwise.filter _ List.pairwise_lt_range
theorem usy_last {k : List Nat} {n : Nat} (hn : (usy k).length = n) (h0 : 0 < n) : (usy k)[n - 1]? = some (lst k) := by
  unfold lst
  rw [List.getLast?_eq_getElem?, hn, List.getElem?_eq_getElem (by omega)]
  rfl
theorem usy_le {k : List Nat} : ∀ i ∈ usy k, i ≤ lst k := by
  intro i hi
  obtain ⟨j, hj, rfl⟩ := List.getElem_of_mem hi
  have hl := usy_last (k := k) rfl (by omega)
  rw [List.getElem?_eq_getElem (by omega)] at hl
  have hl := Option.some.inj hl
  rw [← hl]
  rcases Nat.lt_or_ge j ((usy k).length - 1) with h | h
  · exact Nat.le_of_lt (List.pairwise_iff_getElem.1 (usy_sorted k) _ _ hj (by omega) h)
  · have e : j = (usy k).length - 1 := by omega
    simp only [e]
    exact Nat.le_refl _
theorem lst_mem {k : List Nat} (h : 0 < nus k) : lst k ∈ usy k := List.mem_of_getElem? (usy_last rfl (by rw [usy_len]; exact h))
theorem lst_lt {k : List Nat} (h : 0 < nus k) : lst k < k.length := (usy_mem.1 (lst_mem h)).1
theorem nrm_eq {k : List Nat} {s T : Nat} (h : 0 < nus k) (hT : tot k = T) : nml (lst k + 1) (nval (shr k s) (fin k s) T) (usy k) = nrm k s := by
  have hl := lst_lt h
  unfold nml nrm
  refine List.map_congr_left fun i hi => ?_
  rw [List.mem_range] at hi
  unfold nm nval shr
  subst hT
  by_cases hc : cn k i = 0
  · rw [if_pos hc, if_neg (fun e => by have := (usy_mem.1 e).2; omega)]
  · rw [if_neg hc, if_pos (usy_mem.2 ⟨by omega, by omega⟩)]
    by_cases h2 : cn k i * s < tot k
    · rw [if_pos h2, if_pos (by omega)]
    · rw [if_neg h2, if_neg (by omega)]
theorem rg0 (k : List Nat) {s : Nat} (hs : s ≤ 512) (hT : tot k ≤ 1099511627776) : Rg (usy k) (shr k s) (st0 k s) 512 := by
  refine ⟨fun i _ => ?_, fun i _ => st0_bd k hs i⟩
  unfold shr
  have h1 : cn k i * s ≤ 1099511627776 * 512 := Nat.mul_le_mul (Nat.le_trans (cn_le i) hT) hs
  omega
theorem lft_bd (k : List Nat) {s : Nat} (hs : s ≤ 512) (hu : nus k ≤ s) : -262144 ≤ lft k s ∧ lft k s ≤ 512 := by
  have h9 := sm_bound (st := st0 k s) (M := 512) (U := usy k) (fun j _ => st0_bd k hs j)
  rw [usy_len] at h9
  unfold lft
  omega

theorem results_cell2 {fn : Func} {a b : Tmp} {t : TypeId} (h : fn.results = #[.cell a t, .tmp b]) {tmps : Array Value} {P : Program} {w : World} {ad : Addr} {v : Value} (hp : tmps.getD a undef = .pointer (some ad)) (hl : (loadVar t ad).run P w = .ok v w) :
    (results fn tmps).run P w = .ok (.tuple #[v, tmps.getD b undef]) w := by
  have hp' : tmps[a]?.getD undef = .pointer (some ad) := by simpa using hp
  simp [results, h, hp', asAddr]
  rw [hl]
  simp [Result.andThen]

end Go.Proofs.Ytkojdhmgefggjaa
