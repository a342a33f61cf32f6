/-
  The mathematics of SpreadSteps: which indices the first visits have seen; a made row of bools. No condition beyond those that each theorem states.
-/
import Derived.Test.YtpiebkkaileocaaOf
namespace Go.Proofs.Ytpiebkkaileocaa
open Go.RowKit Go.Shelf

def sn (s i : Nat) : List Bool := (List.range s).map (fun k => decide (k ∈ (vis s).take i))
theorem sn_zero (s : Nat) : sn s 0 = List.replicate s false := by
  refine List.ext_getElem? fun j => ?_
  rcases Nat.lt_or_ge j s with h | h
  · simp [sn, h]
  · simp [sn, h]
theorem sn_get {s k : Nat} (i : Nat) (h : k < s) : (sn s i)[k]? = some (decide (k ∈ (vis s).take i)) := by simp [sn, h]
theorem sn_set {s i : Nat} (hi : i < s) : (sn s i).set (vi s i) true = sn s (i + 1) := by
  refine List.ext_getElem? fun j => ?_
  rw [List.getElem?_set]
  rcases Nat.lt_or_ge j s with h | h
  · rw [sn_get (i + 1) h, take_succ_get (vis_get hi)]
    by_cases hij : vi s i = j
    · subst hij
      rw [if_pos rfl, if_pos (by simp [sn]; exact h)]
      simp
    · rw [if_neg hij, sn_get i h]
      have : ¬ j = vi s i := fun e => hij e.symm
      simp [this]
  · rw [List.getElem?_eq_none (l := sn s (i + 1)) (by simp [sn]; exact h)]
    split
    · rw [if_neg (by simp [sn]; omega)]
    · exact List.getElem?_eq_none (by simp [sn]; exact h)
theorem sn_new {y s i : Nat} (h : y ≤ 9) (hse : 2 ^ y = s) (hi : i < s) : vi s i ∉ (vis s).take i := by
  have hn := vis_nodup h
  rw [hse] at hn
  rw [← List.take_append_drop i (vis s), List.nodup_append] at hn
  intro hm
  refine hn.2.2 _ hm _ ?_ rfl
  rw [vis_drop hi]
  simp

theorem bool_info : (Try.prog.info? 4).map (fun i => (i.zero, i.size, i.bytes)) = some (some (.bool false), 1, 1) := by kernel_rfl
theorem made_bools (n : Nat) : (madeCells (Value.bool false).cells (n * 1)).toList = (List.replicate n false).map Value.bool := by
  refine List.ext_getElem? fun j => ?_
  simp only [madeCells, Nat.mul_one, Value.cells]
  rcases Nat.lt_or_ge j n with h | h
  · simp [h, Nat.mod_one]
  · simp [h]
theorem make_bools (n : Nat) (hn : n ≤ 10000000) (W : World) : ∃ w1, (Instr.makeSlice 38 (.int .i64 (n : Int)) (.int .i64 (n : Int))).run Try.prog W = .ok (.slice (some ⟨W.heap.size, 0, none⟩) n n) w1 ∧
    w1.ownsRow W.heap.size 4 1 (.slice (some ⟨W.heap.size, 0, none⟩) n n) n ((List.replicate n false).map Value.bool) ∧ Below W.heap.size W w1 := by
  obtain ⟨i0, hi, hz0, hz1, hz2⟩ := info_parts bool_info
  obtain ⟨w1, h1, h2, h3⟩ := run_makeSlice_full (P := Try.prog) W W.heap.size 38 4 i0 (.bool false) 1 Try.underlying38 hi hz0 hz1 .i64 .i64 n (by omega) (by rw [hz2]; omega) (by unfold maxLen; omega) (Nat.le_refl _)
  rw [made_bools] at h2
  exact ⟨w1, h1, h2, (Below.refl _ _).grown h3 (Nat.le_refl _) (fun k e => by cases e)⟩

end Go.Proofs.Ytpiebkkaileocaa
