/-
  What slices.Clone does at a list of counts: a list in new memory with the same counts. Condition: at most 256 counts.
-/
import Derived.Lib.SliceRun
import Derived.Test.YtdlhfcapfbbjjaaIns
namespace Go.Proofs.Ytdlhfcapfbbjjaa
open Go.RowKit Go.Shelf

theorem und_list : Try.prog.underlying 60 = some (.slice 3) := by kernel_rfl
theorem nv_one (k : List Nat) : ∀ u ∈ k.map nv, u.oneCell' = true := by
  intro v hv
  obtain ⟨b, _, rfl⟩ := List.mem_map.1 hv
  rfl

theorem own_empty (w : World) : (w.alloc (.cells #[] 3)).ownsRow w.heap.size 3 1 (.slice (some ⟨w.heap.size, 0, none⟩) 0 0) 0 [] :=
  ⟨rfl, .inr ⟨w.heap.size, 0, #[], rfl, Nat.le_refl _, World.alloc_heap_new w _, Nat.le_refl _, by simp, by simp, by simp⟩⟩

set_option maxRecDepth 100000 in
set_option maxHeartbeats 1000000 in
theorem clone_any (A : Option Addr) (k : List Nat) (N c : Nat) (hk : k.length = N) (hN : N ≤ 256) (w : World) (hR : Rn w A k) :
    Calls Try.prog 56 #[.slice A N c] w fun e w' => ∃ A' c', e = .returned (.slice A' N c') ∧ N ≤ c' ∧ w'.ownsRow w.heap.size 3 1 (.slice A' N c') N (k.map nv) ∧ Below w.heap.size w w' := by
  cases A with
  | none =>
    have hk0 : k = [] := by
      rcases k with _ | ⟨b, l⟩
      · rfl
      · obtain ⟨ad, e, _⟩ := hR 0 (nv b) rfl
        cases e
    subst hk0
    simp at hk
    subst hk
    have q1 := fun W => Lib.run_eql_slice_nil (P := Try.prog) W 60 3 none 0 c 0 0 und_list
    go_enter Try.func56, Try.ntmps56
    go_wp2
    go_ret
    exact ⟨none, 0, rfl, Nat.le_refl _, World.ownsRow_nil w w.heap.size 3 1, Below.refl _ _⟩
  | some ad =>
    have q1 := fun W => Lib.run_eql_slice_nil (P := Try.prog) W 60 3 (some ad) N c 0 0 und_list
    go_enter Try.func56, Try.ntmps56
    have O0 : Hid ((w.alloc (.cells #[] 3)).ownsRow w.heap.size 3 1 (.slice (some ⟨w.heap.size, 0, none⟩) 0 0) 0 []) := Lib.hid (own_empty w)
    have B0 : Hid (Below w.heap.size w (w.alloc (.cells #[] 3))) := Lib.hid ((Below.refl _ w).alloc (Nat.le_refl _) _)
    have R0 : Hid (Rn (w.alloc (.cells #[] 3)) (some ad) k) := Lib.hid (hR.below B0.out)
    have HK := Lib.hid hk
    clear hk hR
    go_wp2_with (at_builtin; refine wpList_append_vals und_list int_info rfl rfl _ _ rfl w.heap.size (.slice (some ⟨w.heap.size, 0, none⟩) 0 0) 0 [] rfl O0.out (some ad) (k.map nv) (nv_one k) N c (by rw [List.length_map]; exact HK.out) rfl R0.out (by omega) (by omega) B0.out.size ?_; intro v1 w1 ho hg he; rw [Nat.zero_add, List.nil_append] at ho; obtain ⟨A1, c1, rfl, hc1⟩ := own_form ho; have B1 := Lib.hid (B0.out.grown hg B0.out.size (fun j ej => by cases ej; exact Nat.le_refl _)); have O1 := Lib.hid ho; clear ho hg he)
    go_ret
    exact ⟨A1, c1, rfl, hc1, O1.out, B1.out⟩

end Go.Proofs.Ytdlhfcapfbbjjaa
