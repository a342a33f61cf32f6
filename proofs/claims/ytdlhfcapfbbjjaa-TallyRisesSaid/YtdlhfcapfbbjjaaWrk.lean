/-
  The laws' helper works: it returns true. Nothing that was there has changed. No condition.
-/
import Derived.Test.YtdlhfcapfbbjjaaAcc
import Derived.Test.YtdlhfcapfbbjjaaAdd
import Derived.Test.YtdlhfcapfbbjjaaSml
namespace Go.Proofs.Ytdlhfcapfbbjjaa
open Go.RowKit

theorem lit_rv (w : World) (xs : List Value) (t : TypeId) : Rv (w.alloc (.cells xs.toArray t)) (some ⟨w.heap.size, 0, none⟩) xs := by
  intro j v hj
  refine ⟨_, rfl, ?_⟩
  have e : (Addr.add ⟨w.heap.size, 0, none⟩ j) = ⟨w.heap.size, j, none⟩ := by
    unfold Addr.add
    by_cases h0 : j = 0
    · rw [if_pos h0, h0]
    · rw [if_neg h0]; simp
  rw [e, cell_of_row _ _ j _ _ _ (World.alloc_heap_new w _)]
  simpa using hj
theorem lit_bel (w : World) (o : Obj) : Below w.heap.size w (w.alloc o) := (Below.refl _ w).alloc (Nat.le_refl _) _

theorem w_total (w : World) : Calls Try.prog 21 #[.slice (some ⟨w.heap.size, 0, none⟩) 3 3] (w.alloc (.cells #[.int .i64 2, .int .i64 0, .int .i64 1] 3)) fun e w' => e = .returned (.tuple #[.int .i64 3, .int .i64 0]) ∧ Below w.heap.size w w' := by
  have h := total_yes (w.alloc (.cells #[.int .i64 2, .int .i64 0, .int .i64 1] 3)) (some ⟨w.heap.size, 0, none⟩) [2, 0, 1] 3 3 rfl (by decide) (by unfold Vld; decide) (lit_rv w ([2, 0, 1].map nv) 3)
  rw [show tot [2, 0, 1] = 3 by decide +kernel] at h
  exact h.mono fun e w' h => ⟨h.1, below_on (lit_bel w _) (Nat.le_refl _) h.2⟩

theorem w_dist (w : World) : Calls Try.prog 22 #[.slice (some ⟨w.heap.size, 0, none⟩) 3 3] (w.alloc (.cells #[.int .i64 2, .int .i64 0, .int .i64 1] 3)) fun e w' => e = .returned (.tuple #[.int .i64 2, .int .i64 0]) ∧ Below w.heap.size w w' := by
  have h := distinct_yes (w.alloc (.cells #[.int .i64 2, .int .i64 0, .int .i64 1] 3)) (some ⟨w.heap.size, 0, none⟩) [2, 0, 1] 3 3 rfl (by decide) (by unfold Vld; decide) (lit_rv w ([2, 0, 1].map nv) 3)
  rw [show (usd 0 [2, 0, 1]).length = 2 by decide +kernel] at h
  exact h.mono fun e w' h => ⟨h.1, below_on (lit_bel w _) (Nat.le_refl _) h.2⟩

theorem w_most (w : World) : Calls Try.prog 26 #[.slice (some ⟨w.heap.size, 0, none⟩) 3 3] (w.alloc (.cells #[.int .i64 1, .int .i64 3, .int .i64 3] 3)) fun e w' => e = .returned (.tuple #[.int .i64 1, .int .i64 0]) ∧ Below w.heap.size w w' := by
  have h := most_yes (w.alloc (.cells #[.int .i64 1, .int .i64 3, .int .i64 3] 3)) (some ⟨w.heap.size, 0, none⟩) [1, 3, 3] 3 3 rfl (by decide) (by unfold Vld; decide) (lit_rv w ([1, 3, 3].map nv) 3)
  rw [show mfv [1, 3, 3] (gre [1, 3, 3]) = 1 by decide +kernel, show mfe [1, 3, 3] (gre [1, 3, 3]) = 0 by decide +kernel] at h
  exact h.mono fun e w' h => ⟨h.1, below_on (lit_bel w _) (Nat.le_refl _) h.2⟩

theorem w_most0 (w : World) : Calls Try.prog 26 #[.slice (some ⟨w.heap.size, 0, none⟩) 1 1] (w.alloc (.cells #[.int .i64 0] 3)) fun e w' => e = .returned (.tuple #[.int .i64 0, .int .i64 22]) ∧ Below w.heap.size w w' := by
  have h := most_yes (w.alloc (.cells #[.int .i64 0] 3)) (some ⟨w.heap.size, 0, none⟩) [0] 1 1 rfl (by decide) (by unfold Vld; decide) (lit_rv w ([0].map nv) 3)
  rw [show mfv [0] (gre [0]) = 0 by decide +kernel, show mfe [0] (gre [0]) = 22 by decide +kernel] at h
  exact h.mono fun e w' h => ⟨h.1, below_on (lit_bel w _) (Nat.le_refl _) h.2⟩

theorem w_cost (w : World) : Calls Try.prog 32 #[.slice (some ⟨w.heap.size, 0, none⟩) 3 3] (w.alloc (.cells #[.int .i64 2, .int .i64 1, .int .i64 1] 3)) fun e w' => e = .returned (.tuple #[.int .i64 1536, .int .i64 0]) ∧ Below w.heap.size w w' := by
  have h := cost_yes (w.alloc (.cells #[.int .i64 2, .int .i64 1, .int .i64 1] 3)) (some ⟨w.heap.size, 0, none⟩) [2, 1, 1] 3 3 rfl (by decide) (by unfold Vld; decide) (lit_rv w ([2, 1, 1].map nv) 3)
  rw [show cst [2, 1, 1] = 1536 by decide +kernel] at h
  exact h.mono fun e w' h => ⟨h.1, below_on (lit_bel w _) (Nat.le_refl _) h.2⟩

theorem w_cost0 (w : World) : Calls Try.prog 32 #[.slice (some ⟨w.heap.size, 0, none⟩) 2 2] (w.alloc (.cells #[.int .i64 0, .int .i64 9] 3)) fun e w' => e = .returned (.tuple #[.int .i64 0, .int .i64 0]) ∧ Below w.heap.size w w' := by
  have h := cost_yes (w.alloc (.cells #[.int .i64 0, .int .i64 9] 3)) (some ⟨w.heap.size, 0, none⟩) [0, 9] 2 2 rfl (by decide) (by unfold Vld; decide) (lit_rv w ([0, 9].map nv) 3)
  rw [show cst [0, 9] = 0 by decide +kernel] at h
  exact h.mono fun e w' h => ⟨h.1, below_on (lit_bel w _) (Nat.le_refl _) h.2⟩

theorem w_check (w : World) : Calls Try.prog 20 #[.slice (some ⟨w.heap.size, 0, none⟩) 1 1] (w.alloc (.cells #[.int .i64 (-1)] 3)) fun e w' => e = .returned (.int .i64 2) ∧ Below w.heap.size w w' := by
  have h := check_any (w.alloc (.cells #[.int .i64 (-1)] 3)) (some ⟨w.heap.size, 0, none⟩) [-1] 1 1 rfl (lit_rv w ([-1].map iv) 3)
  rw [show ok [-1] = false by decide +kernel] at h
  exact h.mono fun e w' h => ⟨h.1, by rw [h.2]; exact lit_bel w _⟩

theorem w_run1 (w : World) : Calls Try.prog 17 #[.slice (some ⟨w.heap.size, 0, none⟩) 2 2] (w.alloc (.cells #[.int .u8 7, .int .u8 7] 5)) fun e w' => e = .returned (.tuple #[.int .u8 7, .bool true]) ∧ Below w.heap.size w w' := by
  have h := isrun_any (w.alloc (.cells #[.int .u8 7, .int .u8 7] 5)) (some ⟨w.heap.size, 0, none⟩) [7, 7] 2 2 rfl (by decide) (lit_rv w (([7, 7] : List UInt8).map byt) 5)
  rw [show runv [7, 7] = 7 by decide +kernel, show runb [7, 7] = true by decide +kernel] at h
  exact h.mono fun e w' h => ⟨h.1, by rw [h.2]; exact lit_bel w _⟩

theorem w_run2 (w : World) : Calls Try.prog 17 #[.slice (some ⟨w.heap.size, 0, none⟩) 2 2] (w.alloc (.cells #[.int .u8 7, .int .u8 8] 5)) fun e w' => e = .returned (.tuple #[.int .u8 0, .bool false]) ∧ Below w.heap.size w w' := by
  have h := isrun_any (w.alloc (.cells #[.int .u8 7, .int .u8 8] 5)) (some ⟨w.heap.size, 0, none⟩) [7, 8] 2 2 rfl (by decide) (lit_rv w (([7, 8] : List UInt8).map byt) 5)
  rw [show runv [7, 8] = 0 by decide +kernel, show runb [7, 8] = false by decide +kernel] at h
  exact h.mono fun e w' h => ⟨h.1, by rw [h.2]; exact lit_bel w _⟩

theorem w_run3 (w : World) : Calls Try.prog 17 #[.slice none 0 0] w fun e w' => e = .returned (.tuple #[.int .u8 0, .bool false]) ∧ w' = w := isrun_any w none [] 0 0 rfl (by decide) (Rv.nil _ _)

/-- The world of the two literal slices and the slice of them. -/
def hw (w : World) : World := ((w.alloc (.cells #[.int .u8 1, .int .u8 2, .int .u8 1] 5)).alloc (.cells #[.int .u8 1] 5)).alloc (.cells #[.slice (some ⟨w.heap.size, 0, none⟩) 3 3, .slice (some ⟨w.heap.size + 1, 0, none⟩) 1 1] 22)
theorem w_his (w : World) : Calls Try.prog 15 #[.slice (some ⟨w.heap.size + 1 + 1, 0, none⟩) 2 2] (hw w) fun e w' => ∃ b, e = .returned (.slice (some ⟨b, 0, none⟩) 256 256) ∧ w'.cell? ⟨b, 1, none⟩ = some (.int .i64 3) ∧ w'.cell? ⟨b, 2, none⟩ = some (.int .i64 1) ∧ Below w.heap.size w w' := by
  have g1 : Below w.heap.size w (hw w) := (((Below.refl _ w).alloc (Nat.le_refl _) _).alloc (by simp) _).alloc (by simp; omega) _
  have r0 : Rd (hw w) (some ⟨w.heap.size, 0, none⟩) [1, 2, 1] := ((lit_rv w (([1, 2, 1] : List UInt8).map byt) 5).below (lit_bel _ _)).below (lit_bel _ _)
  have r1 : Rd (hw w) (some ⟨w.heap.size + 1, 0, none⟩) [1] := by
    have := (lit_rv (w.alloc (.cells #[.int .u8 1, .int .u8 2, .int .u8 1] 5)) (([1] : List UInt8).map byt) 5)
    rw [World.size_alloc] at this
    exact this.below (lit_bel _ _)
  have rr : RdR (hw w) (some ⟨w.heap.size + 1 + 1, 0, none⟩) [(some ⟨w.heap.size, 0, none⟩, [1, 2, 1], 3), (some ⟨w.heap.size + 1, 0, none⟩, [1], 1)] := by
    have := lit_rv ((w.alloc (.cells #[.int .u8 1, .int .u8 2, .int .u8 1] 5)).alloc (.cells #[.int .u8 1] 5)) [.slice (some ⟨w.heap.size, 0, none⟩) 3 3, .slice (some ⟨w.heap.size + 1, 0, none⟩) 1 1] 22
    rw [World.size_alloc, World.size_alloc] at this
    intro j B m c hj
    rcases j with _ | _ | j
    · simp at hj
      obtain ⟨rfl, rfl, rfl⟩ := hj
      exact ⟨_, rfl, this.cells 0 _ rfl, by decide, r0⟩
    · simp at hj
      obtain ⟨rfl, rfl, rfl⟩ := hj
      exact ⟨_, rfl, this.cells 1 _ rfl, by decide, r1⟩
    · simp at hj
  have ef : ∀ A B : Option Addr, flt [(A, ([1, 2, 1] : List UInt8), 3), (B, ([1] : List UInt8), 1)] 2 = [1, 2, 1, 1] := fun _ _ => rfl
  have h := histogram_any (hw w) _ _ 2 2 rfl (by decide) (by rw [ef]; decide) rr
  rw [ef] at h
  refine h.mono fun e w' h => ⟨_, h.1, ?_, ?_, below_on g1 (Nat.le_refl _) h.2.2⟩
  · exact h.2.1.cell (i := 1) (x := 3) (by decide +kernel)
  · exact h.2.1.cell (i := 2) (x := 1) (by decide +kernel)

theorem w_add (w : World) : Calls Try.prog 28 #[.slice (some ⟨w.heap.size, 0, none⟩) 2 2, .slice (some ⟨w.heap.size + 1, 0, none⟩) 1 1] ((w.alloc (.cells #[.int .i64 1, .int .i64 2] 3)).alloc (.cells #[.int .i64 5] 3)) fun e w' => ∃ A' c', e = .returned (.tuple #[.slice A' 2 c', .int .i64 0]) ∧ Rn w' A' [6, 2] ∧ Below w.heap.size w w' := by
  have g1 : Below w.heap.size w ((w.alloc (.cells #[.int .i64 1, .int .i64 2] 3)).alloc (.cells #[.int .i64 5] 3)) := ((Below.refl _ w).alloc (Nat.le_refl _) _).alloc (by simp) _
  have r0 : Rn ((w.alloc (.cells #[.int .i64 1, .int .i64 2] 3)).alloc (.cells #[.int .i64 5] 3)) (some ⟨w.heap.size, 0, none⟩) [1, 2] := (lit_rv w ([1, 2].map nv) 3).below (lit_bel _ _)
  have r1 : Rn ((w.alloc (.cells #[.int .i64 1, .int .i64 2] 3)).alloc (.cells #[.int .i64 5] 3)) (some ⟨w.heap.size + 1, 0, none⟩) [5] := by
    have := lit_rv (w.alloc (.cells #[.int .i64 1, .int .i64 2] 3)) ([5].map nv) 3
    rw [World.size_alloc] at this
    exact this
  refine (add_yes _ _ [1, 2] 2 2 rfl (by decide) (by unfold Vld; decide) _ [5] 1 1 rfl (by decide) (by unfold Vld; decide) (by decide) r0 r1).mono fun e w' h => ?_
  obtain ⟨V, E, rfl, hp, hb⟩ := h
  rcases hp with ⟨_, rfl, A', c', rfl, _, ho⟩ | ⟨hno, _⟩
  · exact ⟨A', c', rfl, Rv.of_own ho, below_on g1 (Nat.le_refl _) hb⟩
  · exact absurd hno (by decide +kernel)

theorem w_same (w0 w : World) (A' : Option Addr) (c' : Nat) (hR : Rn w0 A' [6, 2]) (hb : Below w0.heap.size w0 w) : Calls Try.prog 14 #[.slice A' 2 c', .slice (some ⟨w.heap.size, 0, none⟩) 2 2] (w.alloc (.cells #[.int .i64 6, .int .i64 2] 3)) fun e w' => e = .returned (.bool true) ∧ Below w.heap.size w w' := by
  have h := same_any (w.alloc (.cells #[.int .i64 6, .int .i64 2] 3)) A' [6, 2] 2 c' rfl (by decide) ((hR.below hb).below (lit_bel _ _)) (some ⟨w.heap.size, 0, none⟩) [6, 2] 2 2 rfl (lit_rv w ([6, 2].map iv) 3)
  refine h.mono fun e w' h => ⟨h.1, ?_⟩
  obtain ⟨d, rfl⟩ := h.2
  exact below_drewN' (lit_bel w _) d

theorem w_log1 (w : World) : Calls Try.prog 30 #[.int .i64 1] w fun e w' => e = .returned (.tuple #[.int .i64 0, .int .i64 0]) ∧ w' = w := by
  have h := log2_yes w 1 (by decide) (by decide)
  rw [show lg 1 = 0 by decide +kernel] at h
  exact h

theorem w_log2 (w : World) : Calls Try.prog 30 #[.int .i64 2] w fun e w' => e = .returned (.tuple #[.int .i64 256, .int .i64 0]) ∧ w' = w := by
  have h := log2_yes w 2 (by decide) (by decide)
  rw [show lg 2 = 256 by decide +kernel] at h
  exact h

theorem w_log3 (w : World) : Calls Try.prog 30 #[.int .i64 3] w fun e w' => e = .returned (.tuple #[.int .i64 384, .int .i64 0]) ∧ w' = w := by
  have h := log2_yes w 3 (by decide) (by decide)
  rw [show lg 3 = 384 by decide +kernel] at h
  exact h

theorem w_log5 (w : World) : Calls Try.prog 30 #[.int .i64 5] w fun e w' => e = .returned (.tuple #[.int .i64 576, .int .i64 0]) ∧ w' = w := by
  have h := log2_yes w 5 (by decide) (by decide)
  rw [show lg 5 = 576 by decide +kernel] at h
  exact h


set_option maxRecDepth 100000 in
set_option maxHeartbeats 4000000 in
theorem works_any (w : World) : Calls Try.prog 13 #[] w fun e w' => e = .returned (.bool true) ∧ Below w.heap.size w w' := by
  go_enter Try.func13, Try.ntmps13
  go_wp2_with fail
  refine (w_his w).mono ?_
  rintro e w1 ⟨b, rfl, hc1, hc2, hb1⟩
  have B1 := Lib.hid hb1
  have H1 := Lib.hid hc1
  have H2 := Lib.hid hc2
  clear hb1 hc1 hc2
  go_wp2_with fail
  refine (w_run1 w1).mono ?_
  rintro e w2 ⟨rfl, hb2⟩
  have B2 := Lib.hid hb2
  clear hb2
  go_wp2_with fail
  refine (w_run2 w2).mono ?_
  rintro e w3 ⟨rfl, hb3⟩
  have B3 := Lib.hid (below_on B2.out (Nat.le_refl _) hb3)
  have c1 : w3.cell? ⟨b, 1, none⟩ = some (.int .i64 3) := (B3.out.cell (cell_lt H1.out)).trans H1.out
  have c2 : w3.cell? ⟨b, 2, none⟩ = some (.int .i64 1) := (B3.out.cell (cell_lt H2.out)).trans H2.out
  have C3 := Lib.hid (below_on B1.out (Nat.le_refl _) B3.out)
  clear hb3 B1 B2 B3 H1 H2
  go_wp2_with fail
  refine (w_run3 w3).mono ?_
  rintro e w3' ⟨rfl, rfl⟩
  go_wp2_with fail
  refine (w_total _).mono ?_
  rintro e w4 ⟨rfl, hb4⟩
  have C4 := Lib.hid (below_on C3.out (Nat.le_refl _) hb4)
  clear hb4 c1 c2 C3
  go_wp2_with fail
  refine (w_dist _).mono ?_
  rintro e w5 ⟨rfl, hb5⟩
  have C5 := Lib.hid (below_on C4.out (Nat.le_refl _) hb5)
  clear hb5 C4
  go_wp2_with fail
  refine (w_most _).mono ?_
  rintro e w6 ⟨rfl, hb6⟩
  have C6 := Lib.hid (below_on C5.out (Nat.le_refl _) hb6)
  clear hb6 C5
  go_wp2_with fail
  refine (w_most0 _).mono ?_
  rintro e w7 ⟨rfl, hb7⟩
  have C7 := Lib.hid (below_on C6.out (Nat.le_refl _) hb7)
  clear hb7 C6
  go_wp2_with fail
  refine (w_add _).mono ?_
  rintro e w8 ⟨A', c', rfl, hr8, hb8⟩
  have C8 := Lib.hid (below_on C7.out (Nat.le_refl _) hb8)
  have R8 := Lib.hid hr8
  clear hb8 C7 hr8
  go_wp2_with (first
    | (go_at_call 23; refine (is_any _ _ _ _).mono ?_; rintro e w8 ⟨rfl, rfl⟩)
    | (go_at_call 19; refine (num_any _ _).mono ?_; rintro e w8 ⟨rfl, rfl⟩)
    | (go_at_call 20; refine (w_check _).mono ?_; rintro e w9 ⟨rfl, hb9⟩; have C9 := Lib.hid (below_on C8.out (Nat.le_refl _) hb9); have D9 := Lib.hid hb9; clear hb9)
    | fail)
  refine (w_same _ _ A' c' R8.out D9.out).mono ?_
  rintro e w10 ⟨rfl, hb10⟩
  have C10 := Lib.hid (below_on C9.out (Nat.le_refl _) hb10)
  clear hb10 C9 D9 C8 R8
  go_wp2_with (go_at_call 19; refine (num_any _ _).mono ?_; rintro e w10 ⟨rfl, rfl⟩)
  have CW : Hid (Below w.heap.size w ((w10.alloc (.cells #[.int .i64 1, .int .i64 2, .int .i64 3, .int .i64 5] 3)).alloc (.cells #[.int .i64 0, .int .i64 256, .int .i64 384, .int .i64 576] 3))) := Lib.hid (below_on C10.out (Nat.le_refl _) (((Below.refl _ w10).alloc (Nat.le_refl _) _).alloc (by simp) _))
  have r0 : ∀ j v, ([1, 2, 3, 5].map iv)[j]? = some v → ((w10.alloc (.cells #[.int .i64 1, .int .i64 2, .int .i64 3, .int .i64 5] 3)).alloc (.cells #[.int .i64 0, .int .i64 256, .int .i64 384, .int .i64 576] 3)).cell? ⟨w10.heap.size, j, none⟩ = some v := fun j v h => by
    rw [cell_of_row _ _ j _ _ _ ((Below.heap_alloc _ _ _ (by simp)).trans (World.alloc_heap_new w10 _))]
    simpa using h
  have r1 : ∀ j v, ([0, 256, 384, 576].map iv)[j]? = some v → ((w10.alloc (.cells #[.int .i64 1, .int .i64 2, .int .i64 3, .int .i64 5] 3)).alloc (.cells #[.int .i64 0, .int .i64 256, .int .i64 384, .int .i64 576] 3)).cell? ⟨w10.heap.size + 1, j, none⟩ = some v := fun j v h => by
    have := World.alloc_heap_new (w10.alloc (.cells #[.int .i64 1, .int .i64 2, .int .i64 3, .int .i64 5] 3)) (.cells #[.int .i64 0, .int .i64 256, .int .i64 384, .int .i64 576] 3)
    rw [World.size_alloc] at this
    rw [cell_of_row _ _ j _ _ _ this]
    simpa using h
  generalize (w10.alloc (.cells #[.int .i64 1, .int .i64 2, .int .i64 3, .int .i64 5] 3)).alloc (.cells #[.int .i64 0, .int .i64 256, .int .i64 384, .int .i64 576] 3) = W at CW r0 r1 ⊢
  clear C10
  go_loop [20] (fun p => ∃ i : Nat, i ≤ 4 ∧ p = .int .i64 (i : Int)) (fun p => 4 - (intOf p).toNat)
  case atStart => exact ⟨0, Nat.zero_le _, rfl⟩
  case round =>
    obtain ⟨i, hi, rfl⟩ := hrel
    rcases i with _ | _ | _ | _ | _ | i
    · have a0 := r0 0 _ rfl
      have a1 := r1 0 _ rfl
      clear r0 r1
      go_wp2_with (first | (go_at_call 30; refine (w_log1 _).mono ?_; rintro e W ⟨rfl, rfl⟩) | (go_at_call 23; refine (is_any _ _ _ _).mono ?_; rintro e W ⟨rfl, rfl⟩))
      exact ⟨⟨1, by omega, rfl⟩, by simp [intOf]⟩
    · have a0 := r0 1 _ rfl
      have a1 := r1 1 _ rfl
      clear r0 r1
      go_wp2_with (first | (go_at_call 30; refine (w_log2 _).mono ?_; rintro e W ⟨rfl, rfl⟩) | (go_at_call 23; refine (is_any _ _ _ _).mono ?_; rintro e W ⟨rfl, rfl⟩))
      exact ⟨⟨2, by omega, rfl⟩, by simp [intOf]⟩
    · have a0 := r0 2 _ rfl
      have a1 := r1 2 _ rfl
      clear r0 r1
      go_wp2_with (first | (go_at_call 30; refine (w_log3 _).mono ?_; rintro e W ⟨rfl, rfl⟩) | (go_at_call 23; refine (is_any _ _ _ _).mono ?_; rintro e W ⟨rfl, rfl⟩))
      exact ⟨⟨3, by omega, rfl⟩, by simp [intOf]⟩
    · have a0 := r0 3 _ rfl
      have a1 := r1 3 _ rfl
      clear r0 r1
      go_wp2_with (first | (go_at_call 30; refine (w_log5 _).mono ?_; rintro e W ⟨rfl, rfl⟩) | (go_at_call 23; refine (is_any _ _ _ _).mono ?_; rintro e W ⟨rfl, rfl⟩))
      exact ⟨⟨4, by omega, rfl⟩, by simp [intOf]⟩
    · clear r0 r1
      go_wp2_with fail
      refine (log2_no W 0 (by decide)).mono ?_
      rintro e W ⟨rfl, rfl⟩
      go_wp2_with fail
      refine (w_cost _).mono ?_
      rintro e w11 ⟨rfl, hb11⟩
      have C11 := Lib.hid (below_on CW.out (Nat.le_refl _) hb11)
      clear hb11 CW
      go_wp2_with fail
      refine (w_cost0 _).mono ?_
      rintro e w12 ⟨rfl, hb12⟩
      have C12 := Lib.hid (below_on C11.out (Nat.le_refl _) hb12)
      clear hb12 C11
      go_wp2_with (first | (go_at_call 19; refine (num_any _ _).mono ?_; rintro e w12 ⟨rfl, rfl⟩) | (go_at_call 23; refine (is_any _ _ _ _).mono ?_; rintro e w12 ⟨rfl, rfl⟩))
      go_ret
      exact ⟨rfl, C12.out⟩
    · exfalso; omega

end Go.Proofs.Ytdlhfcapfbbjjaa
