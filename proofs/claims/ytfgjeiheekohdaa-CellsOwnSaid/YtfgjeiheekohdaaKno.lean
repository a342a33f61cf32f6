/-
  What the laws' known does: it returns true. Only new memory. No condition.
-/
import Derived.Test.YtfgjeiheekohdaaSps
import Derived.Test.YtfgjeiheekohdaaOfc
import Derived.Test.YtfgjeiheekohdaaNxt
import Derived.Test.YtfgjeiheekohdaaSin
namespace Go.Proofs.Ytfgjeiheekohdaa
open Go.RowKit Go.Shelf

theorem vt_lit {y : Nat} {l : List Int} (h : decide (y ≤ 9) && decide (1 ≤ l.length) && decide (l.length ≤ 256) && decide (l.getLast? ≠ some 0) && okn l && decide (ssum l = ((2 ^ y : Nat) : Int)) = true) : Vt y l := by
  simp only [Bool.and_eq_true, decide_eq_true_iff] at h
  obtain ⟨⟨⟨⟨⟨h1, h2⟩, h3⟩, h4⟩, h5⟩, h6⟩ := h
  exact ⟨h1, h2, h3, h4, h5, h6⟩
theorem build_lit (W : World) (H : Nat) (hH : W.heap.size = H) (l : List Int) (C : List (Nat × Nat × Nat)) (y : Nat) (hv : Vt y l) (hC : cls y l (spl (2 ^ y) l) = C) :
    Calls Try.prog 12 #[.agg #[.int .i64 (y : Int), .slice (some ⟨H, 0, none⟩) l.length l.length]] (W.alloc (.cells (l.map iv).toArray 3)) fun e w' => ∃ g, e = .returned (.tuple #[.slice (some ⟨g, 0, none⟩) (2 ^ y) (2 ^ y), .int .i64 0]) ∧ w'.ownsRow 0 45 3 (.slice (some ⟨g, 0, none⟩) (2 ^ y) (2 ^ y)) (2 ^ y) (flat3 C) ∧ Below W.heap.size W w' := by
  have b1 : Below W.heap.size W (W.alloc (.cells (l.map iv).toArray 3)) := (Below.refl _ W).alloc (Nat.le_refl _) _
  have h1 := build_ok (W.alloc (.cells (l.map iv).toArray 3)) y (2 ^ y) (some ⟨H, 0, none⟩) l l.length l.length rfl hv rfl (lit_rv W (l.map iv) H hH)
  rw [hC] at h1
  refine h1.mono ?_
  rintro e w' ⟨g, rfl, ho, hb⟩
  exact ⟨g, rfl, ro_base ho (Nat.zero_le _), below_on b1 (Nat.le_refl _) hb⟩
theorem same_lit (W : World) (H g : Nat) (hH : W.heap.size = H) (C : List (Nat × Nat × Nat)) (n : Nat) (hn : n ≤ 1000000) (hC : C.length = n) (ho : W.ownsRow 0 45 3 (.slice (some ⟨g, 0, none⟩) n n) n (flat3 C)) :
    Calls Try.prog 14 #[.slice (some ⟨g, 0, none⟩) n n, .slice (some ⟨H, 0, none⟩) n n] (W.alloc (.cells (flat3 C).toArray 45)) fun e w' => e = .returned (.bool true) ∧ Below W.heap.size W w' := by
  have b1 : Below W.heap.size W (W.alloc (.cells (flat3 C).toArray 45)) := (Below.refl _ W).alloc (Nat.le_refl _) _
  subst hH
  have o2 : (W.alloc (.cells (flat3 C).toArray 45)).ownsRow 0 45 3 (.slice (some ⟨W.heap.size, 0, none⟩) n n) n (flat3 C) := by
    have := World.ownsRow_lit (base := 0) (e := 45) (size := 3) W (flat3 C).toArray n (Nat.zero_le _) (by unfold maxLen; omega) (by rw [List.size_toArray, flat3_len, hC])
    simpa using this
  have h1 := csame_any _ _ _ C C n n n n 0 0 hn (ro_below ho b1) o2
  rw [decide_eq_true rfl] at h1
  refine h1.mono ?_
  rintro e w' ⟨rfl, hb⟩
  exact ⟨rfl, below_on b1 (Nat.le_refl _) hb⟩

set_option maxRecDepth 100000 in
set_option maxHeartbeats 2000000 in
theorem known_any (w : World) : Calls Try.prog 11 #[] w fun e w' => e = .returned (.bool true) ∧ Below w.heap.size w w' := by
  have N0 : Hid (∀ W H, W.heap.size = H → Calls Try.prog 12 #[.agg #[.int .i64 2, .slice (some ⟨H, 0, none⟩) 2 2]] (W.alloc (.cells #[.int .i64 3, .int .i64 1] 3)) fun e w' => ∃ g, e = .returned (.tuple #[.slice (some ⟨g, 0, none⟩) 4 4, .int .i64 0]) ∧ w'.ownsRow 0 45 3 (.slice (some ⟨g, 0, none⟩) 4 4) 4 (flat3 [(0, 1, 2), (0, 0, 0), (0, 0, 1), (1, 2, 0)]) ∧ Below W.heap.size W w') := Lib.hid (fun W H hH => build_lit W H hH [3, 1] [(0, 1, 2), (0, 0, 0), (0, 0, 1), (1, 2, 0)] 2 (vt_lit (by decide +kernel)) (by decide +kernel))
  have N1 : Hid (∀ W H, W.heap.size = H → Calls Try.prog 12 #[.agg #[.int .i64 0, .slice (some ⟨H, 0, none⟩) 2 2]] (W.alloc (.cells #[.int .i64 0, .int .i64 1] 3)) fun e w' => ∃ g, e = .returned (.tuple #[.slice (some ⟨g, 0, none⟩) 1 1, .int .i64 0]) ∧ w'.ownsRow 0 45 3 (.slice (some ⟨g, 0, none⟩) 1 1) 1 (flat3 [(1, 0, 0)]) ∧ Below W.heap.size W w') := Lib.hid (fun W H hH => build_lit W H hH [0, 1] [(1, 0, 0)] 0 (vt_lit (by decide +kernel)) (by decide +kernel))
  have S0 : Hid (∀ W H g, W.heap.size = H → W.ownsRow 0 45 3 (.slice (some ⟨g, 0, none⟩) 4 4) 4 (flat3 [(0, 1, 2), (0, 0, 0), (0, 0, 1), (1, 2, 0)]) → Calls Try.prog 14 #[.slice (some ⟨g, 0, none⟩) 4 4, .slice (some ⟨H, 0, none⟩) 4 4] (W.alloc (.cells #[.int .i64 0, .int .i64 1, .int .i64 2, .int .i64 0, .int .i64 0, .int .i64 0, .int .i64 0, .int .i64 0, .int .i64 1, .int .i64 1, .int .i64 2, .int .i64 0] 45)) fun e w' => e = .returned (.bool true) ∧ Below W.heap.size W w') := Lib.hid (fun W H g hH ho => same_lit W H g hH [(0, 1, 2), (0, 0, 0), (0, 0, 1), (1, 2, 0)] 4 (by omega) rfl ho)
  have S1 : Hid (∀ W H g, W.heap.size = H → W.ownsRow 0 45 3 (.slice (some ⟨g, 0, none⟩) 1 1) 1 (flat3 [(1, 0, 0)]) → Calls Try.prog 14 #[.slice (some ⟨g, 0, none⟩) 1 1, .slice (some ⟨H, 0, none⟩) 1 1] (W.alloc (.cells #[.int .i64 1, .int .i64 0, .int .i64 0] 45)) fun e w' => e = .returned (.bool true) ∧ Below W.heap.size W w') := Lib.hid (fun W H g hH ho => same_lit W H g hH [(1, 0, 0)] 1 (by omega) rfl ho)
  go_enter Try.func11, Try.ntmps11
  go_wp2_with (first
    | (go_at_call 12; with_reducible refine (N0.out _ _ (by simp)).mono ?_; rintro e w1 ⟨g1, rfl, ho1, hb1⟩; have O1 := Lib.hid ho1; have B1 := Lib.hid hb1; clear ho1 hb1)
    | (go_at_call 12; with_reducible refine (N1.out _ _ (by simp)).mono ?_; rintro e w2 ⟨g2, rfl, ho2, hb2⟩; have O2 := Lib.hid ho2; have P1 := Lib.hid (ro_below O1.out hb2); have B2 := Lib.hid (below_on B1.out (Nat.le_refl _) hb2); clear ho2 hb2)
    | (go_at_call 14; with_reducible refine (S0.out _ _ _ (by simp) P1.out).mono ?_; rintro e w3 ⟨rfl, hb⟩; have P2 := Lib.hid (ro_below O2.out hb); have B3 := Lib.hid (below_on B2.out (Nat.le_refl _) hb); clear hb)
    | (go_at_call 14; with_reducible refine (S1.out _ _ _ (by simp) P2.out).mono ?_; rintro e w4 ⟨rfl, hb⟩; have B4 := Lib.hid (below_on B3.out (Nat.le_refl _) hb); clear hb))
  go_ret
  exact ⟨rfl, B4.out⟩

end Go.Proofs.Ytfgjeiheekohdaa
