/-
  What the laws' has and known do: known returns true. Only new memory. Condition of has: the table is valid.
-/
import Derived.Test.YtpiebkkaileocaaOf
namespace Go.Proofs.Ytpiebkkaileocaa
open Go.RowKit Go.Shelf

set_option maxRecDepth 100000 in
set_option maxHeartbeats 2000000 in
theorem has_any (w : World) (y s : Nat) (A A2 : Option Addr) (l : List Int) (m : List Nat) (N c n2 c2 : Nat) (hN : l.length = N) (hv : Vt y l) (hse : 2 ^ y = s) (hm : spl s l = m) (hR : Ri w A l) (hn2 : m.length = n2) (hR2 : Rn w A2 m) :
    Calls Try.prog 23 #[.int .i64 (y : Int), .slice A N c, .slice A2 n2 c2] w fun e w' => e = .returned (.bool true) ∧ Below w.heap.size w w' := by
  have SP := Lib.hid (spread_ok w y s A l N c hN hv hse hR)
  have hs5 : s ≤ 512 := by rw [← hse]; exact hv.size
  rw [hm] at SP
  have SA : Hid (∀ W g, Below w.heap.size w W → W.ownsRow w.heap.size 3 1 (.slice (some ⟨g, 0, none⟩) s s) s (m.map nv) → Calls Try.prog 14 #[.slice (some ⟨g, 0, none⟩) s s, .slice A2 n2 c2] W fun e w' => e = .returned (.bool true) ∧ Below W.heap.size W w') := Lib.hid (fun W g hb ho => by
    have := same_any W (some ⟨g, 0, none⟩) A2 m m s s n2 c2 (by rw [← hm]; exact spl_len s l) hn2 (by omega) (rn_own ho) (hR2.below hb)
    rwa [decide_eq_true rfl] at this)
  clear hN hv hse hm hR hn2 hR2
  go_enter Try.func23, Try.ntmps23
  go_wp2_with (first
    | (go_at_call 12; refine SP.out.mono ?_; rintro e w1 ⟨g, rfl, ho1, hb1⟩; have O1 := Lib.hid ho1; have B1 := Lib.hid hb1; clear ho1 hb1)
    | (go_at_call 14; refine (SA.out w1 g B1.out O1.out).mono ?_; rintro e w2 ⟨rfl, hb2⟩; have B2 := Lib.hid (below_on B1.out (Nat.le_refl _) hb2); clear hb2))
  go_ret
  exact ⟨rfl, B2.out⟩

theorem has_lit (W : World) (H : Nat) (hH : W.heap.size = H) (l : List Int) (m : List Nat) (y s : Nat) (hv : Vt y l) (hse : 2 ^ y = s) (hm : spl s l = m) :
    Calls Try.prog 23 #[.int .i64 (y : Int), .slice (some ⟨H, 0, none⟩) l.length l.length, .slice (some ⟨H + 1, 0, none⟩) m.length m.length] ((W.alloc (.cells (l.map iv).toArray 3)).alloc (.cells (m.map nv).toArray 3)) fun e w' => e = .returned (.bool true) ∧ Below W.heap.size W w' := by
  have b1 : Below W.heap.size W (W.alloc (.cells (l.map iv).toArray 3)) := (Below.refl _ W).alloc (Nat.le_refl _) _
  have b2 : Below (W.alloc (.cells (l.map iv).toArray 3)).heap.size (W.alloc (.cells (l.map iv).toArray 3)) ((W.alloc (.cells (l.map iv).toArray 3)).alloc (.cells (m.map nv).toArray 3)) := (Below.refl _ _).alloc (Nat.le_refl _) _
  have h1 := has_any _ y s (some ⟨H, 0, none⟩) (some ⟨H + 1, 0, none⟩) l m l.length l.length m.length m.length rfl hv hse hm ((lit_rv W (l.map iv) H hH).below b2) rfl (lit_rv _ (m.map nv) (H + 1) (by rw [World.size_alloc, hH]))
  refine h1.mono ?_
  rintro e w' ⟨rfl, hb⟩
  exact ⟨rfl, below_on b1 (Nat.le_refl _) (below_on b2 (Nat.le_refl _) hb)⟩
theorem vt_lit {y : Nat} {l : List Int} (h : decide (y ≤ 9) && decide (1 ≤ l.length) && decide (l.length ≤ 256) && decide (l.getLast? ≠ some 0) && okn l && decide (ssum l = ((2 ^ y : Nat) : Int)) = true) : Vt y l := by
  simp only [Bool.and_eq_true, decide_eq_true_iff] at h
  obtain ⟨⟨⟨⟨⟨h1, h2⟩, h3⟩, h4⟩, h5⟩, h6⟩ := h
  exact ⟨h1, h2, h3, h4, h5, h6⟩

set_option maxRecDepth 100000 in
set_option maxHeartbeats 2000000 in
theorem known_any (w : World) : Calls Try.prog 11 #[] w fun e w' => e = .returned (.bool true) ∧ Below w.heap.size w w' := by
  have N0 : Hid (∀ W H, W.heap.size = H → Calls Try.prog 23 #[.int .i64 2, .slice (some ⟨H, 0, none⟩) 2 2, .slice (some ⟨H + 1, 0, none⟩) 4 4] ((W.alloc (.cells #[.int .i64 3, .int .i64 1] 3)).alloc (.cells #[.int .i64 0, .int .i64 0, .int .i64 0, .int .i64 1] 3)) fun e w' => e = .returned (.bool true) ∧ Below W.heap.size W w') := Lib.hid (fun W H hH => has_lit W H hH [3, 1] [0, 0, 0, 1] 2 4 (vt_lit (by decide +kernel)) rfl (by decide +kernel))
  have N1 : Hid (∀ W H, W.heap.size = H → Calls Try.prog 23 #[.int .i64 2, .slice (some ⟨H, 0, none⟩) 3 3, .slice (some ⟨H + 1, 0, none⟩) 4 4] ((W.alloc (.cells #[.int .i64 2, .int .i64 (-1), .int .i64 1] 3)).alloc (.cells #[.int .i64 0, .int .i64 0, .int .i64 2, .int .i64 1] 3)) fun e w' => e = .returned (.bool true) ∧ Below W.heap.size W w') := Lib.hid (fun W H hH => has_lit W H hH [2, -1, 1] [0, 0, 2, 1] 2 4 (vt_lit (by decide +kernel)) rfl (by decide +kernel))
  have N2 : Hid (∀ W H, W.heap.size = H → Calls Try.prog 23 #[.int .i64 0, .slice (some ⟨H, 0, none⟩) 2 2, .slice (some ⟨H + 1, 0, none⟩) 1 1] ((W.alloc (.cells #[.int .i64 0, .int .i64 1] 3)).alloc (.cells #[.int .i64 1] 3)) fun e w' => e = .returned (.bool true) ∧ Below W.heap.size W w') := Lib.hid (fun W H hH => has_lit W H hH [0, 1] [1] 0 1 (vt_lit (by decide +kernel)) rfl (by decide +kernel))
  have N3 : Hid (∀ W H, W.heap.size = H → Calls Try.prog 23 #[.int .i64 4, .slice (some ⟨H, 0, none⟩) 2 2, .slice (some ⟨H + 1, 0, none⟩) 16 16] ((W.alloc (.cells #[.int .i64 8, .int .i64 8] 3)).alloc (.cells #[.int .i64 0, .int .i64 0, .int .i64 1, .int .i64 1, .int .i64 0, .int .i64 1, .int .i64 1, .int .i64 0, .int .i64 1, .int .i64 1, .int .i64 0, .int .i64 0, .int .i64 1, .int .i64 0, .int .i64 0, .int .i64 1] 3)) fun e w' => e = .returned (.bool true) ∧ Below W.heap.size W w') := Lib.hid (fun W H hH => has_lit W H hH [8, 8] [0, 0, 1, 1, 0, 1, 1, 0, 1, 1, 0, 0, 1, 0, 0, 1] 4 16 (vt_lit (by decide +kernel)) rfl (by decide +kernel))
  have ST : Hid (∀ W, Calls Try.prog 20 #[.int .i64 16] W fun e w' => e = .returned (.int .i64 13) ∧ w' = W) := Lib.hid (fun W => step_any W 16)
  go_enter Try.func11, Try.ntmps11
  go_wp2_with (first
    | (go_at_call 23; with_reducible refine (N0.out _ _ (by simp)).mono ?_; rintro e w1 ⟨rfl, hb⟩; have B1 := Lib.hid hb; clear hb)
    | (go_at_call 23; with_reducible refine (N1.out _ _ (by simp)).mono ?_; rintro e w2 ⟨rfl, hb⟩; have B2 := Lib.hid (below_on B1.out (Nat.le_refl _) hb); clear hb)
    | (go_at_call 23; with_reducible refine (N2.out _ _ (by simp)).mono ?_; rintro e w3 ⟨rfl, hb⟩; have B3 := Lib.hid (below_on B2.out (Nat.le_refl _) hb); clear hb)
    | (go_at_call 23; with_reducible refine (N3.out _ _ (by simp)).mono ?_; rintro e w4 ⟨rfl, hb⟩; have B4 := Lib.hid (below_on B3.out (Nat.le_refl _) hb); clear hb)
    | (go_at_call 20; refine (ST.out _).mono ?_; rintro e w3 ⟨rfl, rfl⟩))
  go_ret
  exact ⟨rfl, B4.out⟩

end Go.Proofs.Ytpiebkkaileocaa
