/-
  What the laws' normal and known do: known returns true. Only new memory. Condition of normal: the counts have a normalized table.
-/
import Derived.Test.YtkojdhmgefggjaaSam
import Derived.Test.YtkojdhmgefggjaaRec
namespace Go.Proofs.Ytkojdhmgefggjaa
open Go.RowKit Go.Shelf

theorem lit_rv (W : World) (xs : List Value) (H : Nat) (hH : W.heap.size = H) : Rv (W.alloc (.cells xs.toArray 3)) (some ⟨H, 0, none⟩) xs := by
  subst hH
  intro j v hj
  refine ⟨_, rfl, ?_⟩
  have e : (Addr.add ⟨W.heap.size, 0, none⟩ j) = ⟨W.heap.size, j, none⟩ := by
    unfold Addr.add
    by_cases h0 : j = 0
    · rw [if_pos h0, h0]
    · rw [if_neg h0]; simp
  rw [e, cell_of_row _ _ j _ _ _ (World.alloc_heap_new W _)]
  simpa using hj

/-- Counts that have a normalized table. -/
structure Gd (k : List Nat) (lg s : Nat) : Prop where
  tot : tot k ≤ 1099511627776
  pos : 0 < nus k
  log : lg ≤ 9
  pow : 2 ^ lg = s
  use : nus k ≤ s
  len : k.length ≤ 1000000

set_option maxRecDepth 100000 in
set_option maxHeartbeats 2000000 in
theorem normal_any (w : World) (A A2 : Option Addr) (k : List Nat) (m : List Int) (N c n2 c2 lg s : Nat) (hN : k.length = N) (hg : Gd k lg s) (hR : Rn w A k) (hn2 : m.length = n2) (hR2 : Ri w A2 m) :
    Calls Try.prog 24 #[.slice A N c, .int .i64 (lg : Int), .slice A2 n2 c2] w fun e w' => e = .returned (.bool (sam lg lg (nrm k s) m)) ∧ Below w.heap.size w w' := by
  have NZ := Lib.hid (normalize_ok w A k N c lg s hN (by rw [← hN]; exact hg.len) hR hg.tot hg.pos hg.log hg.pow hg.use)
  obtain ⟨L, hL⟩ : ∃ L, lst k + 1 = L := ⟨_, rfl⟩
  have hNL : (nrm k s).length = L := by rw [← hL]; simp [nrm]
  have hLb : L ≤ 1000000000 := by have h1 := lst_lt hg.pos; have h2 := hg.len; omega
  rw [hL] at NZ
  have SM : Hid (∀ w1 g, Below w.heap.size w w1 → w1.ownsRow w.heap.size 3 1 (.slice (some ⟨g, 0, none⟩) L L) L ((nrm k s).map iv) → Calls Try.prog 17 #[tb lg (some ⟨g, 0, none⟩) L L, tb lg A2 n2 c2] (w1.alloc (.cells #[.int .i64 (lg : Int), .slice (some ⟨g, 0, none⟩) L L] 24)) fun e w' => e = .returned (.bool (sam lg lg (nrm k s) m)) ∧ Below w1.heap.size w1 w') := Lib.hid (fun w1 g hb ho => by
    have b1 : Below w1.heap.size w1 (w1.alloc (.cells #[.int .i64 (lg : Int), .slice (some ⟨g, 0, none⟩) L L] 24)) := (Below.refl _ w1).alloc (Nat.le_refl _) _
    refine (rsame_any _ lg lg (some ⟨g, 0, none⟩) A2 (nrm k s) m L L n2 c2 hNL hn2 hLb ((Rv.of_own ho).below b1) ((hR2.below hb).below b1)).mono ?_
    rintro e w' ⟨rfl, hb'⟩
    exact ⟨rfl, below_on b1 (Nat.le_refl _) hb'⟩)
  obtain ⟨R, hRR⟩ : ∃ R, sam lg lg (nrm k s) m = R := ⟨_, rfl⟩
  rw [hRR] at SM ⊢
  obtain ⟨Q, hQ⟩ : ∃ Q, (nrm k s).map iv = Q := ⟨_, rfl⟩
  rw [hQ] at NZ SM
  clear hRR hN hg hR hn2 hR2 hL hNL hQ
  go_enter Try.func24, Try.ntmps24
  go_wp2_with (first
    | (go_at_call 15; refine NZ.out.mono ?_; rintro e w1 ⟨g, rfl, ho1, hb1⟩; have O1 := Lib.hid ho1; have B1 := Lib.hid hb1; clear ho1 hb1)
    | (go_at_call 17; refine (SM.out w1 g B1.out O1.out).mono ?_; rintro e w2 ⟨rfl, hb2⟩; have B2 := Lib.hid (below_on B1.out (Nat.le_refl _) hb2); clear hb2))
  go_ret
  exact ⟨rfl, B2.out⟩

theorem normal_lit (W : World) (H : Nat) (hH : W.heap.size = H) (k : List Nat) (m : List Int) (lg s : Nat) (hg : Gd k lg s) (hs : sam lg lg (nrm k s) m = true) :
    Calls Try.prog 24 #[.slice (some ⟨H, 0, none⟩) k.length k.length, .int .i64 (lg : Int), .slice (some ⟨H + 1, 0, none⟩) m.length m.length] ((W.alloc (.cells (k.map nv).toArray 3)).alloc (.cells (m.map iv).toArray 3)) fun e w' => e = .returned (.bool true) ∧ Below W.heap.size W w' := by
  have b1 : Below W.heap.size W (W.alloc (.cells (k.map nv).toArray 3)) := (Below.refl _ W).alloc (Nat.le_refl _) _
  have b2 : Below (W.alloc (.cells (k.map nv).toArray 3)).heap.size (W.alloc (.cells (k.map nv).toArray 3)) ((W.alloc (.cells (k.map nv).toArray 3)).alloc (.cells (m.map iv).toArray 3)) := (Below.refl _ _).alloc (Nat.le_refl _) _
  have h1 := normal_any _ (some ⟨H, 0, none⟩) (some ⟨H + 1, 0, none⟩) k m k.length k.length m.length m.length lg s rfl hg ((lit_rv W (k.map nv) H hH).below b2) rfl (lit_rv _ (m.map iv) (H + 1) (by rw [World.size_alloc, hH]))
  rw [hs] at h1
  refine h1.mono ?_
  rintro e w' ⟨rfl, hb⟩
  exact ⟨rfl, below_on b1 (Nat.le_refl _) (below_on b2 (Nat.le_refl _) hb)⟩
theorem rec_lit (W : World) (H : Nat) (hH : W.heap.size = H) (l : List Int) (most r : Int) (hl : l.length ≤ 1000) (hr : rcl l most = r) :
    Calls Try.prog 18 #[.slice (some ⟨H, 0, none⟩) l.length l.length, .int .i64 most] (W.alloc (.cells (l.map iv).toArray 3)) fun e w' => e = .returned (.int .i64 r) ∧ Below W.heap.size W w' := by
  have b1 : Below W.heap.size W (W.alloc (.cells (l.map iv).toArray 3)) := (Below.refl _ W).alloc (Nat.le_refl _) _
  refine (recommend_any _ (some ⟨H, 0, none⟩) l l.length l.length most rfl (by omega) (lit_rv W (l.map iv) H hH)).mono ?_
  rintro e w' ⟨rfl, rfl⟩
  exact ⟨by rw [hr], b1⟩
theorem bad_lit (W : World) (l : List Int) (z : Int) (hl : l.length ≤ 1000) (hg : ¬ good l z) :
    Calls Try.prog 15 #[.slice (some ⟨W.heap.size, 0, none⟩) l.length l.length, .int .i64 z] (W.alloc (.cells (l.map iv).toArray 3)) fun e w' => e = .returned (.tuple #[tb 0 none 0 0, .int .i64 2]) ∧ Below W.heap.size W w' := by
  have b1 : Below W.heap.size W (W.alloc (.cells (l.map iv).toArray 3)) := (Below.refl _ W).alloc (Nat.le_refl _) _
  refine (normalize_bad _ (some ⟨W.heap.size, 0, none⟩) l l.length l.length z rfl (by omega) (lit_rv W (l.map iv) _ rfl) hg).mono ?_
  rintro e w' ⟨rfl, hb⟩
  exact ⟨rfl, below_on b1 (Nat.le_refl _) hb⟩

set_option maxRecDepth 100000 in
set_option maxHeartbeats 2000000 in
theorem known_any (w : World) : Calls Try.prog 12 #[] w fun e w' => e = .returned (.bool true) ∧ Below w.heap.size w w' := by
  have K0 : Hid (Calls Try.prog 15 #[.slice (some ⟨w.heap.size, 0, none⟩) 3 3, .int .i64 1] (w.alloc (.cells #[.int .i64 1, .int .i64 1, .int .i64 1] 3)) fun e w' => e = .returned (.tuple #[tb 0 none 0 0, .int .i64 2]) ∧ Below w.heap.size w w') := Lib.hid (bad_lit w [1, 1, 1] 1 (by decide) (fun h => absurd h.2.2.2 (by decide)))
  have N0 : Hid (∀ W H, W.heap.size = H → Calls Try.prog 24 #[.slice (some ⟨H, 0, none⟩) 2 2, .int .i64 2, .slice (some ⟨H + 1, 0, none⟩) 2 2] ((W.alloc (.cells #[.int .i64 3, .int .i64 1] 3)).alloc (.cells #[.int .i64 3, .int .i64 1] 3)) fun e w' => e = .returned (.bool true) ∧ Below W.heap.size W w') := Lib.hid (fun W H hH => normal_lit W H hH [3, 1] [3, 1] 2 4 ⟨by decide, by decide, by decide, by decide, by decide, by decide⟩ (by decide +kernel))
  have N1 : Hid (∀ W H, W.heap.size = H → Calls Try.prog 24 #[.slice (some ⟨H, 0, none⟩) 3 3, .int .i64 2, .slice (some ⟨H + 1, 0, none⟩) 3 3] ((W.alloc (.cells #[.int .i64 5, .int .i64 1, .int .i64 1] 3)).alloc (.cells #[.int .i64 2, .int .i64 (-1), .int .i64 (-1)] 3)) fun e w' => e = .returned (.bool true) ∧ Below W.heap.size W w') := Lib.hid (fun W H hH => normal_lit W H hH [5, 1, 1] [2, -1, -1] 2 4 ⟨by decide, by decide, by decide, by decide, by decide, by decide⟩ (by decide +kernel))
  have N2 : Hid (∀ W H, W.heap.size = H → Calls Try.prog 24 #[.slice (some ⟨H, 0, none⟩) 3 3, .int .i64 1, .slice (some ⟨H + 1, 0, none⟩) 2 2] ((W.alloc (.cells #[.int .i64 100, .int .i64 1, .int .i64 0] 3)).alloc (.cells #[.int .i64 1, .int .i64 (-1)] 3)) fun e w' => e = .returned (.bool true) ∧ Below W.heap.size W w') := Lib.hid (fun W H hH => normal_lit W H hH [100, 1, 0] [1, -1] 1 2 ⟨by decide, by decide, by decide, by decide, by decide, by decide⟩ (by decide +kernel))
  have R0 : Hid (∀ W H, W.heap.size = H → Calls Try.prog 18 #[.slice (some ⟨H, 0, none⟩) 2 2, .int .i64 9] (W.alloc (.cells #[.int .i64 4, .int .i64 4] 3)) fun e w' => e = .returned (.int .i64 2) ∧ Below W.heap.size W w') := Lib.hid (fun W H hH => rec_lit W H hH [4, 4] 9 2 (by decide) (by decide +kernel))
  have R1 : Hid (∀ W H, W.heap.size = H → Calls Try.prog 18 #[.slice (some ⟨H, 0, none⟩) 2 2, .int .i64 9] (W.alloc (.cells #[.int .i64 0, .int .i64 7] 3)) fun e w' => e = .returned (.int .i64 0) ∧ Below W.heap.size W w') := Lib.hid (fun W H hH => rec_lit W H hH [0, 7] 9 0 (by decide) (by decide +kernel))
  have R2 : Hid (∀ W H, W.heap.size = H → Calls Try.prog 18 #[.slice (some ⟨H, 0, none⟩) 3 3, .int .i64 9] (W.alloc (.cells #[.int .i64 1, .int .i64 1, .int .i64 1] 3)) fun e w' => e = .returned (.int .i64 2) ∧ Below W.heap.size W w') := Lib.hid (fun W H hH => rec_lit W H hH [1, 1, 1] 9 2 (by decide) (by decide +kernel))
  go_enter Try.func12, Try.ntmps12
  go_wp2_with (first
    | (go_at_call 15; refine K0.out.mono ?_; rintro e w1 ⟨rfl, hb1⟩; have B1 := Lib.hid hb1; clear hb1)
    | (go_at_call 24; with_reducible refine (N0.out _ _ (by simp)).mono ?_; rintro e w2 ⟨rfl, hb⟩; have B2 := Lib.hid (below_on B1.out (Nat.le_refl _) (below_on ((Below.refl _ w1).alloc (Nat.le_refl _) _) (Nat.le_refl _) hb)); clear hb)
    | (go_at_call 24; with_reducible refine (N1.out _ _ (by simp)).mono ?_; rintro e w3 ⟨rfl, hb⟩; have B3 := Lib.hid (below_on B2.out (Nat.le_refl _) hb); clear hb)
    | (go_at_call 24; with_reducible refine (N2.out _ _ (by simp)).mono ?_; rintro e w4 ⟨rfl, hb⟩; have B4 := Lib.hid (below_on B3.out (Nat.le_refl _) hb); clear hb)
    | (go_at_call 18; with_reducible refine (R0.out _ _ (by simp)).mono ?_; rintro e w5 ⟨rfl, hb⟩; have B5 := Lib.hid (below_on B4.out (Nat.le_refl _) hb); clear hb)
    | (go_at_call 18; with_reducible refine (R1.out _ _ (by simp)).mono ?_; rintro e w6 ⟨rfl, hb⟩; have B6 := Lib.hid (below_on B5.out (Nat.le_refl _) hb); clear hb)
    | (go_at_call 18; with_reducible refine (R2.out _ _ (by simp)).mono ?_; rintro e w7 ⟨rfl, hb⟩; have B7 := Lib.hid (below_on B6.out (Nat.le_refl _) hb); clear hb))
  go_ret
  exact ⟨rfl, B7.out⟩

end Go.Proofs.Ytkojdhmgefggjaa
