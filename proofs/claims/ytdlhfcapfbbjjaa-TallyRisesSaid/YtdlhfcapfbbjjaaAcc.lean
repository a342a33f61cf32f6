/-
  What the accessors Total, Distinct, MostFrequent and Cost do: the answer of a valid histogram, or the error. Nothing that was there has changed. No condition.
-/
import Derived.Test.YtdlhfcapfbbjjaaMos
import Derived.Test.YtdlhfcapfbbjjaaCst
import Derived.Test.YtdlhfcapfbbjjaaChk
namespace Go.Proofs.Ytdlhfcapfbbjjaa
open Go.RowKit

set_option maxRecDepth 100000 in
set_option maxHeartbeats 1000000 in
theorem access_no (w : World) (A : Option Addr) (l : List Int) (N c gf : Nat) (lb : Array Value) (hN : l.length = N) (hR : Ri w A l) (hok : ok l = false) :
    Calls Try.prog 36 #[.slice A N c, .func (.func gf) #[] lb] w fun e w' => e = .returned (.tuple #[.int .i64 0, .int .i64 2]) ∧ w' = w := by
  have HC := Lib.hid (check_any w A l N c hN hR)
  rw [hok] at HC
  simp only [Bool.false_eq_true, if_false] at HC
  clear hN hR
  go_enter Try.func36, Try.ntmps36
  go_wp2
  refine wp_scope_fwd 0 rfl ?_
  go_wp2_with (go_at_call 20; refine HC.out.mono ?_; rintro e w' ⟨rfl, rfl⟩)
  go_step3
  refine And.intro rfl ?_
  go_wp2
  rw [Exit.noGoto_ret]
  go_ret2
  exact ⟨rfl, rfl⟩


set_option maxRecDepth 100000 in
set_option maxHeartbeats 1000000 in
theorem total1 (w : World) (A : Option Addr) (k : List Nat) (N : Nat) (_hk : k.length = N) (_hv : Vld k) (_hR : Rn w A k) :
    Calls Try.prog 37 #[hst A N N (tot k) (gre k)] w fun e w' => e = .returned (.tuple #[nv (tot k), .int .i64 0]) ∧ Below w.heap.size w w' := by
  go_enter Try.func37, Try.ntmps37
  go_wp2
  go_ret2
  exact ⟨rfl, (Below.refl _ w).alloc (Nat.le_refl _) _⟩

set_option maxRecDepth 100000 in
set_option maxHeartbeats 1000000 in
theorem acc_total (w : World) (A : Option Addr) (k : List Nat) (N c : Nat) (hk : k.length = N) (hNc : N ≤ c) (hv : Vld k) (hR : Rn w A k) :
    Calls Try.prog 36 #[.slice A N c, .func (.func 37) #[] #[]] w fun e w' => e = .returned (.tuple #[nv (tot k), .int .i64 0]) ∧ Below w.heap.size w w' := by
  have HC := Lib.hid (check_any w A (k.map (fun n : Nat => (n : Int))) N c (by rw [List.length_map]; exact hk) (by show Rv _ _ _; rw [ri_nats]; exact hR))
  rw [ok_of_vld hv] at HC
  simp only [if_true] at HC
  have HI := Lib.hid (callsIn_wide.1 (inspect_in 6 (Nat.le_refl _) A k N c hk hNc hv w hR))
  have HG : Hid (∀ w1, Below w.heap.size w w1 → _) := Lib.hid (fun w1 hb => total1 w1 A k N hk hv (hR.below hb))
  clear hk hv hR
  go_enter Try.func36, Try.ntmps36
  go_wp2
  refine wp_scope_fwd 0 rfl ?_
  go_wp2_with (first
    | (go_at_call 20; refine HC.out.mono ?_; rintro e w' ⟨rfl, rfl⟩)
    | (go_at_call 54; refine HI.out.mono ?_; rintro e w1 ⟨rfl, hb1⟩; have B1 := Lib.hid hb1; clear hb1)
    | (go_at_call 37; refine (HG.out _ B1.out).mono ?_; rintro e w2 ⟨rfl, hb2⟩; have B2 := Lib.hid (below_on B1.out (Nat.le_refl _) hb2); clear hb2))
  rw [jump_ret]
  go_ret2
  exact ⟨rfl, B2.out⟩

set_option maxRecDepth 100000 in
set_option maxHeartbeats 1000000 in
theorem total_yes (w : World) (A : Option Addr) (k : List Nat) (N c : Nat) (hk : k.length = N) (hNc : N ≤ c) (hv : Vld k) (hR : Rn w A k) :
    Calls Try.prog 21 #[.slice A N c] w fun e w' => e = .returned (.tuple #[nv (tot k), .int .i64 0]) ∧ Below w.heap.size w w' := by
  have HA := Lib.hid (acc_total w A k N c hk hNc hv hR)
  clear hk hv hR
  go_enter Try.func21, Try.ntmps21
  go_wp2_with (go_at_call 36; refine HA.out.mono ?_; rintro e w1 ⟨rfl, hb1⟩; have B1 := Lib.hid hb1; clear hb1)
  go_ret2
  exact ⟨rfl, B1.out⟩

set_option maxRecDepth 100000 in
set_option maxHeartbeats 1000000 in
theorem total_no (w : World) (A : Option Addr) (l : List Int) (N c : Nat) (hN : l.length = N) (hR : Ri w A l) (hok : ok l = false) :
    Calls Try.prog 21 #[.slice A N c] w fun e w' => e = .returned (.tuple #[.int .i64 0, .int .i64 2]) ∧ w' = w := by
  have HA := Lib.hid (access_no w A l N c 37 #[] hN hR hok)
  clear hN hR
  go_enter Try.func21, Try.ntmps21
  go_wp2_with (go_at_call 36; refine HA.out.mono ?_; rintro e w1 ⟨rfl, rfl⟩)
  go_ret2
  exact ⟨rfl, rfl⟩


set_option maxRecDepth 100000 in
set_option maxHeartbeats 1000000 in
theorem distinct1 (w : World) (A : Option Addr) (k : List Nat) (N : Nat) (hk : k.length = N) (hv : Vld k) (hR : Rn w A k) :
    Calls Try.prog 38 #[hst A N N (tot k) (gre k)] w fun e w' => e = .returned (.tuple #[nv (usd 0 k).length, .int .i64 0]) ∧ Below w.heap.size w w' := by
  go_enter Try.func38, Try.ntmps38
  have B1 : Hid (Below w.heap.size w (w.alloc (.cells #[.slice A N N, nv (tot k), nv (gre k)] 62))) := Lib.hid ((Below.refl _ w).alloc (Nat.le_refl _) _)
  have HM := Lib.hid (callsIn_wide.1 (distinct_in 6 (Nat.le_refl _) A k N N hk hv _ (hR.below B1.out)))
  clear hk hv hR
  go_wp2_with (go_at_call 39; refine HM.out.mono ?_; rintro e w1 ⟨rfl, hb1⟩; have B2 := Lib.hid (below_on B1.out (Nat.le_refl _) hb1); clear hb1)
  go_ret2
  exact ⟨rfl, B2.out⟩

set_option maxRecDepth 100000 in
set_option maxHeartbeats 1000000 in
theorem acc_distinct (w : World) (A : Option Addr) (k : List Nat) (N c : Nat) (hk : k.length = N) (hNc : N ≤ c) (hv : Vld k) (hR : Rn w A k) :
    Calls Try.prog 36 #[.slice A N c, .func (.func 38) #[] #[]] w fun e w' => e = .returned (.tuple #[nv (usd 0 k).length, .int .i64 0]) ∧ Below w.heap.size w w' := by
  have HC := Lib.hid (check_any w A (k.map (fun n : Nat => (n : Int))) N c (by rw [List.length_map]; exact hk) (by show Rv _ _ _; rw [ri_nats]; exact hR))
  rw [ok_of_vld hv] at HC
  simp only [if_true] at HC
  have HI := Lib.hid (callsIn_wide.1 (inspect_in 6 (Nat.le_refl _) A k N c hk hNc hv w hR))
  have HG : Hid (∀ w1, Below w.heap.size w w1 → _) := Lib.hid (fun w1 hb => distinct1 w1 A k N hk hv (hR.below hb))
  clear hk hv hR
  go_enter Try.func36, Try.ntmps36
  go_wp2
  refine wp_scope_fwd 0 rfl ?_
  go_wp2_with (first
    | (go_at_call 20; refine HC.out.mono ?_; rintro e w' ⟨rfl, rfl⟩)
    | (go_at_call 54; refine HI.out.mono ?_; rintro e w1 ⟨rfl, hb1⟩; have B1 := Lib.hid hb1; clear hb1)
    | (go_at_call 38; refine (HG.out _ B1.out).mono ?_; rintro e w2 ⟨rfl, hb2⟩; have B2 := Lib.hid (below_on B1.out (Nat.le_refl _) hb2); clear hb2))
  rw [jump_ret]
  go_ret2
  exact ⟨rfl, B2.out⟩

set_option maxRecDepth 100000 in
set_option maxHeartbeats 1000000 in
theorem distinct_yes (w : World) (A : Option Addr) (k : List Nat) (N c : Nat) (hk : k.length = N) (hNc : N ≤ c) (hv : Vld k) (hR : Rn w A k) :
    Calls Try.prog 22 #[.slice A N c] w fun e w' => e = .returned (.tuple #[nv (usd 0 k).length, .int .i64 0]) ∧ Below w.heap.size w w' := by
  have HA := Lib.hid (acc_distinct w A k N c hk hNc hv hR)
  clear hk hv hR
  go_enter Try.func22, Try.ntmps22
  go_wp2_with (go_at_call 36; refine HA.out.mono ?_; rintro e w1 ⟨rfl, hb1⟩; have B1 := Lib.hid hb1; clear hb1)
  go_ret2
  exact ⟨rfl, B1.out⟩

set_option maxRecDepth 100000 in
set_option maxHeartbeats 1000000 in
theorem distinct_no (w : World) (A : Option Addr) (l : List Int) (N c : Nat) (hN : l.length = N) (hR : Ri w A l) (hok : ok l = false) :
    Calls Try.prog 22 #[.slice A N c] w fun e w' => e = .returned (.tuple #[.int .i64 0, .int .i64 2]) ∧ w' = w := by
  have HA := Lib.hid (access_no w A l N c 38 #[] hN hR hok)
  clear hN hR
  go_enter Try.func22, Try.ntmps22
  go_wp2_with (go_at_call 36; refine HA.out.mono ?_; rintro e w1 ⟨rfl, rfl⟩)
  go_ret2
  exact ⟨rfl, rfl⟩


set_option maxRecDepth 100000 in
set_option maxHeartbeats 1000000 in
theorem most1 (w : World) (A : Option Addr) (k : List Nat) (N : Nat) (hk : k.length = N) (hv : Vld k) (hR : Rn w A k) :
    Calls Try.prog 40 #[hst A N N (tot k) (gre k)] w fun e w' => e = .returned (.tuple #[nv (mfv k (gre k)), .int .i64 (mfe k (gre k))]) ∧ Below w.heap.size w w' := by
  go_enter Try.func40, Try.ntmps40
  have B1 : Hid (Below w.heap.size w (w.alloc (.cells #[.slice A N N, nv (tot k), nv (gre k)] 62))) := Lib.hid ((Below.refl _ w).alloc (Nat.le_refl _) _)
  have HM := Lib.hid (callsIn_wide.1 (most_in 6 (Nat.le_refl _) A k N N (tot k) (gre k) hk hv _ (hR.below B1.out)))
  clear hk hv hR
  go_wp2_with (go_at_call 41; refine HM.out.mono ?_; rintro e w1 ⟨rfl, hb1⟩; have B2 := Lib.hid (below_on B1.out (Nat.le_refl _) hb1); clear hb1)
  go_ret2
  exact ⟨rfl, B2.out⟩

set_option maxRecDepth 100000 in
set_option maxHeartbeats 1000000 in
theorem acc_most (w : World) (A : Option Addr) (k : List Nat) (N c : Nat) (hk : k.length = N) (hNc : N ≤ c) (hv : Vld k) (hR : Rn w A k) :
    Calls Try.prog 36 #[.slice A N c, .func (.func 40) #[] #[]] w fun e w' => e = .returned (.tuple #[nv (mfv k (gre k)), .int .i64 (mfe k (gre k))]) ∧ Below w.heap.size w w' := by
  have HC := Lib.hid (check_any w A (k.map (fun n : Nat => (n : Int))) N c (by rw [List.length_map]; exact hk) (by show Rv _ _ _; rw [ri_nats]; exact hR))
  rw [ok_of_vld hv] at HC
  simp only [if_true] at HC
  have HI := Lib.hid (callsIn_wide.1 (inspect_in 6 (Nat.le_refl _) A k N c hk hNc hv w hR))
  have HG : Hid (∀ w1, Below w.heap.size w w1 → _) := Lib.hid (fun w1 hb => most1 w1 A k N hk hv (hR.below hb))
  clear hk hv hR
  go_enter Try.func36, Try.ntmps36
  go_wp2
  refine wp_scope_fwd 0 rfl ?_
  go_wp2_with (first
    | (go_at_call 20; refine HC.out.mono ?_; rintro e w' ⟨rfl, rfl⟩)
    | (go_at_call 54; refine HI.out.mono ?_; rintro e w1 ⟨rfl, hb1⟩; have B1 := Lib.hid hb1; clear hb1)
    | (go_at_call 40; refine (HG.out _ B1.out).mono ?_; rintro e w2 ⟨rfl, hb2⟩; have B2 := Lib.hid (below_on B1.out (Nat.le_refl _) hb2); clear hb2))
  rw [jump_ret]
  go_ret2
  exact ⟨rfl, B2.out⟩

set_option maxRecDepth 100000 in
set_option maxHeartbeats 1000000 in
theorem most_yes (w : World) (A : Option Addr) (k : List Nat) (N c : Nat) (hk : k.length = N) (hNc : N ≤ c) (hv : Vld k) (hR : Rn w A k) :
    Calls Try.prog 26 #[.slice A N c] w fun e w' => e = .returned (.tuple #[nv (mfv k (gre k)), .int .i64 (mfe k (gre k))]) ∧ Below w.heap.size w w' := by
  have HA := Lib.hid (acc_most w A k N c hk hNc hv hR)
  clear hk hv hR
  go_enter Try.func26, Try.ntmps26
  go_wp2_with (go_at_call 36; refine HA.out.mono ?_; rintro e w1 ⟨rfl, hb1⟩; have B1 := Lib.hid hb1; clear hb1)
  go_ret2
  exact ⟨rfl, B1.out⟩

set_option maxRecDepth 100000 in
set_option maxHeartbeats 1000000 in
theorem most_no (w : World) (A : Option Addr) (l : List Int) (N c : Nat) (hN : l.length = N) (hR : Ri w A l) (hok : ok l = false) :
    Calls Try.prog 26 #[.slice A N c] w fun e w' => e = .returned (.tuple #[.int .i64 0, .int .i64 2]) ∧ w' = w := by
  have HA := Lib.hid (access_no w A l N c 40 #[] hN hR hok)
  clear hN hR
  go_enter Try.func26, Try.ntmps26
  go_wp2_with (go_at_call 36; refine HA.out.mono ?_; rintro e w1 ⟨rfl, rfl⟩)
  go_ret2
  exact ⟨rfl, rfl⟩


set_option maxRecDepth 100000 in
set_option maxHeartbeats 1000000 in
theorem cost1 (w : World) (A : Option Addr) (k : List Nat) (N : Nat) (hk : k.length = N) (hv : Vld k) (hR : Rn w A k) :
    Calls Try.prog 48 #[hst A N N (tot k) (gre k)] w fun e w' => e = .returned (.tuple #[nv (cst k), .int .i64 0]) ∧ Below w.heap.size w w' := by
  go_enter Try.func48, Try.ntmps48
  have B1 : Hid (Below w.heap.size w (w.alloc (.cells #[.slice A N N, nv (tot k), nv (gre k)] 62))) := Lib.hid ((Below.refl _ w).alloc (Nat.le_refl _) _)
  have HM := Lib.hid (callsIn_wide.1 (cost_in 6 (Nat.le_refl _) A k N N (gre k) hk hv _ (hR.below B1.out)))
  clear hk hv hR
  go_wp2_with (go_at_call 49; refine HM.out.mono ?_; rintro e w1 ⟨rfl, hb1⟩; have B2 := Lib.hid (below_on B1.out (Nat.le_refl _) hb1); clear hb1)
  go_ret2
  exact ⟨rfl, B2.out⟩

set_option maxRecDepth 100000 in
set_option maxHeartbeats 1000000 in
theorem acc_cost (w : World) (A : Option Addr) (k : List Nat) (N c : Nat) (hk : k.length = N) (hNc : N ≤ c) (hv : Vld k) (hR : Rn w A k) :
    Calls Try.prog 36 #[.slice A N c, .func (.func 48) #[] #[]] w fun e w' => e = .returned (.tuple #[nv (cst k), .int .i64 0]) ∧ Below w.heap.size w w' := by
  have HC := Lib.hid (check_any w A (k.map (fun n : Nat => (n : Int))) N c (by rw [List.length_map]; exact hk) (by show Rv _ _ _; rw [ri_nats]; exact hR))
  rw [ok_of_vld hv] at HC
  simp only [if_true] at HC
  have HI := Lib.hid (callsIn_wide.1 (inspect_in 6 (Nat.le_refl _) A k N c hk hNc hv w hR))
  have HG : Hid (∀ w1, Below w.heap.size w w1 → _) := Lib.hid (fun w1 hb => cost1 w1 A k N hk hv (hR.below hb))
  clear hk hv hR
  go_enter Try.func36, Try.ntmps36
  go_wp2
  refine wp_scope_fwd 0 rfl ?_
  go_wp2_with (first
    | (go_at_call 20; refine HC.out.mono ?_; rintro e w' ⟨rfl, rfl⟩)
    | (go_at_call 54; refine HI.out.mono ?_; rintro e w1 ⟨rfl, hb1⟩; have B1 := Lib.hid hb1; clear hb1)
    | (go_at_call 48; refine (HG.out _ B1.out).mono ?_; rintro e w2 ⟨rfl, hb2⟩; have B2 := Lib.hid (below_on B1.out (Nat.le_refl _) hb2); clear hb2))
  rw [jump_ret]
  go_ret2
  exact ⟨rfl, B2.out⟩

set_option maxRecDepth 100000 in
set_option maxHeartbeats 1000000 in
theorem cost_yes (w : World) (A : Option Addr) (k : List Nat) (N c : Nat) (hk : k.length = N) (hNc : N ≤ c) (hv : Vld k) (hR : Rn w A k) :
    Calls Try.prog 32 #[.slice A N c] w fun e w' => e = .returned (.tuple #[nv (cst k), .int .i64 0]) ∧ Below w.heap.size w w' := by
  have HA := Lib.hid (acc_cost w A k N c hk hNc hv hR)
  clear hk hv hR
  go_enter Try.func32, Try.ntmps32
  go_wp2_with (go_at_call 36; refine HA.out.mono ?_; rintro e w1 ⟨rfl, hb1⟩; have B1 := Lib.hid hb1; clear hb1)
  go_ret2
  exact ⟨rfl, B1.out⟩

set_option maxRecDepth 100000 in
set_option maxHeartbeats 1000000 in
theorem cost_no (w : World) (A : Option Addr) (l : List Int) (N c : Nat) (hN : l.length = N) (hR : Ri w A l) (hok : ok l = false) :
    Calls Try.prog 32 #[.slice A N c] w fun e w' => e = .returned (.tuple #[.int .i64 0, .int .i64 2]) ∧ w' = w := by
  have HA := Lib.hid (access_no w A l N c 48 #[] hN hR hok)
  clear hN hR
  go_enter Try.func32, Try.ntmps32
  go_wp2_with (go_at_call 36; refine HA.out.mono ?_; rintro e w1 ⟨rfl, rfl⟩)
  go_ret2
  exact ⟨rfl, rfl⟩

end Go.Proofs.Ytdlhfcapfbbjjaa
