/-
  What tally.Increasing does: an iterator that holds its own row of entries: the used symbols with their counts, sorted stably by count, of valid counts; none of others. Only new memory. No condition.
-/
import Derived.Test.YtdlhfcapfbbjjaaInc
import Derived.Test.YtdlhfcapfbbjjaaChk
namespace Go.Proofs.Ytdlhfcapfbbjjaa
open Go.RowKit

set_option maxRecDepth 100000 in
set_option maxHeartbeats 1000000 in
theorem access_ents_no (w : World) (A : Option Addr) (l : List Int) (N c gf : Nat) (lb : Array Value) (hN : l.length = N) (hR : Ri w A l) (hok : ok l = false) :
    Calls Try.prog 50 #[.slice A N c, .func (.func gf) #[] lb] w fun e w' => e = .returned (.tuple #[.slice none 0 0, .int .i64 2]) ∧ w' = w := by
  have HC := Lib.hid (check_any w A l N c hN hR)
  rw [hok] at HC
  simp only [Bool.false_eq_true, if_false] at HC
  clear hN hR
  go_enter Try.func50, Try.ntmps50
  go_wp2
  refine wp_scope_fwd 0 rfl ?_
  go_wp2_with (go_at_call 20; refine HC.out.mono ?_; rintro e w' ⟨rfl, rfl⟩)
  go_step3
  refine And.intro rfl ?_
  go_wp2
  rw [Exit.noGoto_ret]
  go_ret2
  exact ⟨rfl, rfl⟩

theorem rise_low {w : World} {B B' : Nat} {g r c : Nat} {S : List (Nat × Nat)} (h : Ents w B g r c S) (hb : B' ≤ B) : Ents w B' g r c S := by
  refine ⟨h.1, ?_⟩
  rcases h.2 with h2 | ⟨g', c', cur, h2, h3, h4⟩
  · exact .inl h2
  · exact .inr ⟨g', c', cur, h2, Nat.le_trans hb h3, h4⟩

/-- A slice of entries of the call's own: the stable sort of the used symbols. -/
def Rise (w : World) (B : Nat) (k : List Nat) (g r c : Nat) : Prop := r ≤ 256 ∧ ∃ S, Stb (usd 0 k) S ∧ Ents w B g r c S
theorem Rise.of {w : World} {B : Nat} {k : List Nat} {g r c : Nat} {S : List (Nat × Nat)} (hr : r ≤ 256) (hS : Stb (usd 0 k) S) (hE : Ents w B g r c S) : Rise w B k g r c := ⟨hr, S, hS, hE⟩

set_option maxRecDepth 100000 in
set_option maxHeartbeats 1000000 in
theorem incr1 (w : World) (A : Option Addr) (k : List Nat) (N : Nat) (hk : k.length = N) (hv : Vld k) (hR : Rn w A k) :
    Calls Try.prog 51 #[hst A N N (tot k) (gre k)] w fun e w' => (∃ g r c, e = .returned (.tuple #[.slice (some ⟨g, 0, none⟩) r c, .int .i64 0]) ∧ Rise w' w.heap.size k g r c) ∧ Below w.heap.size w w' := by
  have B1 : Hid (Below w.heap.size w (w.alloc (.cells #[.slice A N N, nv (tot k), nv (gre k)] 62))) := Lib.hid ((Below.refl _ w).alloc (Nat.le_refl _) _)
  have HM := Lib.hid (callsIn_wide.1 (increasing_in 6 (Nat.le_refl _) A k N N hk hv _ (hR.below B1.out)))
  clear hk hv hR
  go_enter Try.func51, Try.ntmps51
  go_wp2_with (go_at_call 52; (with_reducible refine HM.out.mono ?_); rintro e w1 ⟨⟨g, r, c', rfl, hr, S, hS, hE⟩, hb1⟩; have B2 := Lib.hid (below_on B1.out (Nat.le_refl _) hb1); have HS : Hid (Rise w1 w.heap.size k g r c') := Lib.hid ⟨hr, S, hS, rise_low hE (by simp)⟩; clear hb1 hr hS hE)
  go_ret2
  exact ⟨⟨_, _, _, rfl, HS.out⟩, B2.out⟩

set_option maxRecDepth 100000 in
set_option maxHeartbeats 1000000 in
theorem access_ents (w : World) (A : Option Addr) (k : List Nat) (N c : Nat) (hk : k.length = N) (hNc : N ≤ c) (hv : Vld k) (hR : Rn w A k) :
    Calls Try.prog 50 #[.slice A N c, .func (.func 51) #[] #[]] w fun e w' => (∃ g r c, e = .returned (.tuple #[.slice (some ⟨g, 0, none⟩) r c, .int .i64 0]) ∧ Rise w' w.heap.size k g r c) ∧ Below w.heap.size w w' := by
  have HC := Lib.hid (check_any w A (k.map (fun n : Nat => (n : Int))) N c (by rw [List.length_map]; exact hk) (by show Rv _ _ _; rw [ri_nats]; exact hR))
  rw [ok_of_vld hv] at HC
  simp only [if_true] at HC
  have HI := Lib.hid (callsIn_wide.1 (inspect_in 6 (Nat.le_refl _) A k N c hk hNc hv w hR))
  have HG : Hid (∀ w1, Below w.heap.size w w1 → _) := Lib.hid (fun w1 hb => incr1 w1 A k N hk hv (hR.below hb))
  clear hk hv hR
  go_enter Try.func50, Try.ntmps50
  go_wp2
  refine wp_scope_fwd 0 rfl ?_
  go_wp2_with (first
    | (go_at_call 20; refine HC.out.mono ?_; rintro e w' ⟨rfl, rfl⟩)
    | (go_at_call 54; refine HI.out.mono ?_; rintro e w1 ⟨rfl, hb1⟩; have B1 := Lib.hid hb1; clear hb1)
    | (go_at_call 51; refine (HG.out _ B1.out).mono ?_; rintro e w2 ⟨⟨g, r, c', rfl, hr, S, hS, hE⟩, hb2⟩; have HS := Lib.hid (Rise.of hr hS (rise_low hE B1.out.size)); have B2 := Lib.hid (below_on B1.out (Nat.le_refl _) hb2); clear hb2 hr hS hE))
  rw [jump_ret]
  go_ret2
  exact ⟨⟨_, _, _, rfl, HS.out⟩, B2.out⟩

/-- What Increasing returns: an iterator over the variable at Bx, which holds the entries. -/
def Itr (w : World) (B : Nat) (l : List Int) (Bx : Nat) : Prop := B ≤ Bx ∧ ((ok l = false ∧ Boxed w Bx 69 (.slice none 0 0)) ∨ ∃ k g r c, l = k.map (fun n : Nat => (n : Int)) ∧ Vld k ∧ Boxed w Bx 69 (.slice (some ⟨g, 0, none⟩) r c) ∧ Rise w B k g r c)

set_option maxRecDepth 100000 in
set_option maxHeartbeats 1000000 in
theorem incr_no (w : World) (A : Option Addr) (l : List Int) (N c : Nat) (hN : l.length = N) (hR : Ri w A l) (hok : ok l = false) :
    Calls Try.prog 35 #[.slice A N c] w fun e w' => (∃ Bx, e = .returned (.func (.func 53) #[] #[.pointer (some ⟨Bx, 0, none⟩)]) ∧ Itr w' w.heap.size l Bx) ∧ Below w.heap.size w w' := by
  have HA := Lib.hid (access_ents_no w A l N c 51 #[] hN hR hok)
  clear hN hR
  go_enter Try.func35, Try.ntmps35
  go_wp2_with (go_at_call 50; refine HA.out.mono ?_; rintro e w1 ⟨rfl, rfl⟩)
  go_ret
  exact ⟨⟨_, rfl, Nat.le_refl _, .inl ⟨hok, Boxed.new w1 _ _⟩⟩, (Below.refl _ w1).alloc (Nat.le_refl _) _⟩

set_option maxRecDepth 100000 in
set_option maxHeartbeats 1000000 in
theorem incr_yes (w : World) (A : Option Addr) (k : List Nat) (N c : Nat) (hk : k.length = N) (hNc : N ≤ c) (hv : Vld k) (hR : Rn w A k) :
    Calls Try.prog 35 #[.slice A N c] w fun e w' => (∃ Bx, e = .returned (.func (.func 53) #[] #[.pointer (some ⟨Bx, 0, none⟩)]) ∧ Itr w' w.heap.size (k.map (fun n : Nat => (n : Int))) Bx) ∧ Below w.heap.size w w' := by
  have HA := Lib.hid (access_ents w A k N c hk hNc hv hR)
  have HV := Lib.hid hv
  clear hk hv hR
  go_enter Try.func35, Try.ntmps35
  go_wp2_with (go_at_call 50; refine HA.out.mono ?_; rintro e w1 ⟨⟨g, r, c', rfl, hs⟩, hb1⟩; have HS := Lib.hid hs; have B1 := Lib.hid hb1; clear hs hb1)
  go_ret
  obtain ⟨hr, S, hS, hE⟩ := HS.out
  exact ⟨⟨_, rfl, B1.out.size, .inr ⟨k, g, r, c', rfl, HV.out, Boxed.new w1 _ _, Rise.of hr hS (hE.alloc _)⟩⟩, B1.out.alloc B1.out.size _⟩

end Go.Proofs.Ytdlhfcapfbbjjaa
