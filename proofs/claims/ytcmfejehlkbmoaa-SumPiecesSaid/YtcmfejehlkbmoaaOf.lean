/-
  What New, Low, sum.Of, the reference's Of and the laws' known do. Nothing that was there has changed. Conditions: fewer than 2^40 bytes.
-/
import Derived.Test.YtcmfejehlkbmoaaSu
namespace Go.Proofs.Ytcmfejehlkbmoaa
open Go.RowKit

set_option maxHeartbeats 400000 in
theorem low_any {w : World} {x : Nat} {l : List UInt8} (H : Su w x l) (hl : l.length ≤ 1099511627776) :
    Calls Try.prog 17 #[.pointer (some ⟨x, 0, none⟩)] w fun e w' => e = .returned (.int .u32 (IntKind.u32.wrap (chk l : Int))) ∧ Below w.heap.size w w' := by
  have HS := Lib.hid (sum_any H hl)
  obtain ⟨d, hd⟩ : ∃ d, chk l = d := ⟨_, rfl⟩
  rw [hd] at HS ⊢
  clear H hd
  go_enter Try.func17, Try.ntmps17
  go_wp2_with fail
  refine HS.out.mono ?_
  rintro e w1 ⟨rfl, hb⟩
  have HB := Lib.hid hb
  clear hb
  go_wp2_with fail
  go_ret
  exact ⟨rfl, HB.out⟩

set_option maxHeartbeats 400000 in
theorem low_nil (w : World) :
    Calls Try.prog 17 #[.pointer none] w fun e w' => e = .returned (.int .u32 0) ∧ w' = w := by
  go_enter Try.func17, Try.ntmps17
  go_wp2_with fail
  refine (sum_nil w).mono ?_
  rintro e w1 ⟨rfl, rfl⟩
  go_wp2_with fail
  go_ret
  exact ⟨rfl, rfl⟩

theorem su_zero (w : World) : Su (w.alloc (.cells #[.int .u64 0, .int .u8 0, .int .u8 0, .int .u8 0, .int .u8 0, .int .u8 0, .int .u8 0, .int .u8 0, .int .u8 0, .int .i64 0] 44)) w.heap.size [] :=
  ⟨[0, 0, 0, 0, 0, 0, 0, 0], ⟨rfl, by decide, World.alloc_heap_new _ _⟩, rfl⟩

/-- A Sum that has just been made. -/
def Fresh (w : World) (x : Nat) (w' : World) : Prop := x = w.heap.size ∧ Below w.heap.size w w' ∧ w'.heap.size = w.heap.size + 1 ∧ Su w' x []

set_option maxHeartbeats 400000 in
theorem new_any (w : World) :
    Calls Try.prog 14 #[] w fun e w' => e = .returned (.pointer (some ⟨w.heap.size, 0, none⟩)) ∧ Fresh w w.heap.size w' := by
  have HZ := Lib.hid (su_zero w)
  go_enter Try.func14, Try.ntmps14
  go_wp2
  go_ret
  exact ⟨rfl, rfl, (Below.refl _ _).alloc (Nat.le_refl _) _, World.size_alloc _ _, HZ.out⟩

set_option maxHeartbeats 1000000 in
theorem of_any (w : World) (A : Option Addr) (l : List UInt8) (N c : Nat) (hN : l.length = N) (hNc : N ≤ c) (hs : N ≤ 1099511627776) (hR : Rd w A l) :
    Calls Try.prog 12 #[.slice A N c] w fun e w' => e = .returned (.int .u64 (chk l : Int)) ∧ Below w.heap.size w w' := by
  have B1 := Lib.hid ((Below.refl w.heap.size w).alloc (Nat.le_refl _) (.cells #[.int .u64 0, .int .u8 0, .int .u8 0, .int .u8 0, .int .u8 0, .int .u8 0, .int .u8 0, .int .u8 0, .int .u8 0, .int .i64 0] 44))
  have Z1 := Lib.hid (su_zero w)
  obtain ⟨w1, hw1⟩ : ∃ w1, w.alloc (.cells #[.int .u64 0, .int .u8 0, .int .u8 0, .int .u8 0, .int .u8 0, .int .u8 0, .int .u8 0, .int .u8 0, .int .u8 0, .int .i64 0] 44) = w1 := ⟨_, rfl⟩
  rw [hw1] at B1 Z1
  have WR := Lib.hid (write_any Z1.out A l N c hN hNc (by simpa using hs) (hR.below B1.out) (fun hm ad e => by have := rd_lt hR hm ad e; omega))
  have SM : Hid (∀ w2, Su w2 w.heap.size l → Calls Try.prog 16 #[.pointer (some ⟨w.heap.size, 0, none⟩)] w2 fun e w' => e = .returned (.int .u64 (chk l : Int)) ∧ Below w2.heap.size w2 w') := Lib.hid (fun w2 h => sum_any h (by omega))
  obtain ⟨d, hd⟩ : ∃ d, chk l = d := ⟨_, rfl⟩
  rw [hd] at SM ⊢
  clear hd hR hN
  go_enter Try.func12, Try.ntmps12
  go_wp2_with fail
  refine WR.out.mono ?_
  rintro e w2 ⟨rfl, hg, hsu⟩
  have B2 := Lib.hid (B1.out.grown hg B1.out.size (fun k e => by cases e; exact Nat.le_refl _))
  have S2 := Lib.hid hsu
  clear hg hsu
  go_wp2_with fail
  refine (SM.out w2 S2.out).mono ?_
  rintro e w3 ⟨rfl, hb⟩
  have B3 := Lib.hid (below_on B2.out (Nat.le_refl _) hb)
  clear hb
  go_wp2_with fail
  go_ret
  exact ⟨rfl, B3.out⟩

end Go.Proofs.Ytcmfejehlkbmoaa
