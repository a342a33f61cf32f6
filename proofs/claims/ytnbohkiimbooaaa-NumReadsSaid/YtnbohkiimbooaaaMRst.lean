/-
  What the method Rest of a cursor does: a copy of the bytes that are left, in new memory; and what At, Left, Rest and End answer for a nil cursor. Condition: at most 2.8 * 10^14 bytes.
-/
import Derived.Test.YtnbohkiimbooaaaMPek
namespace Go.Proofs.Ytnbohkiimbooaaa
open Go.RowKit Go.Shelf

set_option maxHeartbeats 400000 in
theorem rest_any {w : World} {c : Nat} {A : Option Addr} {cap : Nat} {l : List UInt8} {k : Nat} (h : Cur w c A cap l k) (hs : l.length ≤ 281474976710000) :
    Calls Try.prog 27 #[.pointer (some ⟨c, 0, none⟩)] w (Got w (l.drop k)) := by
  have hle := h.le
  have HL := Lib.hid (left_any h.blk h.le h.small)
  have HP : Hid (∀ d, Calls Try.prog 31 #[.pointer (some ⟨c, 0, none⟩), .int .i64 ((l.length : Int) - (k : Int))] (w.drewN d) (Got (w.drewN d) (l.drop k))) := by
    refine Lib.hid fun d => ?_
    have := peek_any (h.drewN d) hs ((l.length : Int) - (k : Int))
    rw [List.take_of_length_le (by simp)] at this
    exact this
  clear h hle hs
  obtain ⟨s, hss⟩ : ∃ s, l.drop k = s := ⟨_, rfl⟩
  rw [hss] at HP ⊢
  clear hss
  go_enter Try.func27, Try.ntmps27
  go_wp2_with fail
  refine HL.out.mono ?_
  rintro e w1 ⟨rfl, d, rfl⟩
  go_wp2_with fail
  refine (HP.out _).mono ?_
  rintro e w2 ⟨v, rfl, A', c', rfl, ho, hb⟩
  have HO := Lib.hid ho
  have HB := Lib.hid hb
  clear ho hb
  go_wp2
  go_ret
  exact ⟨_, rfl, _, _, rfl, HO.out, below_on (below_drewN' (Below.refl _ _) d) (Nat.le_refl _) HB.out⟩

set_option maxHeartbeats 400000 in
theorem at_nil (w : World) : Calls Try.prog 25 #[.pointer none] w fun e w' => e = .returned (.int .i64 0) ∧ w = w' := by
  go_enter Try.func25, Try.ntmps25
  go_wp2
  go_ret
  exact ⟨rfl, rfl⟩

set_option maxHeartbeats 400000 in
theorem left_nil (w : World) : Calls Try.prog 26 #[.pointer none] w fun e w' => e = .returned (.int .i64 0) ∧ w = w' := by
  go_enter Try.func26, Try.ntmps26
  go_wp2
  go_ret
  exact ⟨rfl, rfl⟩

set_option maxHeartbeats 400000 in
theorem end_nil (w : World) : Calls Try.prog 28 #[.pointer none] w fun e w' => e = .returned (.int .i64 1) ∧ w = w' := by
  go_enter Try.func28, Try.ntmps28
  go_wp2
  go_ret
  exact ⟨rfl, rfl⟩

set_option maxHeartbeats 400000 in
theorem rest_nil (w : World) : Calls Try.prog 27 #[.pointer none] w fun e w' => e = .returned (.slice none 0 0) ∧ w = w' := by
  go_enter Try.func27, Try.ntmps27
  go_wp2_with fail
  refine (left_nil _).mono ?_
  rintro e w1 ⟨rfl, rfl⟩
  go_wp2_with fail
  refine (peek_nil _ _).mono ?_
  rintro e w1 ⟨rfl, rfl⟩
  go_wp2
  go_ret
  exact ⟨rfl, rfl⟩

end Go.Proofs.Ytnbohkiimbooaaa
