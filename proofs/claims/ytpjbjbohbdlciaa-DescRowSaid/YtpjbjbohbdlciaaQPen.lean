/-
  What the methods of the bits that wait do: add, filled, drain, padded, marked. Conditions: fewer than 8 bits wait.
-/
import Derived.Test.YtpjbjbohbdlciaaQBase
import Derived.WalkKit
import Derived.WalkSpells
import Derived.Deep.QuietTactic
import Derived.BigQuiet
import Derived.RegionTactic
import Derived.ChangeAlike
import Derived.Laws.BitsAllLaws
namespace Go.Proofs.Ytpjbjbohbdlciaa.Bt
open Go.RowKit

set_option maxHeartbeats 400000 in
theorem filled_any {w : World} {x p c : Nat} {v : Value} (h : WrBlk w x p c v) :
    Calls Try.prog 70 #[.pointer (some ⟨x, 0, none⟩)] w fun e w' => e = .returned (.bool ((c : Int) == 8)) ∧ w = w' := by
  have h1 := h.cell1
  clear h
  go_enter Try.func70, Try.ntmps70
  go_wp2
  go_ret
  exact ⟨rfl, rfl⟩

set_option maxHeartbeats 400000 in
theorem padded_any {w : World} {x p c : Nat} {v : Value} (h : WrBlk w x p c v) :
    Calls Try.prog 55 #[.pointer (some ⟨x, 0, none⟩)] w fun e w' => e = .returned (.int .u8 (p : Int)) ∧ w = w' := by
  have h1 := h.cell0
  clear h
  go_enter Try.func55, Try.ntmps55
  go_wp2
  go_ret
  exact ⟨rfl, rfl⟩

theorem or_add {p c : Nat} (q : Nat) (hp : p < 2 ^ c) (hc : c < 8) : bits BinOp.or IntKind.u8 (p : Int) ((q : Int) % 256 * 2 ^ c % 256) = ((p + 2 ^ c * (q % 2 ^ (8 - c)) : Nat) : Int) := by
  have e256 : 256 = 2 ^ c * 2 ^ (8 - c) := by rw [← Nat.pow_add, show c + (8 - c) = 8 by omega]
  have hd : 2 ^ (8 - c) ∣ 256 := ⟨2 ^ c, by rw [Nat.mul_comm]; exact e256⟩
  have e1 : q % 256 * 2 ^ c % 256 = 2 ^ c * (q % 2 ^ (8 - c)) := by
    rw [Nat.mul_comm, show (2 ^ c * (q % 256)) % 256 = (2 ^ c * (q % 256)) % (2 ^ c * 2 ^ (8 - c)) by rw [← e256], Nat.mul_mod_mul_left, Nat.mod_mod_of_dvd _ hd]
  have e2 : ((q : Int) % 256 * 2 ^ c % 256) = ((2 ^ c * (q % 2 ^ (8 - c)) : Nat) : Int) := by
    rw [← e1, Int.natCast_emod, Int.natCast_mul, Int.natCast_emod, Int.natCast_pow]; rfl
  have hlt : 2 ^ c * (q % 2 ^ (8 - c)) < 256 := by
    rw [e256]
    exact (Nat.mul_lt_mul_left (Nat.two_pow_pos c)).2 (Nat.mod_lt _ (Nat.two_pow_pos _))
  have hp2 : p < 256 := Nat.lt_of_lt_of_le hp (by rw [e256]; exact Nat.le_mul_of_pos_right _ (Nat.two_pow_pos _))
  rw [e2, u8_or_nat _ _ hp2 hlt, Nat.or_comm, ← Nat.two_pow_add_eq_or_of_lt hp, Nat.add_comm]

theorem set_drain {w : World} {x p c : Nat} {v : Value} (h : WrBlk w x p c v) (p' c' : Nat) : WrBlk ((w.setCell ⟨x, 0, none⟩ (.int .u8 (p' : Int))).setCell ⟨x, 1, none⟩ (.int .i64 (c' : Int))) x p' c' v ∧
    w.grownBy ((w.setCell ⟨x, 0, none⟩ (.int .u8 (p' : Int))).setCell ⟨x, 1, none⟩ (.int .i64 (c' : Int))) (some x) :=
  ⟨(h.set0 p').set1 c', grown_trans (grown_setCell _ _ _ _) (grown_setCell _ _ _ _)⟩

set_option maxHeartbeats 400000 in
theorem drain_any {w : World} {x p c : Nat} {v : Value} (h : WrBlk w x p c v) :
    Calls Try.prog 71 #[.pointer (some ⟨x, 0, none⟩)] w fun e w' => e = .returned (.int .u8 (p : Int)) ∧ WrBlk w' x 0 0 v ∧ w.grownBy w' (some x) := by
  have h0 := h.cell0
  have h1 := h.cell1
  have f0 := h.free 0
  have f1 := h.free 1
  have H := Lib.hid h
  clear h
  go_enter Try.func71, Try.ntmps71
  go_wp2
  go_ret
  exact ⟨rfl, set_drain H.out 0 0⟩

/-- a bits have been added. -/
def AddPost (w : World) (x p c : Nat) (v : Value) (q a : Nat) (e : Ending) (w' : World) : Prop :=
  e = .returned (.int .i64 (a : Int)) ∧ WrBlk w' x (p + 2 ^ c * (q % 2 ^ a)) (c + a) v ∧ w.grownBy w' (some x)

theorem add_mk {w : World} {x p c : Nat} {v : Value} (h : WrBlk w x p c v) (q a : Nat) (z k : Int) (hz : z = ((p + 2 ^ c * (q % 2 ^ a) : Nat) : Int)) (hk : k = ((c + a : Nat) : Int)) :
    WrBlk ((w.setCell ⟨x, 0, none⟩ (.int .u8 z)).setCell ⟨x, 1, none⟩ (.int .i64 k)).drew x (p + 2 ^ c * (q % 2 ^ a)) (c + a) v ∧ w.grownBy ((w.setCell ⟨x, 0, none⟩ (.int .u8 z)).setCell ⟨x, 1, none⟩ (.int .i64 k)).drew (some x) := by
  subst hz hk
  have := set_drain h (p + 2 ^ c * (q % 2 ^ a)) (c + a)
  exact ⟨this.1, ⟨this.2.os, this.2.tape, this.2.output, this.2.size, this.2.block⟩⟩

set_option maxHeartbeats 1000000 in
theorem add_small {w : World} {x p c : Nat} {v : Value} (h : WrBlk w x p c v) (hc : c < 8) (hp : p < 2 ^ c) (q n : Nat) (hq : q < 2 ^ n) (hle : n ≤ 8 - c) :
    Calls Try.prog 69 #[.pointer (some ⟨x, 0, none⟩), .int .u64 (q : Int), .int .i64 (n : Int)] w (AddPost w x p c v q n) := by
  have h0 := h.cell0
  have h1 := h.cell1
  have f0 := h.free 0
  have f1 := h.free 1
  have H := Lib.hid h
  have HP := Lib.hid hp
  have HQ := Lib.hid hq
  clear h hp hq
  go_enter Try.func69, Try.ntmps69
  go_wp2
  go_region
  go_wp2
  go_ret
  refine ⟨rfl, add_mk H.out q n _ _ ?_ (by simp)⟩
  rw [or_add q HP.out hc, Nat.mod_eq_of_lt HQ.out, Nat.mod_eq_of_lt (Nat.lt_of_lt_of_le HQ.out (Nat.pow_le_pow_right (by decide) hle))]

set_option maxHeartbeats 1000000 in
theorem add_big {w : World} {x p c : Nat} {v : Value} (h : WrBlk w x p c v) (hc : c < 8) (hp : p < 2 ^ c) (q n : Nat) (hle : 8 - c < n) :
    Calls Try.prog 69 #[.pointer (some ⟨x, 0, none⟩), .int .u64 (q : Int), .int .i64 (n : Int)] w (AddPost w x p c v q (8 - c)) := by
  have h0 := h.cell0
  have h1 := h.cell1
  have f0 := h.free 0
  have f1 := h.free 1
  have H := Lib.hid h
  have HP := Lib.hid hp
  obtain ⟨a, ha⟩ : ∃ a, 8 - c = a := ⟨_, rfl⟩
  have HA := Lib.hid ha
  rw [ha]
  clear h hp ha
  go_enter Try.func69, Try.ntmps69
  go_wp2
  go_region
  go_wp2
  go_ret
  have ha := HA.out
  refine ⟨?_, add_mk H.out q a _ _ ?_ ?_⟩
  · simp; omega
  · rw [or_add q HP.out hc, HA.out]
  · omega

theorem add_any {w : World} {x p c : Nat} {v : Value} (h : WrBlk w x p c v) (hc : c < 8) (hp : p < 2 ^ c) (q n : Nat) (hq : q < 2 ^ n) :
    Calls Try.prog 69 #[.pointer (some ⟨x, 0, none⟩), .int .u64 (q : Int), .int .i64 (n : Int)] w (AddPost w x p c v q (min n (8 - c))) := by
  by_cases hle : n ≤ 8 - c
  · rw [Nat.min_eq_left hle]
    exact add_small h hc hp q n hq hle
  · rw [Nat.min_eq_right (by omega)]
    exact add_big h hc hp q n (by omega)

end Go.Proofs.Ytpjbjbohbdlciaa.Bt
