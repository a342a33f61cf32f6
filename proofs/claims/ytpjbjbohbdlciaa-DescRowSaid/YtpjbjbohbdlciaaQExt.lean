/-
  What the closure in value does: it takes the bits of one byte. Conditions: the numbers are in their ranges.
-/
import Derived.Test.YtpjbjbohbdlciaaQCut
import Derived.Test.YtpjbjbohbdlciaaQWr
import Derived.OneCell
namespace Go.Proofs.Ytpjbjbohbdlciaa.Bt
open Go.RowKit

/-- The three variables that the closure captures, from block b on: n, the value, and how many bits are done. -/
structure Bx (w : World) (b : Nat) (n d v : Nat) : Prop where
  n : w.heap[b]? = some (.cells #[.int .i64 (n : Int)] 3 (0, 0))
  v : w.heap[b + 1]? = some (.cells #[.int .u64 (v : Int)] 61 (0, 0))
  d : w.heap[b + 2]? = some (.cells #[.int .i64 (d : Int)] 3 (0, 0))

/-- m more bits are done. -/
def ExtPost (w : World) (b n d v : Nat) (e : Ending) (w' : World) : Prop :=
  e = .returned (.tuple #[]) ∧ Bx w' b n d v ∧ Below b w w'

theorem ext_or {v d x s m : Nat} (hx : x < 256) (hv : v < 2 ^ d) (hdm : d + m ≤ 64) (hm : m ≤ 8) :
    bits BinOp.or IntKind.u64 (v : Int) (IntKind.u64.wrap (bits BinOp.and IntKind.u64 (IntKind.u64.wrap ((x : Int) / 2 ^ s)) (IntKind.u64.wrap (IntKind.u64.wrap (2 ^ m) - 1)) * 2 ^ d)) = ((v + 2 ^ d * (x / 2 ^ s % 2 ^ m) : Nat) : Int) := by
  have hy : x / 2 ^ s < 256 := Nat.lt_of_le_of_lt (Nat.div_le_self _ _) hx
  have e0 : ((x : Int) / 2 ^ s) = ((x / 2 ^ s : Nat) : Int) := by simp
  have hp : 2 ^ m ≤ 256 := Nat.pow_le_pow_right (n := 2) (by decide) hm
  have hp1 : 0 < 2 ^ m := Nat.two_pow_pos m
  have e1 : ((2 : Int) ^ m) = ((2 ^ m : Nat) : Int) := by simp
  obtain ⟨y, hyy⟩ : ∃ y, x / 2 ^ s = y := ⟨_, rfl⟩
  obtain ⟨q, hq⟩ : ∃ q, 2 ^ m = q := ⟨_, rfl⟩
  rw [e0, e1, hyy, hq]
  rw [hyy] at hy
  rw [hq] at hp hp1
  rw [IntWalk.u64_in (y : Int) (by omega), IntWalk.u64_in (q : Int) (by omega), IntWalk.u64_in ((q : Int) - 1) (by omega)]
  have e2 : ((q : Int) - 1) = ((q - 1 : Nat) : Int) := by omega
  rw [e2, u64_and_nat _ _ (by omega) (by omega), ← hq, Nat.and_two_pow_sub_one_eq_mod]
  have hr : y % 2 ^ m < 2 ^ m := Nat.mod_lt _ (Nat.two_pow_pos m)
  have h3 : 2 ^ d * (y % 2 ^ m) < 2 ^ d * 2 ^ m := (Nat.mul_lt_mul_left (Nat.two_pow_pos d)).2 hr
  have h4 : 2 ^ d * 2 ^ m ≤ 18446744073709551616 := by
    rw [← Nat.pow_add]
    exact Nat.pow_le_pow_right (n := 2) (by decide) hdm
  have h5 : 2 ^ d ≤ 18446744073709551616 := Nat.pow_le_pow_right (n := 2) (by decide) (show d ≤ 64 by omega)
  have e3 : (((y % 2 ^ m : Nat) : Int) * 2 ^ d) = ((2 ^ d * (y % 2 ^ m) : Nat) : Int) := by
    rw [Nat.mul_comm, Int.natCast_mul, Int.natCast_pow]; rfl
  rw [e3, IntWalk.u64_in _ (by omega), u64_or_nat _ _ (by omega) (by omega), Nat.or_comm, ← Nat.two_pow_add_eq_or_of_lt hv, Nat.add_comm]

theorem ext_mk {w : World} {b n d v : Nat} (h : Bx w b n d v) (d' v' : Nat) (z k : Int) (hz : z = (v' : Int)) (hk : k = (d' : Int)) :
    Bx ((w.setCell ⟨b + 1, 0, none⟩ (.int .u64 z)).setCell ⟨b + 2, 0, none⟩ (.int .i64 k)).drew b n d' v' ∧ Below b w ((w.setCell ⟨b + 1, 0, none⟩ (.int .u64 z)).setCell ⟨b + 2, 0, none⟩ (.int .i64 k)).drew := by
  subst hz hk
  have h1 : (w.setCell ⟨b + 1, 0, none⟩ (.int .u64 (v' : Int))).heap[b + 2]? = some (.cells #[.int .i64 (d : Int)] 3 (0, 0)) := by
    rw [Below.heap_setCell _ _ _ _ (show b + 2 ≠ b + 1 by omega)]; exact h.d
  refine ⟨⟨?_, ?_, ?_⟩, ?_⟩
  · show ((w.setCell ⟨b + 1, 0, none⟩ (.int .u64 (v' : Int))).setCell ⟨b + 2, 0, none⟩ (.int .i64 (d' : Int))).heap[b]? = _
    rw [Below.heap_setCell _ _ _ _ (show b ≠ b + 2 by omega), Below.heap_setCell _ _ _ _ (show b ≠ b + 1 by omega)]
    exact h.n
  · show ((w.setCell ⟨b + 1, 0, none⟩ (.int .u64 (v' : Int))).setCell ⟨b + 2, 0, none⟩ (.int .i64 (d' : Int))).heap[b + 1]? = _
    rw [Below.heap_setCell _ _ _ _ (show b + 1 ≠ b + 2 by omega)]
    exact one_setCell h.v
  · exact one_setCell h1
  · have g1 : w.grownBy (w.setCell ⟨b + 1, 0, none⟩ (.int .u64 (v' : Int))) (some (b + 1)) := grown_setCell _ _ _ _
    have g2 : (w.setCell ⟨b + 1, 0, none⟩ (.int .u64 (v' : Int))).grownBy ((w.setCell ⟨b + 1, 0, none⟩ (.int .u64 (v' : Int))).setCell ⟨b + 2, 0, none⟩ (.int .i64 (d' : Int))) (some (b + 2)) := grown_setCell _ _ _ _
    have s1 := g1.size
    have s2 := g2.size
    have hlt := lt_of_block h.d
    exact ⟨g2.os.trans g1.os, g2.tape.trans g1.tape, g2.output.trans g1.output, Nat.le_trans s1 s2, fun k hk => (g2.block k (by omega) (by simp; omega)).trans (g1.block k (by omega) (by simp; omega))⟩

set_option maxHeartbeats 1000000 in
theorem ext_small {w : World} {b d v r : Nat} (h : Bx w b (d + r) d v) (x s : Nat) (hx : x < 256) (hs : s < 8) (hr : r < 8 - s) (hd : d + r ≤ 64) (hv : v < 2 ^ d) :
    Calls Try.prog 81 #[.int .u8 (x : Int), .int .i64 (s : Int), .pointer (some ⟨b, 0, none⟩), .pointer (some ⟨b + 2, 0, none⟩), .pointer (some ⟨b + 1, 0, none⟩)] w
      (ExtPost w b (d + r) (d + r) (v + 2 ^ d * (x / 2 ^ s % 2 ^ r))) := by
  have c0 := cell_of_one h.n
  have c1 := cell_of_one h.v
  have c2 := cell_of_one h.d
  have f1 := free_of_one h.v
  have f2 := free_of_one h.d
  have H := Lib.hid h
  have HX := Lib.hid (ext_or (s := s) hx hv hd (by omega))
  obtain ⟨R, hR⟩ : ∃ R, v + 2 ^ d * (x / 2 ^ s % 2 ^ r) = R := ⟨_, rfl⟩
  rw [hR] at HX ⊢
  clear h hv hR
  go_enter Try.func81, Try.ntmps81
  go_wp2
  go_region
  go_wp2
  all_goals first
    | (exfalso; omega)
    | (go_end0; exact ⟨rfl, ext_mk H.out _ _ _ _ HX.out (by omega)⟩)

set_option maxHeartbeats 1000000 in
theorem ext_big {w : World} {b d v r : Nat} (h : Bx w b (d + r) d v) (x s : Nat) (hx : x < 256) (hs : s < 8) (hr : 8 - s ≤ r) (hd : d + r ≤ 64) (hv : v < 2 ^ d) :
    Calls Try.prog 81 #[.int .u8 (x : Int), .int .i64 (s : Int), .pointer (some ⟨b, 0, none⟩), .pointer (some ⟨b + 2, 0, none⟩), .pointer (some ⟨b + 1, 0, none⟩)] w
      (ExtPost w b (d + r) (d + (8 - s)) (v + 2 ^ d * (x / 2 ^ s % 2 ^ (8 - s)))) := by
  have c0 := cell_of_one h.n
  have c1 := cell_of_one h.v
  have c2 := cell_of_one h.d
  have f1 := free_of_one h.v
  have f2 := free_of_one h.d
  have H := Lib.hid h
  have HX := Lib.hid (ext_or (s := s) (m := 8 - s) hx hv (by omega) (by omega))
  obtain ⟨R, hR⟩ : ∃ R, v + 2 ^ d * (x / 2 ^ s % 2 ^ (8 - s)) = R := ⟨_, rfl⟩
  rw [hR] at HX ⊢
  clear h hv hR
  go_enter Try.func81, Try.ntmps81
  go_wp2
  go_region
  go_wp2
  all_goals first
    | (exfalso; omega)
    | (go_end0; exact ⟨rfl, ext_mk H.out _ _ _ _ HX.out (by omega)⟩)

theorem ext_any {w : World} {b n d v r : Nat} (h : Bx w b n d v) (hn : d + r = n) (x s : Nat) (hx : x < 256) (hs : s < 8) (hd : n ≤ 64) (hv : v < 2 ^ d) (a : Nat) (ha : min r (8 - s) = a) :
    Calls Try.prog 81 #[.int .u8 (x : Int), .int .i64 (s : Int), .pointer (some ⟨b, 0, none⟩), .pointer (some ⟨b + 2, 0, none⟩), .pointer (some ⟨b + 1, 0, none⟩)] w
      (ExtPost w b n (d + a) (v + 2 ^ d * (x / 2 ^ s % 2 ^ a))) := by
  subst ha hn
  by_cases hle : r < 8 - s
  · rw [Nat.min_eq_left (by omega)]
    exact ext_small h x s hx hs hle hd hv
  · rw [Nat.min_eq_right (by omega)]
    exact ext_big h x s hx hs (by omega) hd hv

end Go.Proofs.Ytpjbjbohbdlciaa.Bt
