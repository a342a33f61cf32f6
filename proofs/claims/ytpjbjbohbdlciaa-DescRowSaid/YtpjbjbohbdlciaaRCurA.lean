/-
  What New, At, Left, End and the inner steps next, nextByte and checkVarint of a cursor do, for a cursor that lies in a block of its own. Condition: at most 3 * 10^14 bytes.
-/
import Derived.Test.YtpjbjbohbdlciaaRRef
import Derived.Deep.QuietTactic
import Derived.BigQuiet
namespace Go.Proofs.Ytpjbjbohbdlciaa.Nm
open Go.RowKit Go.Shelf

/-- A new cursor over the bytes l, in new memory. -/
def NewC (w : World) (l : List UInt8) (e : Ending) (w' : World) : Prop :=
  ∃ c A cap, e = .returned (.pointer (some ⟨c, 0, none⟩)) ∧ w.heap.size ≤ c ∧ Cur w' c A cap l 0 ∧ Below w.heap.size w w'

set_option maxHeartbeats 400000 in
theorem new_any (w : World) (A : Option Addr) (l : List UInt8) (cap : Nat) (hs : l.length ≤ 281474976710000) (hR : Rd w A l) :
    Calls Try.prog 19 #[.slice A l.length cap] w (NewC w l) := by
  have HX := Lib.hid (extend_any w A l cap 0 (by omega) (by omega) (by omega) hR)
  go_enter Try.func19, Try.ntmps19
  go_wp2_with fail
  refine HX.out.mono ?_
  rintro e w1 ⟨rfl, hrow0, hb0⟩
  have HR := Lib.hid hrow0
  clear hrow0
  go_wp2
  go_ret
  have hsz := hb0.size
  refine ⟨w1.heap.size, some ⟨w.heap.size, 0, none⟩, l.length, rfl, hsz, ⟨?_, ?_, Nat.zero_le _, Nat.le_refl _, by omega⟩, hb0.alloc hsz _⟩
  · exact heap_alloc_new w1 _
  · exact Rd.below (Rd.of_own HR.out) ((Below.refl _ _).alloc (Nat.le_refl _) _)

set_option maxHeartbeats 400000 in
theorem at_any {w : World} {c : Nat} {A : Option Addr} {n cap k : Nat} (h : CurBlk w c A n cap k) :
    Calls Try.prog 23 #[.pointer (some ⟨c, 0, none⟩)] w fun e w' => e = .returned (.int .i64 (k : Int)) ∧ w = w' := by
  have h1 := h.cell1
  clear h
  go_enter Try.func23, Try.ntmps23
  go_wp2
  go_ret
  exact ⟨rfl, rfl⟩

set_option maxHeartbeats 400000 in
theorem left_any {w : World} {c : Nat} {A : Option Addr} {n cap k : Nat} (h : CurBlk w c A n cap k) (hk : k ≤ n) (hn : n ≤ 300000000000000) :
    Calls Try.prog 24 #[.pointer (some ⟨c, 0, none⟩)] w fun e w' => e = .returned (.int .i64 ((n : Int) - (k : Int))) ∧ ∃ d, w' = w.drewN d := by
  have h1 := h.cell1
  have h0 := h.cell0
  clear h
  go_enter Try.func24, Try.ntmps24
  go_wp2
  go_quiet (fail)
  go_wp2
  go_ret
  exact ⟨rfl, _, rfl⟩

set_option maxHeartbeats 400000 in
theorem end_any {w : World} {c : Nat} {A : Option Addr} {cap : Nat} {l : List UInt8} {k : Nat} (h : Cur w c A cap l k) :
    Calls Try.prog 26 #[.pointer (some ⟨c, 0, none⟩)] w fun e w' => e = .returned (.int .i64 (if k < l.length then 4 else 0)) ∧ ∃ d, w' = w.drewN d := by
  have hk := h.le
  have HL := Lib.hid (left_any h.blk hk h.small)
  have HI : ∀ v : Int, Hid ((if k < l.length then (4 : Int) else 0) = v) → Hid (v = (if k < l.length then (4 : Int) else 0)) := fun _ e => Eq.symm e
  clear h
  by_cases hlt : k < l.length
  · rw [if_pos hlt]
    clear HI
    go_enter Try.func26, Try.ntmps26
    go_wp2_with fail
    refine HL.out.mono ?_
    rintro e w1 ⟨rfl, d, rfl⟩
    have hd : decide ((0 : Int) < (l.length : Int) - (k : Int)) = true := by simp; omega
    go_wp2
    go_ret
    exact ⟨rfl, _, rfl⟩
  · rw [if_neg hlt]
    clear HI
    go_enter Try.func26, Try.ntmps26
    go_wp2_with fail
    refine HL.out.mono ?_
    rintro e w1 ⟨rfl, d, rfl⟩
    have hd : decide ((0 : Int) < (l.length : Int) - (k : Int)) = false := by simp; omega
    go_wp2
    go_ret
    exact ⟨rfl, _, rfl⟩

set_option maxHeartbeats 400000 in
theorem next_neg (w : World) (p : Value) (n : Int) (h : n < 0) :
    Calls Try.prog 63 #[p, .int .i64 n] w fun e w' => e = .returned (.tuple #[.slice none 0 0, .int .i64 2]) ∧ w = w' := by
  go_enter Try.func63, Try.ntmps63
  go_wp2
  go_ret2
  exact ⟨rfl, rfl⟩

set_option maxHeartbeats 400000 in
theorem next_short {w : World} {c : Nat} {A : Option Addr} {cap : Nat} {l : List UInt8} {k : Nat} (h : Cur w c A cap l k) (n : Int) (h0 : 0 ≤ n) (hn : (l.length : Int) - (k : Int) < n) :
    Calls Try.prog 63 #[.pointer (some ⟨c, 0, none⟩), .int .i64 n] w fun e w' => e = .returned (.tuple #[.slice none 0 0, .int .i64 3]) ∧ ∃ d, w' = w.drewN d := by
  have HL := Lib.hid (left_any h.blk h.le h.small)
  clear h
  go_enter Try.func63, Try.ntmps63
  go_wp2_with fail
  refine HL.out.mono ?_
  rintro e w1 ⟨rfl, d, rfl⟩
  go_wp2
  go_ret2
  exact ⟨rfl, _, rfl⟩

/-- n bytes have been passed and are returned, not copied. -/
def Passed (w : World) (c : Nat) (A : Option Addr) (cap : Nat) (l : List UInt8) (k n : Nat) (e : Ending) (w' : World) : Prop :=
  ∃ A' c', e = .returned (.tuple #[.slice A' n c', .int .i64 0]) ∧ Rd w' A' ((l.drop k).take n) ∧ Cur w' c A cap l (k + n) ∧ w.grownBy w' (some c)

theorem cur_step {w : World} {c : Nat} {A : Option Addr} {cap : Nat} {l : List UInt8} {k : Nat} (h : Cur w c A cap l k) (n d nq : Nat) (hn : k + n ≤ l.length) :
    Cur (((w.drewN d).setCell ⟨c, 1, none⟩ (.int .i64 ((k : Int) + (n : Int)))).drewN nq) c A cap l (k + n) ∧ w.grownBy (((w.drewN d).setCell ⟨c, 1, none⟩ (.int .i64 ((k : Int) + (n : Int)))).drewN nq) (some c) := by
  have hg : w.grownBy (((w.drewN d).setCell ⟨c, 1, none⟩ (.int .i64 ((k : Int) + (n : Int)))).drewN nq) (some c) := by
    have := grown_setCell w c 1 (.int .i64 ((k : Int) + (n : Int)))
    exact ⟨this.os, this.tape, this.output, this.size, this.block⟩
  refine ⟨h.grown_self hg ?_ hn, hg⟩
  have := h.blk.set (k + n)
  rw [Int.natCast_add] at this
  exact this

theorem passed_mk {w : World} {c : Nat} {A A' : Option Addr} {cap c' : Nat} {l : List UInt8} {k n : Nat} (h : Cur w c A cap l k) (d nq : Nat) (hn : k + n ≤ l.length) (hA : (A' = A ∧ n = 0) ∨ A' = A.map (·.add k)) :
    Passed w c A cap l k n (.returned (.tuple #[.slice A' n c', .int .i64 0])) (((w.drewN d).setCell ⟨c, 1, none⟩ (.int .i64 ((k : Int) + (n : Int)))).drewN nq) := by
  obtain ⟨h1, h2⟩ := cur_step h n d nq hn
  refine ⟨A', c', rfl, ?_, h1, h2⟩
  rcases hA with ⟨_, rfl⟩ | rfl
  · rw [List.take_zero]; exact Rd.nil _ _
  · exact h1.rd.cut k n

set_option maxHeartbeats 1000000 in
theorem next_ok {w : World} {c : Nat} {A : Option Addr} {cap : Nat} {l : List UInt8} {k : Nat} (h : Cur w c A cap l k) (n : Int) (h0 : 0 ≤ n) (hn : n ≤ (l.length : Int) - (k : Int)) :
    Calls Try.prog 63 #[.pointer (some ⟨c, 0, none⟩), .int .i64 n] w (Passed w c A cap l k n.toNat) := by
  obtain ⟨n, rfl⟩ := Int.eq_ofNat_of_zero_le h0
  rw [Int.toNat_natCast]
  have HL := Lib.hid (left_any h.blk h.le h.small)
  have hle := h.le
  have hcap := h.cap
  have hsm := h.small
  have h1 := h.blk.cell1
  have h2 := h.blk.cell0
  have h3 := h.blk.free 1
  have H := Lib.hid h
  clear h
  obtain ⟨N, hN⟩ : ∃ N, l.length = N := ⟨_, rfl⟩
  have HN := Lib.hid hN
  rw [hN] at hle hcap hsm h2 HL hn
  clear hN
  go_enter Try.func63, Try.ntmps63
  go_wp2_with fail
  refine HL.out.mono ?_
  rintro e w1 ⟨rfl, d, rfl⟩
  go_wp2
  go_quiet (fail)
  go_wp2
  · go_ret2
    obtain rfl : cap = k := by assumption
    exact passed_mk H.out d nq (n := n) (by rw [HN.out]; omega) (.inl ⟨rfl, by omega⟩)
  · go_ret2
    exact passed_mk H.out d nq (n := n) (by rw [HN.out]; omega) (.inr rfl)

end Go.Proofs.Ytpjbjbohbdlciaa.Nm
