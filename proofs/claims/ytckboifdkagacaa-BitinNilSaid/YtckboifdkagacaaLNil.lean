/-
  Proved: the law BitinNil returns true for every number of bits: the results of all methods with a nil receiver and with a zero value. No condition.
-/
import Derived.Test.YtckboifdkagacaaFrm
namespace Go.Proofs.Ytckboifdkagacaa.bitinNil
open Go.ChangeShapes Go.WideShapes Go.ChangeAt Go.RowKit

theorem sp_zero (w : World) (T : TypeId) : Sp (w.alloc (.cells #[.slice none 0 0, .int .i64 0, .int .i64 0] T)) w.heap.size T none 0 [] 0 0 :=
  ⟨heap_alloc_new w _, Rv.nil _ _, fun ad e => by cases e⟩
theorem rr_zero {w0 w : World} (T : TypeId) (hb : Below w0.heap.size w0 w) : Rr w0 (w.alloc (.cells #[.slice none 0 0, .int .i64 0, .int .i64 0] T)) w.heap.size T none 0 [] 0 0 :=
  ⟨sp_zero w T, below_on hb (Nat.le_refl _) ((Below.refl _ _).alloc (Nat.le_refl _) _), hb.size, fun ad e => by cases e⟩

/-- Two results of a reader without bits, which stays one. -/
def ZPost (w0 w : World) (x : Nat) (T : TypeId) (r : Int) (e : Ending) (w' : World) : Prop :=
  e = .returned (.tuple #[.int .u64 0, .int .i64 r]) ∧ Rr w0 w' x T none 0 [] 0 0 ∧ w.grownBy w' (some x)
theorem zpost_err {w0 w w' : World} {x : Nat} {T : TypeId} {r : Int} {e : Ending} (h : Rr w0 w x T none 0 [] 0 0) (k : Err2 w .u64 r e w') : ZPost w0 w x T r e w' := by
  obtain ⟨rfl, d, rfl⟩ := k
  exact ⟨rfl, h.dr d, grown_drewN (World.grownBy.refl w (some x)) d⟩

theorem zf_take {w0 w : World} {x : Nat} {T : TypeId} (h : Rr w0 w x T none 0 [] 0 0) (n : Int) (r : Int) (hr : chk n 0 3 = r) :
    Calls Try.prog 16 #[.pointer (some ⟨x, 0, none⟩), .int .i64 n] w (ZPost w0 w x T r) := by
  by_cases h0 : r = 0
  · subst h0
    have hn : n = 0 := by have := chk_ok hr (by decide); omega
    subst hn
    refine (ftake_ok h.sp (Nat.le_refl _) (by decide) 0 (by decide) (by decide)).mono ?_
    rintro e w' ⟨rfl, hs, hg⟩
    exact ⟨by rw [cut_zero]; rfl, h.step hs hg, hg⟩
  · exact (ftake_err h.sp 0 rfl (by decide) n r hr h0).mono fun _ _ k => zpost_err h k
theorem zk_take {w0 w : World} {x : Nat} {T : TypeId} (h : Rr w0 w x T none 0 [] 0 0) (n : Int) (r : Int) (hr : chk n 0 14 = r) :
    Calls Try.prog 26 #[.pointer (some ⟨x, 0, none⟩), .int .i64 n] w (ZPost w0 w x T r) := by
  by_cases h0 : r = 0
  · subst h0
    have hn : n = 0 := by have := chk_ok hr (by decide); omega
    subst hn
    refine (btake_ok h.sp (Nat.le_refl _) (by decide) 0 (by decide) (by decide)).mono ?_
    rintro e w' ⟨rfl, hs, hg⟩
    exact ⟨by rw [cut_zero]; rfl, h.step hs hg, hg⟩
  · exact (btake_err h.sp (by decide) n r hr h0).mono fun _ _ k => zpost_err h k
theorem zk_skip {w0 w : World} {x : Nat} {T : TypeId} (h : Rr w0 w x T none 0 [] 0 0) (n : Int) (r : Int) (hr : chk n 0 14 = r) :
    Calls Try.prog 25 #[.pointer (some ⟨x, 0, none⟩), .int .i64 n] w fun e w' => e = .returned (.int .i64 r) ∧ Rr w0 w' x T none 0 [] 0 0 ∧ w.grownBy w' (some x) := by
  by_cases h0 : r = 0
  · subst h0
    have hn : n = 0 := by have := chk_ok hr (by decide); omega
    subst hn
    refine (skip_ok h.sp (by decide) 0 (by decide) (by decide)).mono ?_
    rintro e w' ⟨rfl, hs, hg⟩
    exact ⟨rfl, h.step hs hg, hg⟩
  · refine (skip_err h.sp (by decide) n r hr h0).mono ?_
    rintro e w' ⟨rfl, d, rfl⟩
    exact ⟨rfl, h.dr d, grown_drewN (World.grownBy.refl w (some x)) d⟩
theorem zk_peek {w0 w : World} {x : Nat} {T : TypeId} (h : Rr w0 w x T none 0 [] 0 0) (n : Int) :
    Calls Try.prog 22 #[.pointer (some ⟨x, 0, none⟩), .int .i64 n] w fun e w' => e = .returned (.int .u64 0) ∧ Below w.heap.size w w' := by
  refine (peek_any h.sp (Nat.le_refl _) (by decide) n _ rfl).mono ?_
  rintro e w' ⟨rfl, hb⟩
  refine ⟨?_, hb⟩
  have : pk [] 0 (min n.toNat 64) = 0 := by simp [pk, cut, val]
  rw [this]
  rfl
theorem zf_align {w0 w : World} {x : Nat} {T : TypeId} (h : Rr w0 w x T none 0 [] 0 0) :
    Calls Try.prog 14 #[.pointer (some ⟨x, 0, none⟩)] w fun e w' => e = .returned (.tuple #[.int .i64 0, .int .i64 0]) ∧ Rr w0 w' x T none 0 [] 0 0 ∧ w.grownBy w' (some x) := by
  refine (align_good h.sp (by decide) 0 rfl (by decide) rfl).mono ?_
  rintro e w' ⟨rfl, hs, hg⟩
  exact ⟨rfl, h.step hs hg, hg⟩
theorem left_z {w0 w : World} {x : Nat} {T : TypeId} (h : Rr w0 w x T none 0 [] 0 0) : Calls Try.prog 19 #[.pointer (some ⟨x, 0, none⟩)] w fun e w' => e = .returned (.int .i64 0) ∧ ∃ d, w' = w.drewN d :=
  fleft_any h.sp 0 rfl (by decide)
theorem at_z {w0 w : World} {x : Nat} {T : TypeId} (h : Rr w0 w x T none 0 [] 0 0) : Calls Try.prog 18 #[.pointer (some ⟨x, 0, none⟩)] w fun e w' => e = .returned (.int .i64 0) ∧ ∃ d, w' = w.drewN d := at_any h.sp


set_option maxRecDepth 100000 in
set_option maxHeartbeats 4000000 in
theorem walk_neg (n : Int) (w : World) (hn : n < 0) :
    Calls Try.prog 10 #[.int .i64 n] w fun e w' => e = .returned (.bool true) ∧ Below w.heap.size w w' := by
  have hd : decide (n < 0) = true := decide_eq_true hn
  have hz : (n == 0) = false := by simp; omega
  have F0' := rr_zero (w0 := w) (w := w) 68 (Below.refl _ _)
  have K0 := Lib.hid (rr_zero (w0 := w) 69 F0'.bel)
  have F0 := Lib.hid (F0'.on ((Below.refl _ _).alloc (Nat.le_refl _) (.cells #[.slice none 0 0, .int .i64 0, .int .i64 0] 69)))
  rw [World.size_alloc] at K0
  have SP : Hid (Sep w.heap.size none (w.heap.size + 1) none) := Lib.hid ⟨by omega, (fun ad e => by cases e), (fun ad e => by cases e)⟩
  clear F0'
  go_enter Try.func10, Try.ntmps10
  go_wp2_with fail
  generalize (w.alloc (.cells #[.slice none 0 0, .int .i64 0, .int .i64 0] 68)).alloc (.cells #[.slice none 0 0, .int .i64 0, .int .i64 0] 69) = w1 at F0 K0 ⊢
  refine (ftake_nil _ n).mono ?_
  rintro e w0' ⟨rfl, d0, hw⟩
  have F1 := Lib.hid (F0.out.eqd hw)
  have K1 := Lib.hid (K0.out.eqd hw)
  clear F0 K0 hw
  go_wp2_with fail
  refine (align_nil _).mono ?_
  rintro e w1' ⟨rfl, d1, hw⟩
  have F2 := Lib.hid (F1.out.eqd hw)
  have K2 := Lib.hid (K1.out.eqd hw)
  clear F1 K1 hw
  go_wp2_with fail
  refine (btake_nil _ n).mono ?_
  rintro e w2' ⟨rfl, d2, hw⟩
  have F3 := Lib.hid (F2.out.eqd hw)
  have K3 := Lib.hid (K2.out.eqd hw)
  clear F2 K2 hw
  go_wp2_with fail
  refine (zf_take F3.out n 2 (by simp [chk, hn])).mono ?_
  rintro e w3' ⟨rfl, hr, hg⟩
  have F4 := Lib.hid hr
  have K4 := Lib.hid (K3.out.other SP.out.symm F3.out.ge hg)
  clear F3 K3 hr hg
  go_wp2_with fail
  refine (zf_align F4.out).mono ?_
  rintro e w4' ⟨rfl, hr, hg⟩
  have F5 := Lib.hid hr
  have K5 := Lib.hid (K4.out.other SP.out.symm F4.out.ge hg)
  clear F4 K4 hr hg
  go_wp2_with fail
  refine (zk_take K5.out n 2 (by simp [chk, hn])).mono ?_
  rintro e w5' ⟨rfl, hr, hg⟩
  have F6 := Lib.hid (F5.out.other SP.out K5.out.ge hg)
  have K6 := Lib.hid hr
  clear F5 K5 hr hg
  go_wp2_with fail
  refine (skip_nil _ n).mono ?_
  rintro e w6' ⟨rfl, d6, hw⟩
  have F7 := Lib.hid (F6.out.eqd hw)
  have K7 := Lib.hid (K6.out.eqd hw)
  clear F6 K6 hw
  go_wp2_with fail
  refine (at_nil _).mono ?_
  rintro e w7' ⟨rfl, d7, hw⟩
  have F8 := Lib.hid (F7.out.eqd hw)
  have K8 := Lib.hid (K7.out.eqd hw)
  clear F7 K7 hw
  go_wp2_with fail
  refine (fleft_nil _).mono ?_
  rintro e w8' ⟨rfl, d8, hw⟩
  have F9 := Lib.hid (F8.out.eqd hw)
  have K9 := Lib.hid (K8.out.eqd hw)
  clear F8 K8 hw
  go_wp2_with fail
  refine (bleft_nil _).mono ?_
  rintro e w9' ⟨rfl, d9, hw⟩
  have F10 := Lib.hid (F9.out.eqd hw)
  have K10 := Lib.hid (K9.out.eqd hw)
  clear F9 K9 hw
  go_wp2_with fail
  refine (peek_nil _ n).mono ?_
  rintro e w10' ⟨rfl, d10, hw⟩
  have F11 := Lib.hid (F10.out.eqd hw)
  have K11 := Lib.hid (K10.out.eqd hw)
  clear F10 K10 hw
  go_wp2_with fail
  refine (zk_skip K11.out n 2 (by simp [chk, hn])).mono ?_
  rintro e w11' ⟨rfl, hr, hg⟩
  have F12 := Lib.hid (F11.out.other SP.out K11.out.ge hg)
  have K12 := Lib.hid hr
  clear F11 K11 hr hg
  go_wp2_with fail
  refine (zk_peek K12.out n).mono ?_
  rintro e w12' ⟨rfl, hb⟩
  have F13 := Lib.hid (F12.out.on hb)
  have K13 := Lib.hid (K12.out.on hb)
  clear F12 K12 hb
  go_wp2_with fail
  refine (at_z F13.out).mono ?_
  rintro e w13' ⟨rfl, d13, hw⟩
  have F14 := Lib.hid (F13.out.eqd hw)
  have K14 := Lib.hid (K13.out.eqd hw)
  clear F13 K13 hw
  go_wp2_with fail
  refine (left_z F14.out).mono ?_
  rintro e w14' ⟨rfl, d14, hw⟩
  have F15 := Lib.hid (F14.out.eqd hw)
  have K15 := Lib.hid (K14.out.eqd hw)
  clear F14 K14 hw
  go_wp2_with fail
  refine (bleft_r K15.out.sp (by decide) 0 rfl).mono ?_
  rintro e w15' ⟨rfl, d15, hw⟩
  have F16 := Lib.hid (F15.out.eqd hw)
  have K16 := Lib.hid (K15.out.eqd hw)
  clear F15 K15 hw
  go_wp2_with fail
  refine (known_any _).mono ?_
  rintro e wk ⟨rfl, hb⟩
  have HB := Lib.hid (below_on F16.out.bel (Nat.le_refl _) hb)
  clear F16 K16 hb
  go_wp2
  go_ret
  exact ⟨rfl, HB.out⟩

set_option maxRecDepth 100000 in
set_option maxHeartbeats 4000000 in
theorem walk_big (n : Int) (w : World) (hn : 64 < n) :
    Calls Try.prog 10 #[.int .i64 n] w fun e w' => e = .returned (.bool true) ∧ Below w.heap.size w w' := by
  have hd : decide (n < 0) = false := decide_eq_false (by omega)
  have hd2 : decide (64 < n) = true := decide_eq_true hn
  have hz : (n == 0) = false := by simp; omega
  have F0' := rr_zero (w0 := w) (w := w) 68 (Below.refl _ _)
  have K0 := Lib.hid (rr_zero (w0 := w) 69 F0'.bel)
  have F0 := Lib.hid (F0'.on ((Below.refl _ _).alloc (Nat.le_refl _) (.cells #[.slice none 0 0, .int .i64 0, .int .i64 0] 69)))
  rw [World.size_alloc] at K0
  have SP : Hid (Sep w.heap.size none (w.heap.size + 1) none) := Lib.hid ⟨by omega, (fun ad e => by cases e), (fun ad e => by cases e)⟩
  clear F0'
  go_enter Try.func10, Try.ntmps10
  go_wp2_with fail
  generalize (w.alloc (.cells #[.slice none 0 0, .int .i64 0, .int .i64 0] 68)).alloc (.cells #[.slice none 0 0, .int .i64 0, .int .i64 0] 69) = w1 at F0 K0 ⊢
  refine (ftake_nil _ n).mono ?_
  rintro e w0' ⟨rfl, d0, hw⟩
  have F1 := Lib.hid (F0.out.eqd hw)
  have K1 := Lib.hid (K0.out.eqd hw)
  clear F0 K0 hw
  go_wp2_with fail
  refine (align_nil _).mono ?_
  rintro e w1' ⟨rfl, d1, hw⟩
  have F2 := Lib.hid (F1.out.eqd hw)
  have K2 := Lib.hid (K1.out.eqd hw)
  clear F1 K1 hw
  go_wp2_with fail
  refine (btake_nil _ n).mono ?_
  rintro e w2' ⟨rfl, d2, hw⟩
  have F3 := Lib.hid (F2.out.eqd hw)
  have K3 := Lib.hid (K2.out.eqd hw)
  clear F2 K2 hw
  go_wp2_with fail
  refine (zf_take F3.out n 2 (by simp [chk, hn])).mono ?_
  rintro e w3' ⟨rfl, hr, hg⟩
  have F4 := Lib.hid hr
  have K4 := Lib.hid (K3.out.other SP.out.symm F3.out.ge hg)
  clear F3 K3 hr hg
  go_wp2_with fail
  refine (zf_align F4.out).mono ?_
  rintro e w4' ⟨rfl, hr, hg⟩
  have F5 := Lib.hid hr
  have K5 := Lib.hid (K4.out.other SP.out.symm F4.out.ge hg)
  clear F4 K4 hr hg
  go_wp2_with fail
  refine (zk_take K5.out n 2 (by simp [chk, hn])).mono ?_
  rintro e w5' ⟨rfl, hr, hg⟩
  have F6 := Lib.hid (F5.out.other SP.out K5.out.ge hg)
  have K6 := Lib.hid hr
  clear F5 K5 hr hg
  go_wp2_with fail
  refine (skip_nil _ n).mono ?_
  rintro e w6' ⟨rfl, d6, hw⟩
  have F7 := Lib.hid (F6.out.eqd hw)
  have K7 := Lib.hid (K6.out.eqd hw)
  clear F6 K6 hw
  go_wp2_with fail
  refine (at_nil _).mono ?_
  rintro e w7' ⟨rfl, d7, hw⟩
  have F8 := Lib.hid (F7.out.eqd hw)
  have K8 := Lib.hid (K7.out.eqd hw)
  clear F7 K7 hw
  go_wp2_with fail
  refine (fleft_nil _).mono ?_
  rintro e w8' ⟨rfl, d8, hw⟩
  have F9 := Lib.hid (F8.out.eqd hw)
  have K9 := Lib.hid (K8.out.eqd hw)
  clear F8 K8 hw
  go_wp2_with fail
  refine (bleft_nil _).mono ?_
  rintro e w9' ⟨rfl, d9, hw⟩
  have F10 := Lib.hid (F9.out.eqd hw)
  have K10 := Lib.hid (K9.out.eqd hw)
  clear F9 K9 hw
  go_wp2_with fail
  refine (peek_nil _ n).mono ?_
  rintro e w10' ⟨rfl, d10, hw⟩
  have F11 := Lib.hid (F10.out.eqd hw)
  have K11 := Lib.hid (K10.out.eqd hw)
  clear F10 K10 hw
  go_wp2_with fail
  refine (zk_skip K11.out n 2 (by simp [chk, hn])).mono ?_
  rintro e w11' ⟨rfl, hr, hg⟩
  have F12 := Lib.hid (F11.out.other SP.out K11.out.ge hg)
  have K12 := Lib.hid hr
  clear F11 K11 hr hg
  go_wp2_with fail
  refine (zk_peek K12.out n).mono ?_
  rintro e w12' ⟨rfl, hb⟩
  have F13 := Lib.hid (F12.out.on hb)
  have K13 := Lib.hid (K12.out.on hb)
  clear F12 K12 hb
  go_wp2_with fail
  refine (at_z F13.out).mono ?_
  rintro e w13' ⟨rfl, d13, hw⟩
  have F14 := Lib.hid (F13.out.eqd hw)
  have K14 := Lib.hid (K13.out.eqd hw)
  clear F13 K13 hw
  go_wp2_with fail
  refine (left_z F14.out).mono ?_
  rintro e w14' ⟨rfl, d14, hw⟩
  have F15 := Lib.hid (F14.out.eqd hw)
  have K15 := Lib.hid (K14.out.eqd hw)
  clear F14 K14 hw
  go_wp2_with fail
  refine (bleft_r K15.out.sp (by decide) 0 rfl).mono ?_
  rintro e w15' ⟨rfl, d15, hw⟩
  have F16 := Lib.hid (F15.out.eqd hw)
  have K16 := Lib.hid (K15.out.eqd hw)
  clear F15 K15 hw
  go_wp2_with fail
  refine (known_any _).mono ?_
  rintro e wk ⟨rfl, hb⟩
  have HB := Lib.hid (below_on F16.out.bel (Nat.le_refl _) hb)
  clear F16 K16 hb
  go_wp2
  go_ret
  exact ⟨rfl, HB.out⟩

set_option maxRecDepth 100000 in
set_option maxHeartbeats 4000000 in
theorem walk_mid (n : Int) (w : World) (hn : 0 < n) (hn2 : n ≤ 64) :
    Calls Try.prog 10 #[.int .i64 n] w fun e w' => e = .returned (.bool true) ∧ Below w.heap.size w w' := by
  have hd : decide (n < 0) = false := decide_eq_false (by omega)
  have hd2 : decide (64 < n) = false := decide_eq_false (by omega)
  have hz : (n == 0) = false := by simp; omega
  have F0' := rr_zero (w0 := w) (w := w) 68 (Below.refl _ _)
  have K0 := Lib.hid (rr_zero (w0 := w) 69 F0'.bel)
  have F0 := Lib.hid (F0'.on ((Below.refl _ _).alloc (Nat.le_refl _) (.cells #[.slice none 0 0, .int .i64 0, .int .i64 0] 69)))
  rw [World.size_alloc] at K0
  have SP : Hid (Sep w.heap.size none (w.heap.size + 1) none) := Lib.hid ⟨by omega, (fun ad e => by cases e), (fun ad e => by cases e)⟩
  clear F0'
  go_enter Try.func10, Try.ntmps10
  go_wp2_with fail
  generalize (w.alloc (.cells #[.slice none 0 0, .int .i64 0, .int .i64 0] 68)).alloc (.cells #[.slice none 0 0, .int .i64 0, .int .i64 0] 69) = w1 at F0 K0 ⊢
  refine (ftake_nil _ n).mono ?_
  rintro e w0' ⟨rfl, d0, hw⟩
  have F1 := Lib.hid (F0.out.eqd hw)
  have K1 := Lib.hid (K0.out.eqd hw)
  clear F0 K0 hw
  go_wp2_with fail
  refine (align_nil _).mono ?_
  rintro e w1' ⟨rfl, d1, hw⟩
  have F2 := Lib.hid (F1.out.eqd hw)
  have K2 := Lib.hid (K1.out.eqd hw)
  clear F1 K1 hw
  go_wp2_with fail
  refine (btake_nil _ n).mono ?_
  rintro e w2' ⟨rfl, d2, hw⟩
  have F3 := Lib.hid (F2.out.eqd hw)
  have K3 := Lib.hid (K2.out.eqd hw)
  clear F2 K2 hw
  go_wp2_with fail
  refine (zf_take F3.out n 3 (by simp [chk]; omega)).mono ?_
  rintro e w3' ⟨rfl, hr, hg⟩
  have F4 := Lib.hid hr
  have K4 := Lib.hid (K3.out.other SP.out.symm F3.out.ge hg)
  clear F3 K3 hr hg
  go_wp2_with fail
  refine (zf_align F4.out).mono ?_
  rintro e w4' ⟨rfl, hr, hg⟩
  have F5 := Lib.hid hr
  have K5 := Lib.hid (K4.out.other SP.out.symm F4.out.ge hg)
  clear F4 K4 hr hg
  go_wp2_with fail
  refine (zk_take K5.out n 14 (by simp [chk]; omega)).mono ?_
  rintro e w5' ⟨rfl, hr, hg⟩
  have F6 := Lib.hid (F5.out.other SP.out K5.out.ge hg)
  have K6 := Lib.hid hr
  clear F5 K5 hr hg
  go_wp2_with fail
  refine (skip_nil _ n).mono ?_
  rintro e w6' ⟨rfl, d6, hw⟩
  have F7 := Lib.hid (F6.out.eqd hw)
  have K7 := Lib.hid (K6.out.eqd hw)
  clear F6 K6 hw
  go_wp2_with fail
  refine (at_nil _).mono ?_
  rintro e w7' ⟨rfl, d7, hw⟩
  have F8 := Lib.hid (F7.out.eqd hw)
  have K8 := Lib.hid (K7.out.eqd hw)
  clear F7 K7 hw
  go_wp2_with fail
  refine (fleft_nil _).mono ?_
  rintro e w8' ⟨rfl, d8, hw⟩
  have F9 := Lib.hid (F8.out.eqd hw)
  have K9 := Lib.hid (K8.out.eqd hw)
  clear F8 K8 hw
  go_wp2_with fail
  refine (bleft_nil _).mono ?_
  rintro e w9' ⟨rfl, d9, hw⟩
  have F10 := Lib.hid (F9.out.eqd hw)
  have K10 := Lib.hid (K9.out.eqd hw)
  clear F9 K9 hw
  go_wp2_with fail
  refine (peek_nil _ n).mono ?_
  rintro e w10' ⟨rfl, d10, hw⟩
  have F11 := Lib.hid (F10.out.eqd hw)
  have K11 := Lib.hid (K10.out.eqd hw)
  clear F10 K10 hw
  go_wp2_with fail
  refine (zk_skip K11.out n 14 (by simp [chk]; omega)).mono ?_
  rintro e w11' ⟨rfl, hr, hg⟩
  have F12 := Lib.hid (F11.out.other SP.out K11.out.ge hg)
  have K12 := Lib.hid hr
  clear F11 K11 hr hg
  go_wp2_with fail
  refine (zk_peek K12.out n).mono ?_
  rintro e w12' ⟨rfl, hb⟩
  have F13 := Lib.hid (F12.out.on hb)
  have K13 := Lib.hid (K12.out.on hb)
  clear F12 K12 hb
  go_wp2_with fail
  refine (at_z F13.out).mono ?_
  rintro e w13' ⟨rfl, d13, hw⟩
  have F14 := Lib.hid (F13.out.eqd hw)
  have K14 := Lib.hid (K13.out.eqd hw)
  clear F13 K13 hw
  go_wp2_with fail
  refine (left_z F14.out).mono ?_
  rintro e w14' ⟨rfl, d14, hw⟩
  have F15 := Lib.hid (F14.out.eqd hw)
  have K15 := Lib.hid (K14.out.eqd hw)
  clear F14 K14 hw
  go_wp2_with fail
  refine (bleft_r K15.out.sp (by decide) 0 rfl).mono ?_
  rintro e w15' ⟨rfl, d15, hw⟩
  have F16 := Lib.hid (F15.out.eqd hw)
  have K16 := Lib.hid (K15.out.eqd hw)
  clear F15 K15 hw
  go_wp2_with fail
  refine (known_any _).mono ?_
  rintro e wk ⟨rfl, hb⟩
  have HB := Lib.hid (below_on F16.out.bel (Nat.le_refl _) hb)
  clear F16 K16 hb
  go_wp2
  go_ret
  exact ⟨rfl, HB.out⟩

set_option maxRecDepth 100000 in
set_option maxHeartbeats 4000000 in
theorem walk_nought (n : Int) (w : World) (_hn : n = 0) :
    Calls Try.prog 10 #[.int .i64 0] w fun e w' => e = .returned (.bool true) ∧ Below w.heap.size w w' := by
  have F0' := rr_zero (w0 := w) (w := w) 68 (Below.refl _ _)
  have K0 := Lib.hid (rr_zero (w0 := w) 69 F0'.bel)
  have F0 := Lib.hid (F0'.on ((Below.refl _ _).alloc (Nat.le_refl _) (.cells #[.slice none 0 0, .int .i64 0, .int .i64 0] 69)))
  rw [World.size_alloc] at K0
  have SP : Hid (Sep w.heap.size none (w.heap.size + 1) none) := Lib.hid ⟨by omega, (fun ad e => by cases e), (fun ad e => by cases e)⟩
  clear F0'
  go_enter Try.func10, Try.ntmps10
  go_wp2_with fail
  generalize (w.alloc (.cells #[.slice none 0 0, .int .i64 0, .int .i64 0] 68)).alloc (.cells #[.slice none 0 0, .int .i64 0, .int .i64 0] 69) = w1 at F0 K0 ⊢
  refine (ftake_nil _ 0).mono ?_
  rintro e w0' ⟨rfl, d0, hw⟩
  have F1 := Lib.hid (F0.out.eqd hw)
  have K1 := Lib.hid (K0.out.eqd hw)
  clear F0 K0 hw
  go_wp2_with fail
  refine (align_nil _).mono ?_
  rintro e w1' ⟨rfl, d1, hw⟩
  have F2 := Lib.hid (F1.out.eqd hw)
  have K2 := Lib.hid (K1.out.eqd hw)
  clear F1 K1 hw
  go_wp2_with fail
  refine (btake_nil _ 0).mono ?_
  rintro e w2' ⟨rfl, d2, hw⟩
  have F3 := Lib.hid (F2.out.eqd hw)
  have K3 := Lib.hid (K2.out.eqd hw)
  clear F2 K2 hw
  go_wp2_with fail
  refine (zf_take F3.out 0 0 (by decide)).mono ?_
  rintro e w3' ⟨rfl, hr, hg⟩
  have F4 := Lib.hid hr
  have K4 := Lib.hid (K3.out.other SP.out.symm F3.out.ge hg)
  clear F3 K3 hr hg
  go_wp2_with fail
  refine (zf_align F4.out).mono ?_
  rintro e w4' ⟨rfl, hr, hg⟩
  have F5 := Lib.hid hr
  have K5 := Lib.hid (K4.out.other SP.out.symm F4.out.ge hg)
  clear F4 K4 hr hg
  go_wp2_with fail
  refine (zk_take K5.out 0 0 (by decide)).mono ?_
  rintro e w5' ⟨rfl, hr, hg⟩
  have F6 := Lib.hid (F5.out.other SP.out K5.out.ge hg)
  have K6 := Lib.hid hr
  clear F5 K5 hr hg
  go_wp2_with fail
  refine (skip_nil _ 0).mono ?_
  rintro e w6' ⟨rfl, d6, hw⟩
  have F7 := Lib.hid (F6.out.eqd hw)
  have K7 := Lib.hid (K6.out.eqd hw)
  clear F6 K6 hw
  go_wp2_with fail
  refine (at_nil _).mono ?_
  rintro e w7' ⟨rfl, d7, hw⟩
  have F8 := Lib.hid (F7.out.eqd hw)
  have K8 := Lib.hid (K7.out.eqd hw)
  clear F7 K7 hw
  go_wp2_with fail
  refine (fleft_nil _).mono ?_
  rintro e w8' ⟨rfl, d8, hw⟩
  have F9 := Lib.hid (F8.out.eqd hw)
  have K9 := Lib.hid (K8.out.eqd hw)
  clear F8 K8 hw
  go_wp2_with fail
  refine (bleft_nil _).mono ?_
  rintro e w9' ⟨rfl, d9, hw⟩
  have F10 := Lib.hid (F9.out.eqd hw)
  have K10 := Lib.hid (K9.out.eqd hw)
  clear F9 K9 hw
  go_wp2_with fail
  refine (peek_nil _ 0).mono ?_
  rintro e w10' ⟨rfl, d10, hw⟩
  have F11 := Lib.hid (F10.out.eqd hw)
  have K11 := Lib.hid (K10.out.eqd hw)
  clear F10 K10 hw
  go_wp2_with fail
  refine (zk_skip K11.out 0 0 (by decide)).mono ?_
  rintro e w11' ⟨rfl, hr, hg⟩
  have F12 := Lib.hid (F11.out.other SP.out K11.out.ge hg)
  have K12 := Lib.hid hr
  clear F11 K11 hr hg
  go_wp2_with fail
  refine (zk_peek K12.out 0).mono ?_
  rintro e w12' ⟨rfl, hb⟩
  have F13 := Lib.hid (F12.out.on hb)
  have K13 := Lib.hid (K12.out.on hb)
  clear F12 K12 hb
  go_wp2_with fail
  refine (at_z F13.out).mono ?_
  rintro e w13' ⟨rfl, d13, hw⟩
  have F14 := Lib.hid (F13.out.eqd hw)
  have K14 := Lib.hid (K13.out.eqd hw)
  clear F13 K13 hw
  go_wp2_with fail
  refine (left_z F14.out).mono ?_
  rintro e w14' ⟨rfl, d14, hw⟩
  have F15 := Lib.hid (F14.out.eqd hw)
  have K15 := Lib.hid (K14.out.eqd hw)
  clear F14 K14 hw
  go_wp2_with fail
  refine (bleft_r K15.out.sp (by decide) 0 rfl).mono ?_
  rintro e w15' ⟨rfl, d15, hw⟩
  have F16 := Lib.hid (F15.out.eqd hw)
  have K16 := Lib.hid (K15.out.eqd hw)
  clear F15 K15 hw
  go_wp2_with fail
  refine (known_any _).mono ?_
  rintro e wk ⟨rfl, hb⟩
  have HB := Lib.hid (below_on F16.out.bel (Nat.le_refl _) hb)
  clear F16 K16 hb
  go_wp2
  go_ret
  exact ⟨rfl, HB.out⟩

theorem walk (n : Int) (w : World) (_wn : (Lit.int .i64 n).wf = true) :
    Calls Try.prog 10 #[.int .i64 n] w fun e w' => e = .returned (.bool true) ∧ Below w.heap.size w w' := by
  by_cases h1 : n < 0
  · exact walk_neg n w h1
  · by_cases h2 : 64 < n
    · exact walk_big n w h2
    · by_cases h3 : n = 0
      · have := walk_nought n w h3
        rw [← h3] at this
        exact this
      · exact walk_mid n w (by omega) (by omega)

set_option maxRecDepth 100000 in
theorem lifted (os : Os) (started : os.Started) (H : Type) (enc : TypeId × Value → H) :
    ReturnsInHanded {} Try.checked os 10 .any (Rows.bitinNilSpec.pre6 enc Try.prog Try.f10 Rows.bitinNilRow.domain false) (Rows.bitinNilSpec.post enc Try.prog Try.f10 false true false false) := by
  refine returnsInHanded_of_change_sized (C := Try.checked) ownB started (by kernel_rfl) Try.func10
    (ChangeSpec.witness6 (enc := enc) (C := Try.checked) false ⟨#[], #[.int .i64 0], []⟩ 8 (by kernel_rfl) (by kernel_rfl) (by kernel_rfl) (by kernel_rfl)) ?_
  intro W base args ds gs before hval0 hW _ hsz0 _
  have hsz : (DataW.weightsEach Try.prog (Try.f10.params.toList ++ Rows.bitinNilSpec.plain.varTypes Try.prog) (ds ++ gs)).all (· ≤ reachBytes) = true := hsz0
  clear hsz0
  have hval : ∀ (j : Nat) t v, Try.f10.params[j]? = some t → args[j]? = some v → Value.okWide Try.prog W .any base t v := hval0
  have hW' := hW
  obtain ⟨p, q, hA0, hV, rfl, hfz, hnd⟩ := hW
  have hA : DataW.TrodAll enc Try.prog W 0 (fun _ => true) true Try.f10.params.toList args.toList ds p := hA0
  rw [Try.params10] at hA hval hsz
  obtain ⟨v0, vs0, d0, ds0, p0, q0, hargs, rfl, rfl, h0, r0⟩ := trodAll_cons hA
  obtain ⟨rfl, rfl, rfl⟩ := trodAll_nil r0
  obtain rfl : args = #[v0] := by cases args; simp_all
  obtain ⟨rfl, rfl⟩ := trodVars_none hV
  obtain ⟨a0, rfl, rfl, rfl, w0⟩ := open_int Try.underlying3 (hval 0 3 v0 rfl rfl) h0
  clear hA0 hval0
  refine (walk a0 W w0).mono fun e W' ⟨he, bel⟩ => ?_
  subst he
  exact ⟨_, rfl, _, _, _, [], _, [], hW', trodAll_mk1 (shut_bool Try.underlying4 _), (trodAll_cons_mk (shut_int Try.underlying3 w0) trodAll_mk0), rfl, bel.frame _, fun h => by cases h⟩

theorem proved : Rows.BitinNilSaid :=
  OpenClaim.holds_of_wide 10 Try.f10 rfl rfl rfl rfl rfl rfl rfl ⟨rfl, rfl, rfl, rfl, rfl⟩ rfl rfl rfl rfl rfl (by kernel_rfl) Try.func10 (by kernel_rfl)
    (of_decide_eq_true (by kernel_rfl)) (by unfold Func.isWrapper; rw [if_neg (by decide +kernel)]; exact ⟨rfl, rfl⟩)
    (fun os started H enc _ => lifted os started H enc)

#print axioms proved

end Go.Proofs.Ytckboifdkagacaa.bitinNil
