/-
  What the methods of Backward do: Skip, Take, Left. Conditions: fewer than 2^40 bytes.
-/
import Derived.Test.YtckboifdkagacaaFwd
namespace Go.Proofs.Ytckboifdkagacaa
open Go.RowKit

set_option maxHeartbeats 400000 in
theorem skip_nil (w : World) (n : Int) : Calls Try.prog 25 #[.pointer none, .int .i64 n] w fun e w' => e = .returned (.int .i64 1) ∧ ∃ d, w' = w.drewN d := by
  go_enter Try.func25, Try.ntmps25
  go_wp2
  go_ret
  exact ⟨rfl, 0, rfl⟩

set_option maxHeartbeats 400000 in
theorem btake_nil (w : World) (n : Int) : Calls Try.prog 26 #[.pointer none, .int .i64 n] w (Err2 w .u64 1) := by
  have SK := Lib.hid (skip_nil w n)
  go_enter Try.func26, Try.ntmps26
  go_wp2_with fail
  refine SK.out.mono ?_
  rintro e w1 ⟨rfl, d, rfl⟩
  go_wp2
  go_ret2
  exact ⟨rfl, d, rfl⟩

set_option maxHeartbeats 400000 in
theorem bleft_nil (w : World) : Calls Try.prog 27 #[.pointer none] w fun e w' => e = .returned (.int .i64 0) ∧ ∃ d, w' = w.drewN d := by
  go_enter Try.func27, Try.ntmps27
  go_wp2
  go_ret
  exact ⟨rfl, 0, rfl⟩

set_option maxHeartbeats 400000 in
theorem bleft_any {w : World} {x : Nat} {T : TypeId} {A : Option Addr} {c : Nat} {D : List UInt8} {e : Nat} (h : Sp w x T A c D 0 e) (he : e ≤ 8796093022208) : Calls Try.prog 27 #[.pointer (some ⟨x, 0, none⟩)] w fun r w' => r = .returned (.int .i64 (e : Int)) ∧ ∃ d, w' = w.drewN d := by
  have CT := Lib.hid (count_any h e (by omega) he)
  clear h he
  go_enter Try.func27, Try.ntmps27
  go_wp2_with fail
  refine CT.out.mono ?_
  rintro e w1 ⟨rfl, d, rfl⟩
  go_wp2
  go_ret
  exact ⟨rfl, d, rfl⟩

set_option maxHeartbeats 1000000 in
theorem skip_err {w : World} {x : Nat} {T : TypeId} {A : Option Addr} {c : Nat} {D : List UInt8} {e : Nat} (h : Sp w x T A c D 0 e) (he : e ≤ 8796093022208) (n : Int) (r : Int) (hr : chk n e 14 = r) (hr0 : r ≠ 0) :
    Calls Try.prog 25 #[.pointer (some ⟨x, 0, none⟩), .int .i64 n] w fun q w' => q = .returned (.int .i64 r) ∧ ∃ d, w' = w.drewN d := by
  have CK := Lib.hid (check_any h e (by omega) he n 14 r hr)
  have hb : (r != 0) = true := by simpa using hr0
  clear h he hr hr0
  go_enter Try.func25, Try.ntmps25
  go_wp2_with fail
  refine CK.out.mono ?_
  rintro e w1 ⟨rfl, d, rfl⟩
  clear CK
  go_wp2
  go_ret
  exact ⟨rfl, d, rfl⟩

set_option maxHeartbeats 1000000 in
theorem btake_err {w : World} {x : Nat} {T : TypeId} {A : Option Addr} {c : Nat} {D : List UInt8} {e : Nat} (h : Sp w x T A c D 0 e) (he : e ≤ 8796093022208) (n : Int) (r : Int) (hr : chk n e 14 = r) (hr0 : r ≠ 0) :
    Calls Try.prog 26 #[.pointer (some ⟨x, 0, none⟩), .int .i64 n] w (Err2 w .u64 r) := by
  have SK := Lib.hid (skip_err h he n r hr hr0)
  have hb : (r != 0) = true := by simpa using hr0
  clear h he hr hr0
  go_enter Try.func26, Try.ntmps26
  go_wp2_with fail
  refine SK.out.mono ?_
  rintro e w1 ⟨rfl, d, rfl⟩
  clear SK
  go_wp2
  go_ret2
  exact ⟨rfl, d, rfl⟩

/-- n bits have been dropped from the back. -/
def Skipped (w : World) (x : Nat) (T : TypeId) (A : Option Addr) (c : Nat) (D : List UInt8) (e : Nat) (r : Ending) (w' : World) : Prop :=
  r = .returned (.int .i64 0) ∧ Sp w' x T A c D 0 e ∧ w.grownBy w' (some x)

theorem skipped_mk {w : World} {x : Nat} {T : TypeId} {A : Option Addr} {c : Nat} {D : List UInt8} {e : Nat} (h : Sp w x T A c D 0 e) (d : Nat) (e' : Nat) (z : Int) (hz : z = (e' : Int)) :
    Sp ((w.drewN d).setCell ⟨x, 2, none⟩ (.int .i64 z)) x T A c D 0 e' ∧ w.grownBy ((w.drewN d).setCell ⟨x, 2, none⟩ (.int .i64 z)) (some x) := by
  subst hz
  exact ⟨(h.drewN d).set2 e', grown_trans (grown_drewN (World.grownBy.refl w (some x)) d) (grown_setCell _ _ _ _)⟩

set_option maxHeartbeats 1000000 in
theorem skip_ok {w : World} {x : Nat} {T : TypeId} {A : Option Addr} {c : Nat} {D : List UInt8} {e : Nat} (h : Sp w x T A c D 0 e) (he : e ≤ 8796093022208) (n : Nat) (hn : n ≤ 64) (hne : n ≤ e) :
    Calls Try.prog 25 #[.pointer (some ⟨x, 0, none⟩), .int .i64 (n : Int)] w (Skipped w x T A c D (e - n)) := by
  have CK := Lib.hid (check_any h e (by omega) he n 14 0 (by simp [chk]; omega))
  have H := Lib.hid h
  have c2 := h.cell2
  have f2 := h.free 2
  obtain ⟨f, hf⟩ : ∃ f, e - n = f := ⟨_, rfl⟩
  have ef : (e : Int) - (n : Int) = (f : Int) := by omega
  have HF := Lib.hid ef
  rw [hf]
  clear h hf ef
  go_enter Try.func25, Try.ntmps25
  go_wp2_with fail
  refine CK.out.mono ?_
  rintro e w1 ⟨rfl, d, rfl⟩
  clear CK
  go_wp2
  go_ret
  exact ⟨rfl, skipped_mk H.out d f _ HF.out⟩

/-- n bits have been read from the back. -/
def BTook (w : World) (x : Nat) (T : TypeId) (A : Option Addr) (c : Nat) (D : List UInt8) (V e : Nat) (r : Ending) (w' : World) : Prop :=
  r = .returned (.tuple #[.int .u64 (V : Int), .int .i64 0]) ∧ Sp w' x T A c D 0 e ∧ w.grownBy w' (some x)

set_option maxRecDepth 100000 in
set_option maxHeartbeats 2000000 in
theorem btake_ok {w : World} {x : Nat} {T : TypeId} {A : Option Addr} {c : Nat} {D : List UInt8} {e : Nat} (h : Sp w x T A c D 0 e) (he : e ≤ 8 * D.length) (hD : D.length ≤ 1099511627776) (n : Nat) (hn : n ≤ 64) (hne : n ≤ e) :
    Calls Try.prog 26 #[.pointer (some ⟨x, 0, none⟩), .int .i64 (n : Int)] w (BTook w x T A c D (cut D (e - n) n) (e - n)) := by
  have SK := Lib.hid (skip_ok h (by omega) n hn hne)
  obtain ⟨f, hf⟩ : ∃ f, e - n = f := ⟨_, rfl⟩
  have VL := Lib.hid (fun (W : World) (d : Nat) (hs : Sp W x T A c D 0 f) => value_any (hs.drewN d) f n hn (by omega) hD)
  obtain ⟨V, hV⟩ : ∃ V, cut D f n = V := ⟨_, rfl⟩
  rw [hf] at SK ⊢
  simp only [hV] at VL
  rw [hV]
  clear h he hV hf hD hne
  go_enter Try.func26, Try.ntmps26
  go_wp2_with fail
  refine SK.out.mono ?_
  rintro e w1 ⟨rfl, hs1, hg1⟩
  have S1 := Lib.hid hs1
  have G1 := Lib.hid hg1
  have c1 := hs1.cell2
  clear SK hs1 hg1
  go_wp2_with fail
  go_region_law (first
    | (go_simp; go_at_call 35; refine (VL.out _ _ S1.out).mono ?_; rintro e w2 ⟨rfl, hb2⟩; have B2 := Lib.hid hb2; clear hb2))
  all_goals go_wp2
  all_goals go_ret2
  all_goals exact ⟨rfl, S1.out.below (below_of_dr B2.out), grown_trans G1.out (grown_of_below (below_of_dr B2.out) (some x))⟩

end Go.Proofs.Ytckboifdkagacaa
