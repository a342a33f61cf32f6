/-
  What Align does. Condition: fewer than 2^40 bytes.
-/
import Derived.Test.YtckboifdkagacaaFwd
namespace Go.Proofs.Ytckboifdkagacaa
open Go.RowKit

/-- Align has found a bit that is 1. -/
def ABad (w : World) (r : Ending) (w' : World) : Prop := r = .returned (.tuple #[.int .i64 0, .int .i64 14]) ∧ Below w.heap.size w w'
/-- Align has moved to the boundary. -/
def AGood (w : World) (x : Nat) (T : TypeId) (A : Option Addr) (c : Nat) (D : List UInt8) (k e : Nat) (r : Ending) (w' : World) : Prop :=
  r = .returned (.tuple #[.int .i64 (k : Int), .int .i64 0]) ∧ Sp w' x T A c D (8 * k) e ∧ w.grownBy w' (some x)

set_option maxRecDepth 100000 in
set_option maxHeartbeats 2000000 in
theorem align_good {w : World} {x : Nat} {T : TypeId} {A : Option Addr} {c : Nat} {D : List UInt8} {s e : Nat} (h : Sp w x T A c D s e) (hD : D.length ≤ 1099511627776) (k : Nat) (hk : (s + 7) / 8 = k) (hkD : k ≤ D.length) (h0 : cut D s (8 * k - s) = 0) :
    Calls Try.prog 14 #[.pointer (some ⟨x, 0, none⟩)] w (AGood w x T A c D k e) := by
  obtain ⟨m, hm⟩ : ∃ m, 8 * k - s = m := ⟨_, rfl⟩
  have VL := Lib.hid (fun d => value_any (h.drewN d) s m (by omega) (by omega) hD)
  have H := Lib.hid h
  have c1 := h.cell1
  have hs2 : s ≤ 8796093022208 := by omega
  have hk2 : k ≤ 1099511627776 := by omega
  have ek : ((s : Int) + 8 - 1) / 8 = (k : Int) := by omega
  have em : (8 * (k : Int) - (s : Int)) = (m : Int) := by omega
  rw [hm] at h0
  obtain ⟨V, hV⟩ : ∃ V, cut D s m = V := ⟨_, rfl⟩
  simp only [hV] at VL
  rw [hV] at h0
  have ew2 : IntKind.i64.wrap (m : Int) = (m : Int) := IntWalk.i64_in _ (by omega)
  have ew : IntKind.i64.wrap (8 * (k : Int) - (s : Int)) = (m : Int) := by rw [em]; exact ew2
  clear h hV hk hkD hm em
  subst h0
  go_enter Try.func14, Try.ntmps14
  go_wp2_with fail
  go_region_law (first
    | (go_simp; go_at_call 35; refine (VL.out _).mono ?_; rintro e w2 ⟨rfl, hb2⟩; have B2 := Lib.hid hb2; have c2 := (H.out.below (below_of_dr hb2)).cell1; have f2 := (H.out.below (below_of_dr hb2)).free 1; clear hb2))
  all_goals go_wp2
  all_goals go_ret2
  all_goals exact ⟨rfl, ftook_mk H.out (below_of_dr B2.out) (8 * k) _ (by simp)⟩

set_option maxRecDepth 100000 in
set_option maxHeartbeats 2000000 in
theorem align_bad {w : World} {x : Nat} {T : TypeId} {A : Option Addr} {c : Nat} {D : List UInt8} {s e : Nat} (h : Sp w x T A c D s e) (hD : D.length ≤ 1099511627776) (k : Nat) (hk : (s + 7) / 8 = k) (hkD : k ≤ D.length) (h0 : cut D s (8 * k - s) ≠ 0) :
    Calls Try.prog 14 #[.pointer (some ⟨x, 0, none⟩)] w (ABad w) := by
  obtain ⟨m, hm⟩ : ∃ m, 8 * k - s = m := ⟨_, rfl⟩
  have VL := Lib.hid (fun d => value_any (h.drewN d) s m (by omega) (by omega) hD)
  have H := Lib.hid h
  have c1 := h.cell1
  have hs2 : s ≤ 8796093022208 := by omega
  have hk2 : k ≤ 1099511627776 := by omega
  have ek : ((s : Int) + 8 - 1) / 8 = (k : Int) := by omega
  have em : (8 * (k : Int) - (s : Int)) = (m : Int) := by omega
  rw [hm] at h0
  obtain ⟨V, hV⟩ : ∃ V, cut D s m = V := ⟨_, rfl⟩
  simp only [hV] at VL
  rw [hV] at h0
  have ew2 : IntKind.i64.wrap (m : Int) = (m : Int) := IntWalk.i64_in _ (by omega)
  have ew : IntKind.i64.wrap (8 * (k : Int) - (s : Int)) = (m : Int) := by rw [em]; exact ew2
  clear h hV hk hkD hm em
  have hb0 : ((V : Int) != 0) = true := by simpa using h0
  go_enter Try.func14, Try.ntmps14
  go_wp2_with fail
  go_region_law (first
    | (go_simp; go_at_call 35; refine (VL.out _).mono ?_; rintro e w2 ⟨rfl, hb2⟩; have B2 := Lib.hid hb2; clear hb2))
  all_goals go_wp2
  all_goals go_ret2
  all_goals exact ⟨rfl, below_of_dr B2.out⟩

end Go.Proofs.Ytckboifdkagacaa
