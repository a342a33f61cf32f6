/-
  What the methods of Forward do: Take, Align, At, Left. Conditions: fewer than 2^40 bytes.
-/
import Derived.Test.YtckboifdkagacaaSpn
namespace Go.Proofs.Ytckboifdkagacaa
open Go.RowKit

/-- Two results and a world as it was, but for what was drawn. -/
def Err2 (w : World) (k : IntKind) (er : Int) (e : Ending) (w' : World) : Prop := e = .returned (.tuple #[.int k 0, .int .i64 er]) ∧ ∃ d, w' = w.drewN d

set_option maxHeartbeats 400000 in
theorem ftake_nil (w : World) (n : Int) : Calls Try.prog 16 #[.pointer none, .int .i64 n] w (Err2 w .u64 1) := by
  go_enter Try.func16, Try.ntmps16
  go_wp2
  go_ret2
  exact ⟨rfl, 0, rfl⟩

set_option maxHeartbeats 400000 in
theorem align_nil (w : World) : Calls Try.prog 14 #[.pointer none] w (Err2 w .i64 1) := by
  go_enter Try.func14, Try.ntmps14
  go_wp2
  go_ret2
  exact ⟨rfl, 0, rfl⟩

set_option maxHeartbeats 400000 in
theorem at_nil (w : World) : Calls Try.prog 18 #[.pointer none] w fun e w' => e = .returned (.int .i64 0) ∧ ∃ d, w' = w.drewN d := by
  go_enter Try.func18, Try.ntmps18
  go_wp2
  go_ret
  exact ⟨rfl, 0, rfl⟩

set_option maxHeartbeats 400000 in
theorem fleft_nil (w : World) : Calls Try.prog 19 #[.pointer none] w fun e w' => e = .returned (.int .i64 0) ∧ ∃ d, w' = w.drewN d := by
  go_enter Try.func19, Try.ntmps19
  go_wp2
  go_ret
  exact ⟨rfl, 0, rfl⟩

set_option maxHeartbeats 400000 in
theorem at_any {w : World} {x : Nat} {T : TypeId} {A : Option Addr} {c : Nat} {D : List UInt8} {s e : Nat} (h : Sp w x T A c D s e) : Calls Try.prog 18 #[.pointer (some ⟨x, 0, none⟩)] w fun e w' => e = .returned (.int .i64 (s : Int)) ∧ ∃ d, w' = w.drewN d := by
  have c1 := h.cell1
  clear h
  go_enter Try.func18, Try.ntmps18
  go_wp2
  go_ret
  exact ⟨rfl, 0, rfl⟩

set_option maxHeartbeats 400000 in
theorem fleft_any {w : World} {x : Nat} {T : TypeId} {A : Option Addr} {c : Nat} {D : List UInt8} {s e : Nat} (h : Sp w x T A c D s e) (k : Nat) (hk : s + k = e) (he : e ≤ 8796093022208) : Calls Try.prog 19 #[.pointer (some ⟨x, 0, none⟩)] w fun e w' => e = .returned (.int .i64 (k : Int)) ∧ ∃ d, w' = w.drewN d := by
  have CT := Lib.hid (count_any h k hk he)
  clear h hk he
  go_enter Try.func19, Try.ntmps19
  go_wp2_with fail
  refine CT.out.mono ?_
  rintro e w1 ⟨rfl, d, rfl⟩
  go_wp2
  go_ret
  exact ⟨rfl, d, rfl⟩

set_option maxHeartbeats 1000000 in
theorem ftake_err {w : World} {x : Nat} {T : TypeId} {A : Option Addr} {c : Nat} {D : List UInt8} {s e : Nat} (h : Sp w x T A c D s e) (k : Nat) (hk : s + k = e) (he : e ≤ 8796093022208) (n : Int) (r : Int) (hr : chk n k 3 = r) (hr0 : r ≠ 0) :
    Calls Try.prog 16 #[.pointer (some ⟨x, 0, none⟩), .int .i64 n] w (Err2 w .u64 r) := by
  have CK := Lib.hid (check_any h k hk he n 3 r hr)
  have hb : (r != 0) = true := by simpa using hr0
  clear h hk he hr hr0
  go_enter Try.func16, Try.ntmps16
  go_wp2_with fail
  refine CK.out.mono ?_
  rintro e w1 ⟨rfl, d, rfl⟩
  clear CK
  go_wp2
  go_ret2
  exact ⟨rfl, d, rfl⟩

/-- n bits have been read from the front. -/
def FTook (w : World) (x : Nat) (T : TypeId) (A : Option Addr) (c : Nat) (D : List UInt8) (V s e : Nat) (r : Ending) (w' : World) : Prop :=
  r = .returned (.tuple #[.int .u64 (V : Int), .int .i64 0]) ∧ Sp w' x T A c D s e ∧ w.grownBy w' (some x)

theorem below_of_dr {w w2 : World} {d : Nat} (h : Below (w.drewN d).heap.size (w.drewN d) w2) : Below w.heap.size w w2 := ⟨h.os, h.tape, h.output, h.size, h.block⟩

theorem ftook_mk {w w1 : World} {x : Nat} {T : TypeId} {A : Option Addr} {c : Nat} {D : List UInt8} {s e : Nat} (h : Sp w x T A c D s e) (hb : Below w.heap.size w w1) (s' : Nat) (z : Int) (hz : z = (s' : Int)) :
    Sp (w1.setCell ⟨x, 1, none⟩ (.int .i64 z)) x T A c D s' e ∧ w.grownBy (w1.setCell ⟨x, 1, none⟩ (.int .i64 z)) (some x) := by
  subst hz
  exact ⟨(h.below hb).set1 s', grown_trans (grown_of_below hb (some x)) (grown_setCell _ _ _ _)⟩

set_option maxRecDepth 100000 in
set_option maxHeartbeats 2000000 in
theorem ftake_ok {w : World} {x : Nat} {T : TypeId} {A : Option Addr} {c : Nat} {D : List UInt8} {s e : Nat} (h : Sp w x T A c D s e) (he : e ≤ 8 * D.length) (hD : D.length ≤ 1099511627776) (n : Nat) (hn : n ≤ 64) (hs : s + n ≤ e) :
    Calls Try.prog 16 #[.pointer (some ⟨x, 0, none⟩), .int .i64 (n : Int)] w (FTook w x T A c D (cut D s n) (s + n) e) := by
  have CK := Lib.hid (check_any h (e - s) (by omega) (by omega) n 3 0 (by simp [chk]; omega))
  have VL := Lib.hid (fun d => value_any (h.drewN d) s n hn (by omega) hD)
  have H := Lib.hid h
  have c1 := h.cell1
  have hs2 : s + n ≤ 8796093022208 := by omega
  obtain ⟨V, hV⟩ : ∃ V, cut D s n = V := ⟨_, rfl⟩
  simp only [hV] at VL
  rw [hV]
  clear h he hV hs hD
  go_enter Try.func16, Try.ntmps16
  go_wp2_with fail
  refine CK.out.mono ?_
  rintro e w1 ⟨rfl, d, rfl⟩
  clear CK
  go_wp2_with fail
  go_region_law (first
    | (go_simp; go_at_call 35; refine (VL.out _).mono ?_; rintro e w2 ⟨rfl, hb2⟩; have B2 := Lib.hid hb2; have c2 := (H.out.below (below_of_dr hb2)).cell1; have f2 := (H.out.below (below_of_dr hb2)).free 1; clear hb2))
  all_goals go_wp2
  all_goals go_ret2
  all_goals exact ⟨rfl, ftook_mk H.out (below_of_dr B2.out) (s + n) _ (by simp)⟩

end Go.Proofs.Ytckboifdkagacaa
