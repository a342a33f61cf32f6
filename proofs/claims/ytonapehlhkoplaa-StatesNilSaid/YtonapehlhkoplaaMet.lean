/-
  What none, check, own, place and Log of package states do. Nothing has changed. Conditions: those that each theorem states.
-/
import Derived.Test.YtonapehlhkoplaaStb
namespace Go.Proofs.Ytonapehlhkoplaa
open Go.RowKit Go.Shelf

set_option maxRecDepth 100000 in
set_option maxHeartbeats 1000000 in
theorem none_nil (w : World) : Calls Try.prog 46 #[.pointer none] w fun e w' => e = .returned (.bool true) ∧ w' = w := by
  go_enter Try.func46, Try.ntmps46
  go_wp2
  go_ret
  exact ⟨rfl, rfl⟩
set_option maxRecDepth 100000 in
set_option maxHeartbeats 1000000 in
theorem none_any (w : World) {b : Nat} {y : Int} {A A' : Option Addr} {n c n' c' : Nat} (h : Cb w b y A n c A' n' c') : Calls Try.prog 46 #[.pointer (some ⟨b, 0, none⟩)] w fun e w' => e = .returned (.bool (decide (n = 0))) ∧ w' = w := by
  have c1 := h.c1
  obtain ⟨R, hR⟩ : ∃ R, decide (n = 0) = R := ⟨_, rfl⟩
  have e1 : ((n : Int) == 0) = R := by
    rw [← hR]
    by_cases h0 : n = 0
    · subst h0; rfl
    · rw [decide_eq_false h0]; simp; omega
  rw [hR]
  clear h hR
  go_enter Try.func46, Try.ntmps46
  go_wp2
  go_ret
  exact ⟨rfl, rfl⟩

set_option maxRecDepth 100000 in
set_option maxHeartbeats 1000000 in
theorem log_any (w : World) {b : Nat} {y : Int} {A A' : Option Addr} {n c n' c' : Nat} (h : Cb w b y A n c A' n' c') : Calls Try.prog 14 #[.pointer (some ⟨b, 0, none⟩)] w fun e w' => e = .returned (.int .i64 y) ∧ w' = w := by
  have c0 := h.c0
  clear h
  go_enter Try.func14, Try.ntmps14
  go_wp2
  go_ret
  exact ⟨rfl, rfl⟩
set_option maxRecDepth 100000 in
set_option maxHeartbeats 1000000 in
theorem log_nil (w : World) : Calls Try.prog 14 #[.pointer none] w fun e w' => e = .returned (.int .i64 0) ∧ w' = w := by
  go_enter Try.func14, Try.ntmps14
  go_wp2
  go_ret
  exact ⟨rfl, rfl⟩

/-- A receiver without a table. -/
def Nn (w : World) (p : Value) : Prop := p = .pointer none ∨ ∃ b, p = .pointer (some ⟨b, 0, none⟩) ∧ Cb w b 0 none 0 0 none 0 0
theorem Nn.below {w w' : World} {p : Value} (h : Nn w p) (hb : Below w.heap.size w w') : Nn w' p := by
  rcases h with h | ⟨b, h, hc⟩
  · exact .inl h
  · exact .inr ⟨b, h, hc.below hb⟩
theorem none_nn (w : World) {p : Value} (h : Nn w p) : Calls Try.prog 46 #[p] w fun e w' => e = .returned (.bool true) ∧ w' = w := by
  rcases h with rfl | ⟨b, rfl, hc⟩
  · exact none_nil w
  · exact none_any w hc
theorem log_nn (w : World) {p : Value} (h : Nn w p) : Calls Try.prog 14 #[p] w fun e w' => e = .returned (.int .i64 0) ∧ w' = w := by
  rcases h with rfl | ⟨b, rfl, hc⟩
  · exact log_nil w
  · exact log_any w hc

set_option maxRecDepth 100000 in
set_option maxHeartbeats 1000000 in
theorem check_nn (w : World) {p : Value} (h : Nn w p) (z : Int) : Calls Try.prog 34 #[p, .int .i64 z] w fun e w' => e = .returned (.int .i64 1) ∧ w' = w := by
  have NO := Lib.hid (none_nn w h)
  clear h
  go_enter Try.func34, Try.ntmps34
  go_wp2_with (go_at_call 46; refine NO.out.mono ?_; rintro e w' ⟨rfl, rfl⟩)
  go_ret
  exact ⟨rfl, rfl⟩
set_option maxRecDepth 100000 in
set_option maxHeartbeats 1000000 in
theorem own_nn (w : World) {p : Value} (h : Nn w p) (z : Int) : Calls Try.prog 35 #[p, .int .i64 z] w fun e w' => e = .returned (.tuple #[.slice none 0 0, .int .i64 1]) ∧ w' = w := by
  have NO := Lib.hid (none_nn w h)
  clear h
  go_enter Try.func35, Try.ntmps35
  go_wp2_with (go_at_call 46; refine NO.out.mono ?_; rintro e w' ⟨rfl, rfl⟩)
  go_ret2
  exact ⟨rfl, rfl⟩

set_option maxRecDepth 100000 in
set_option maxHeartbeats 1000000 in
theorem chk_any (w : World) {b : Nat} {y : Int} {A A' : Option Addr} {n c n' c' : Nat} (h : Cb w b y A n c A' n' c') (h0 : n ≠ 0) (z : Int) : Calls Try.prog 34 #[.pointer (some ⟨b, 0, none⟩), .int .i64 z] w fun e w' => e = .returned (.int .i64 (if z < 0 ∨ (n : Int) ≤ z then 21 else 0)) ∧ w' = w := by
  have NO := none_any w h
  rw [decide_eq_false h0] at NO
  have NO := Lib.hid NO
  have c1 := h.c1
  clear h
  by_cases h1 : z < 0
  · have k1 : decide (z < 0) = true := decide_eq_true h1
    rw [if_pos (.inl h1)]
    go_enter Try.func34, Try.ntmps34
    go_wp2_with (go_at_call 46; refine NO.out.mono ?_; rintro e w' ⟨rfl, rfl⟩)
    go_ret
    exact ⟨rfl, rfl⟩
  · have k1 : decide (z < 0) = false := decide_eq_false h1
    by_cases h2 : (n : Int) ≤ z
    · have k2 : decide ((n : Int) ≤ z) = true := decide_eq_true h2
      rw [if_pos (.inr h2)]
      go_enter Try.func34, Try.ntmps34
      go_wp2_with (go_at_call 46; refine NO.out.mono ?_; rintro e w' ⟨rfl, rfl⟩)
      go_ret
      exact ⟨rfl, rfl⟩
    · have k2 : decide ((n : Int) ≤ z) = false := decide_eq_false h2
      rw [if_neg (by omega)]
      go_enter Try.func34, Try.ntmps34
      go_wp2_with (go_at_call 46; refine NO.out.mono ?_; rintro e w' ⟨rfl, rfl⟩)
      go_ret
      exact ⟨rfl, rfl⟩

/-- The length of a symbol's row. -/
theorem row_len {y s : Nat} {l : List Int} (hv : Vt y l) (hse : 2 ^ y = s) (x : Nat) : (pls 0 (spl s l) (x : Int)).length = nos l x := by
  rw [pls_count, ← hse, hv.nos]
set_option maxRecDepth 100000 in
set_option maxHeartbeats 1000000 in
theorem own_bad (w : World) {B b gc go y s N : Nat} {l : List Int} {V : Nat → Value} (h : Cd w B b gc go y s N l V) (hN : l.length = N) (hv : Vt y l) (hse : 2 ^ y = s) (z : Int) (hz : z < 0 ∨ nos l z.toNat = 0) : Calls Try.prog 35 #[.pointer (some ⟨b, 0, none⟩), .int .i64 z] w fun e w' => e = .returned (.tuple #[.slice none 0 0, .int .i64 2]) ∧ w' = w := by
  have hs1 : 1 ≤ s := by rw [← hse]; exact Nat.one_le_two_pow
  have hN2 : N ≤ 256 := by rw [← hN]; exact hv.len
  have NO := none_any w h.blk
  rw [decide_eq_false (by omega)] at NO
  have NO := Lib.hid NO
  have c2 := h.blk.c2
  by_cases h1 : z < 0
  · have k1 : decide (z < 0) = true := decide_eq_true h1
    clear h hv hse hz
    go_enter Try.func35, Try.ntmps35
    go_wp2_with (go_at_call 46; refine NO.out.mono ?_; rintro e w' ⟨rfl, rfl⟩)
    go_ret2
    exact ⟨rfl, rfl⟩
  · have k1 : decide (z < 0) = false := decide_eq_false h1
    by_cases h2 : (N : Int) ≤ z
    · have k2 : decide ((N : Int) ≤ z) = true := decide_eq_true h2
      clear h hv hse hz
      go_enter Try.func35, Try.ntmps35
      go_wp2_with (go_at_call 46; refine NO.out.mono ?_; rintro e w' ⟨rfl, rfl⟩)
      go_ret2
      exact ⟨rfl, rfl⟩
    · obtain ⟨x, rfl⟩ : ∃ x : Nat, z = (x : Int) := ⟨z.toNat, by omega⟩
      have hx : x < N := by omega
      have hn0 : nos l x = 0 := by
        rcases hz with hz | hz
        · omega
        · rwa [Int.toNat_natCast] at hz
      obtain ⟨A', c', hV, _⟩ := own_form (h.ows.list x hx)
      have cv := h.ows.cell hx
      rw [hV, row_len hv hse, hn0] at cv
      have k2 : decide ((N : Int) ≤ (x : Int)) = false := decide_eq_false h2
      have k3 : ¬ N ≤ x := by omega
      have wx : IntKind.i64.wrap (x : Int) = (x : Int) := IntWalk.i64_in _ (by omega)
      clear h hv hse hz hV
      go_enter Try.func35, Try.ntmps35
      go_wp2_with (go_at_call 46; refine NO.out.mono ?_; rintro e w' ⟨rfl, rfl⟩)
      go_ret2
      exact ⟨rfl, rfl⟩
set_option maxRecDepth 100000 in
set_option maxHeartbeats 1000000 in
theorem own_ok (w : World) {B b gc go y s N n : Nat} {l : List Int} {V : Nat → Value} (h : Cd w B b gc go y s N l V) (hN : l.length = N) (hv : Vt y l) (hse : 2 ^ y = s) (x : Nat) (hz : nos l x = n) (hn : 1 ≤ n) : Calls Try.prog 35 #[.pointer (some ⟨b, 0, none⟩), .int .i64 (x : Int)] w fun e w' => ∃ ad c, e = .returned (.tuple #[.slice (some ad) n c, .int .i64 0]) ∧ Rn w (some ad) (pls 0 (spl s l) (x : Int)) ∧ w' = w := by
  have hs1 : 1 ≤ s := by rw [← hse]; exact Nat.one_le_two_pow
  have hN2 : N ≤ 256 := by rw [← hN]; exact hv.len
  have NO := none_any w h.blk
  rw [decide_eq_false (by omega)] at NO
  have NO := Lib.hid NO
  have c2 := h.blk.c2
  have hx : x < N := by
    rcases Nat.lt_or_ge x N with h1 | h1
    · exact h1
    · unfold nos at hz
      rw [List.getElem?_eq_none (by omega)] at hz
      simp only at hz
      omega
  have ho := h.ows.list x hx
  obtain ⟨A', c', hV, _⟩ := own_form ho
  have cv := h.ows.cell hx
  rw [row_len hv hse, hz] at hV ho
  rw [hV] at cv ho
  have hR := rn_own ho
  obtain ⟨ad, rfl⟩ : ∃ ad, A' = some ad := by
    refine hR.some_of (fun e => ?_)
    have := congrArg List.length e
    rw [List.length_map, row_len hv hse, hz, List.length_nil] at this
    omega
  have HR := Lib.hid hR
  have k1 : decide ((x : Int) < 0) = false := decide_eq_false (by omega)
  have k2 : decide ((N : Int) ≤ (x : Int)) = false := decide_eq_false (by omega)
  have k3 : ¬ N ≤ x := by omega
  have k4 : ((n : Int) == 0) = false := by simp; omega
  have wx : IntKind.i64.wrap (x : Int) = (x : Int) := IntWalk.i64_in _ (by omega)
  clear h hv hse hz hV ho hR
  go_enter Try.func35, Try.ntmps35
  go_wp2_with (go_at_call 46; refine NO.out.mono ?_; rintro e w' ⟨rfl, rfl⟩)
  go_ret2
  exact ⟨ad, c', rfl, HR.out, rfl⟩

set_option maxRecDepth 100000 in
set_option maxHeartbeats 1000000 in
theorem place_ok (w : World) (x n : Nat) (h1 : 1 ≤ n) (hx : n ≤ x) (h2 : x ≤ 2000) : Calls Try.prog 36 #[.int .i64 (x : Int), .int .i64 (n : Int)] w fun e w' => ∃ X, e = .returned (.int .i64 ((X - n : Nat) : Int)) ∧ (∃ j, x / 2 ^ j = X) ∧ n ≤ X ∧ X < 2 * n ∧ w' = w := by
  go_enter Try.func36, Try.ntmps36
  go_wp2
  go_loop [0] (fun p => ∃ X j : Nat, p = .int .i64 (X : Int) ∧ Hid (x / 2 ^ j = X) ∧ n ≤ X ∧ X ≤ 2000) (fun p => (intOf p).toNat)
  case atStart => exact ⟨x, 0, rfl, Lib.hid (by simp), hx, h2⟩
  case round =>
    obtain ⟨X, j, rfl, HX, hl, hu⟩ := hrel
    by_cases hlt : 2 * n ≤ X
    · have k1 : decide (2 * (n : Int) ≤ (X : Int)) = true := decide_eq_true (by omega)
      have HN : Hid (x / 2 ^ (j + 1) = X / 2) := Lib.hid (by rw [Nat.pow_succ, ← Nat.div_div_eq_div_mul, HX.out])
      go_wp2
      exact ⟨⟨X / 2, j + 1, by simp, HN, by omega, by omega⟩, by simp [intOf]; omega⟩
    · have k1 : decide (2 * (n : Int) ≤ (X : Int)) = false := decide_eq_false (by omega)
      have e1 : (X : Int) - (n : Int) = ((X - n : Nat) : Int) := by omega
      go_wp2
      go_ret
      exact ⟨X, rfl, ⟨j, HX.out⟩, hl, by omega, rfl⟩

end Go.Proofs.Ytonapehlhkoplaa
