/-
  What count and check of the readers' span do. Conditions: the positions are in their order, below 2^43.
-/
import Derived.Test.YtckboifdkagacaaVal
namespace Go.Proofs.Ytckboifdkagacaa
open Go.RowKit

set_option maxHeartbeats 400000 in
theorem count_any {w : World} {x : Nat} {T : TypeId} {A : Option Addr} {c : Nat} {D : List UInt8} {s e : Nat} (h : Sp w x T A c D s e) (k : Nat) (hk : s + k = e) (he : e ≤ 8796093022208) :
    Calls Try.prog 38 #[.pointer (some ⟨x, 0, none⟩)] w fun r w' => r = .returned (.int .i64 (k : Int)) ∧ ∃ d, w' = w.drewN d := by
  have c1 := h.cell1
  have c2 := h.cell2
  have hK : Hid ((e : Int) - (s : Int) = (k : Int)) := Lib.hid (by omega)
  have hb : s ≤ 8796093022208 := by omega
  clear h hk
  go_enter Try.func38, Try.ntmps38
  go_wp2
  go_quiet (fail)
  go_wp2
  go_ret
  exact ⟨by rw [← hK.out]; rfl, _, rfl⟩

/-- What check answers. -/
def chk (n : Int) (k : Nat) (short : Int) : Int := if n < 0 ∨ 64 < n then 2 else if (k : Int) < n then short else 0

set_option maxHeartbeats 1000000 in
theorem check_any {w : World} {x : Nat} {T : TypeId} {A : Option Addr} {c : Nat} {D : List UInt8} {s e : Nat} (h : Sp w x T A c D s e) (k : Nat) (hk : s + k = e) (he : e ≤ 8796093022208) (n short : Int) (r : Int) (hr : chk n k short = r) :
    Calls Try.prog 36 #[.pointer (some ⟨x, 0, none⟩), .int .i64 n, .int .i64 short] w fun e w' => e = .returned (.int .i64 r) ∧ ∃ d, w' = w.drewN d := by
  subst hr
  have CT := Lib.hid (count_any h k hk he)
  clear h hk he
  by_cases h1 : n < 0
  · rw [show chk n k short = 2 by simp [chk, h1]]
    have hd : decide (n < 0) = true := decide_eq_true h1
    go_enter Try.func36, Try.ntmps36
    go_wp2
    go_ret
    exact ⟨rfl, 0, rfl⟩
  · by_cases h2 : 64 < n
    · rw [show chk n k short = 2 by simp [chk, h2]]
      have hd : decide (n < 0) = false := decide_eq_false h1
      have hd2 : decide (64 < n) = true := decide_eq_true h2
      go_enter Try.func36, Try.ntmps36
      go_wp2
      go_ret
      exact ⟨rfl, 0, rfl⟩
    · have hd : decide (n < 0) = false := decide_eq_false h1
      have hd2 : decide (64 < n) = false := decide_eq_false h2
      by_cases h3 : (k : Int) < n
      · rw [show chk n k short = short by simp [chk, h1, h2, h3]]
        go_enter Try.func36, Try.ntmps36
        go_wp2_with fail
        refine CT.out.mono ?_
        rintro e w1 ⟨rfl, d, rfl⟩
        go_wp2
        go_ret
        exact ⟨rfl, d, rfl⟩
      · rw [show chk n k short = 0 by simp [chk, h1, h2, h3]]
        go_enter Try.func36, Try.ntmps36
        go_wp2_with fail
        refine CT.out.mono ?_
        rintro e w1 ⟨rfl, d, rfl⟩
        go_wp2
        go_ret
        exact ⟨rfl, d, rfl⟩

end Go.Proofs.Ytckboifdkagacaa
