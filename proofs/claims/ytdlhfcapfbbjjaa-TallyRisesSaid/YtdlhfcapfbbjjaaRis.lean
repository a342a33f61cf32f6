/-
  What the reference's Rising returns at counts that are not valid: no slice; nothing has changed.
-/
import Derived.Test.YtdlhfcapfbbjjaaRrt
import Derived.Test.YtdlhfcapfbbjjaaIac
namespace Go.Proofs.Ytdlhfcapfbbjjaa
open Go.RowKit

set_option maxRecDepth 100000 in
set_option maxHeartbeats 2000000 in
theorem rising_no (w : World) (A : Option Addr) (l : List Int) (N c : Nat) (hN : l.length = N) (hR : Ri w A l) (hok : ok l = false) :
    Calls Try.prog 34 #[.slice A N c] w fun e w' => e = .returned (.slice none 0 0) ∧ w' = w := by
  have HR := Lib.hid (right_any w A l N c hN hR)
  rw [hok] at HR
  clear hN hR
  go_enter Try.func34, Try.ntmps34
  go_wp2_with (go_at_call 18; (with_reducible refine HR.out.mono ?_); rintro e w' ⟨rfl, rfl⟩)
  go_ret
  exact ⟨rfl, rfl⟩
end Go.Proofs.Ytdlhfcapfbbjjaa
