/-
  What the reference's Bytes does: it returns the n bytes at an offset (not copied), the next offset and no error, or the error. Conditions: the offset lies within the bytes; at most 2^47 bytes.
-/
import Derived.Test.YtnbohkiimbooaaaAsk
namespace Go.Proofs.Ytnbohkiimbooaaa
open Go.RowKit Go.Shelf

/-- n bytes are returned, not copied. -/
def RBPost (w : World) (l : List UInt8) (k m : Nat) (e : Ending) (w' : World) : Prop :=
  ∃ A' c', e = .returned (.tuple #[.slice A' m c', .int .i64 ((k + m : Nat) : Int), .int .i64 0]) ∧ w = w' ∧ Rd w A' ((l.drop k).take m)

section
variable {w : World} {A : Option Addr} {cap : Nat} {l : List UInt8} {N k : Nat}

set_option maxHeartbeats 400000 in
theorem refBytes_neg (n : Int) (hn : n < 0) : Calls Try.prog 33 #[.slice A N cap, .int .i64 (k : Int), .int .i64 n] w fun e w' => e = .returned (.tuple #[.slice none 0 0, .int .i64 (k : Int), .int .i64 2]) ∧ w = w' := by
  have hd : decide (n < 0) = true := decide_eq_true hn
  go_enter Try.func33, Try.ntmps33
  go_wp2
  go_ret3
  exact ⟨rfl, rfl⟩

set_option maxHeartbeats 400000 in
theorem refBytes_short (n : Int) (h0 : 0 ≤ n) (hk : k ≤ N) (hs : N ≤ 140737488351232) (hn : (N : Int) - (k : Int) < n) : Calls Try.prog 33 #[.slice A N cap, .int .i64 (k : Int), .int .i64 n] w fun e w' => e = .returned (.tuple #[.slice none 0 0, .int .i64 (k : Int), .int .i64 3]) ∧ w = w' := by
  have hd : decide (n < 0) = false := decide_eq_false (by omega)
  have hd2 : decide ((N : Int) - (k : Int) < n) = true := decide_eq_true hn
  go_enter Try.func33, Try.ntmps33
  go_wp2
  go_ret3
  exact ⟨rfl, rfl⟩

set_option maxHeartbeats 400000 in
theorem refBytes_ok (m : Nat) (hN : l.length = N) (hR : Rd w A l) (hm : k + m ≤ N) (hs : N ≤ 140737488351232) (hc : N ≤ cap) : Calls Try.prog 33 #[.slice A N cap, .int .i64 (k : Int), .int .i64 (m : Int)] w (RBPost w l k m) := by
  have HR := Lib.hid hR
  have HN := Lib.hid hN
  clear hR hN
  go_enter Try.func33, Try.ntmps33
  go_wp2
  · go_ret3
    have h0 : m = 0 := by omega
    subst h0
    exact ⟨A, _, rfl, rfl, by rw [List.take_zero]; exact Rd.nil _ A⟩
  · go_ret3
    exact ⟨A.map (·.add k), _, rfl, rfl, HR.out.cut k m⟩

end

end Go.Proofs.Ytnbohkiimbooaaa
