/-
  What the reference's Get does: the varint at an offset, the next offset and no error, or the error. Conditions: the offset lies within the bytes; at most 2^47 bytes.
-/
import Derived.Test.YtnbohkiimbooaaaRfW
import Derived.Test.YtnbohkiimbooaaaVi3
namespace Go.Proofs.Ytnbohkiimbooaaa
open Go.RowKit Go.Shelf
set_option linter.unusedVariables false

theorem lv_drop (s : List UInt8) (j : Nat) (b : UInt8) (h : s[j]? = some b) : lv (s.drop j) = b.toNat % 128 + 128 * lv (s.drop (j + 1)) := by
  obtain ⟨hj, e⟩ := List.getElem?_eq_some_iff.1 h
  rw [List.drop_eq_getElem_cons hj, lv, e]

/-- The bytes with the high bit at the head of s, f at most. -/
theorem hi_split (f : Nat) : ∀ s : List UInt8, ∃ p t, s = p ++ t ∧ Hi p ∧ p.length ≤ f ∧ (p.length = f ∨ t = [] ∨ ∃ b t', t = b :: t' ∧ b.toNat < 128) := by
  induction f with
  | zero => intro s; exact ⟨[], s, rfl, fun x hx => by simp at hx, Nat.le_refl _, .inl rfl⟩
  | succ f ih =>
    intro s
    cases s with
    | nil => exact ⟨[], [], rfl, fun x hx => by simp at hx, Nat.zero_le _, .inr (.inl rfl)⟩
    | cons a s =>
      by_cases ha : a.toNat < 128
      · exact ⟨[], a :: s, rfl, fun x hx => by simp at hx, Nat.zero_le _, .inr (.inr ⟨a, s, rfl, ha⟩)⟩
      · obtain ⟨p, t, rfl, hp, hl, hc⟩ := ih s
        refine ⟨a :: p, t, rfl, ?_, by simp; omega, ?_⟩
        · intro x hx
          rcases List.mem_cons.1 hx with rfl | hx
          · omega
          · exact hp x hx
        · rcases hc with h | h | h
          · exact .inl (by simp; omega)
          · exact .inr (.inl h)
          · exact .inr (.inr h)

section
variable {w : World} {A : Option Addr} {cap : Nat} {N k n : Nat}

/-- From k on lie n bytes with the high bit. -/
def HiAt (w : World) (A : Option Addr) (k n : Nat) : Prop := ∀ j, j < n → ∃ b : UInt8, 128 ≤ b.toNat ∧ ∃ ad, A = some ad ∧ w.cell? (ad.add (k + j)) = some (byt b)

set_option maxRecDepth 100000 in
set_option maxHeartbeats 1000000 in
theorem get_9 (hs : N ≤ 140737488351232) (hn : k + 9 ≤ N) (hH : HiAt w A k 9) : Calls Try.prog 48 #[.slice A N cap, .int .i64 (k : Int)] w (Ret3 w (.int .u64 0) (.int .i64 (k : Int)) (.int .i64 18)) := by
  have HH := Lib.hid hH
  clear hH
  go_enter Try.func48, Try.ntmps48
  go_wp2_with fail
  go_loopw [7] (fun i wr => (∃ j : Nat, j ≤ 9 ∧ i = .int .i64 (j : Int)) ∧ w = wr) (fun i _ => 9 - (intOf i).toNat)
  case atStart => exact ⟨⟨0, by omega, rfl⟩, rfl⟩
  case round =>
    obtain ⟨⟨j, hj, rfl⟩, hw⟩ := hrel
    subst hw
    by_cases hlt : j < 9
    · obtain ⟨b, hb, ad, rfl, hcell⟩ := HH.out j hlt
      have hbl := b.toNat_lt
      have h1 : (k : Int) + (j : Int) < (N : Int) := by omega
      go_wp2_with fail
      exact ⟨⟨⟨j + 1, by omega, by simp⟩, by trivial⟩, by simp [intOf]; omega⟩
    · obtain rfl : j = 9 := by omega
      go_wp2
      go_ret3
      exact ⟨rfl, rfl⟩

set_option maxRecDepth 100000 in
set_option maxHeartbeats 1000000 in
theorem get_end (hs : N ≤ 140737488351232) (hn : k + n = N) (h9 : n < 9) (hH : HiAt w A k n) : Calls Try.prog 48 #[.slice A N cap, .int .i64 (k : Int)] w (Ret3 w (.int .u64 0) (.int .i64 (k : Int)) (.int .i64 3)) := by
  have HH := Lib.hid hH
  clear hH
  go_enter Try.func48, Try.ntmps48
  go_wp2_with fail
  go_loopw [7] (fun i wr => (∃ j : Nat, j ≤ n ∧ i = .int .i64 (j : Int)) ∧ w = wr) (fun i _ => 9 - (intOf i).toNat)
  case atStart => exact ⟨⟨0, by omega, rfl⟩, rfl⟩
  case round =>
    obtain ⟨⟨j, hj, rfl⟩, hw⟩ := hrel
    subst hw
    by_cases hlt : j < n
    · obtain ⟨b, hb, ad, rfl, hcell⟩ := HH.out j hlt
      have hbl := b.toNat_lt
      have h1 : (k : Int) + (j : Int) < (N : Int) := by omega
      go_wp2_with fail
      exact ⟨⟨⟨j + 1, by omega, by simp⟩, by trivial⟩, by simp [intOf]; omega⟩
    · have hje : j = n := by omega
      subst hje
      subst hn
      go_wp2
      go_ret3
      exact ⟨rfl, rfl⟩

set_option maxRecDepth 100000 in
set_option maxHeartbeats 1000000 in
theorem get_5 (hs : N ≤ 140737488351232) (hn : k + n < N) (h9 : n < 9) (h0 : 0 < n) (hH : HiAt w A k n) (hz : ∃ ad, A = some ad ∧ w.cell? (ad.add (k + n)) = some (.int .u8 0)) : Calls Try.prog 48 #[.slice A N cap, .int .i64 (k : Int)] w (Ret3 w (.int .u64 0) (.int .i64 (k : Int)) (.int .i64 5)) := by
  have HH := Lib.hid hH
  have HZ := Lib.hid hz
  clear hH hz
  go_enter Try.func48, Try.ntmps48
  go_wp2_with fail
  go_loopw [7] (fun i wr => (∃ j : Nat, j ≤ n ∧ i = .int .i64 (j : Int)) ∧ w = wr) (fun i _ => 9 - (intOf i).toNat)
  case atStart => exact ⟨⟨0, by omega, rfl⟩, rfl⟩
  case round =>
    obtain ⟨⟨j, hj, rfl⟩, hw⟩ := hrel
    subst hw
    by_cases hlt : j < n
    · obtain ⟨b, hb, ad, rfl, hcell⟩ := HH.out j hlt
      have hbl := b.toNat_lt
      have h1 : (k : Int) + (j : Int) < (N : Int) := by omega
      go_wp2_with fail
      exact ⟨⟨⟨j + 1, by omega, by simp⟩, by trivial⟩, by simp [intOf]; omega⟩
    · have hje : j = n := by omega
      subst hje
      obtain ⟨ad, rfl, hcell⟩ := HZ.out
      have h1 : (k : Int) + (j : Int) < (N : Int) := by omega
      clear hlt hj
      go_wp2
      go_ret3
      exact ⟨rfl, rfl⟩

end

end Go.Proofs.Ytnbohkiimbooaaa
