/-
  What the reference's Get does where a varint stands whole, and what it does at all bytes. Conditions: the offset lies within the bytes; at most 2^47 bytes.
-/
import Derived.Test.YtnbohkiimbooaaaRfG
namespace Go.Proofs.Ytnbohkiimbooaaa
open Go.RowKit Go.Shelf
set_option linter.unusedVariables false

section
variable {w : World} {A : Option Addr} {cap : Nat} {N k n : Nat}

/-- The answer where the varint's value is V. -/
def GetV (w : World) (k n V : Nat) : Ending → World → Prop :=
  if 4611686018427387903 < V then Ret3 w (.int .u64 0) (.int .i64 (k : Int)) (.int .i64 18) else Ret3 w (.int .u64 (V : Int)) (.int .i64 ((k : Int) + (n : Int) + 1)) (.int .i64 0)

set_option maxRecDepth 100000 in
set_option maxHeartbeats 2000000 in
theorem get_v (q : List UInt8) (b : UInt8) (hs : N ≤ 140737488351232) (hn : k + n < N) (h9 : n < 9) (hn0 : 0 < n) (hH : HiAt w A k n) (hql : q.length = n + 1) (hb : b.toNat < 128) (hbq : q[n]? = some b) (hnz : 0 < n → b.toNat ≠ 0)
    (hc : ∀ (j : Nat) (y : UInt8), q[j]? = some y → ∃ ad, A = some ad ∧ w.cell? (ad.add (k + j)) = some (byt y)) : Calls Try.prog 48 #[.slice A N cap, .int .i64 (k : Int)] w (GetV w k n (lv q)) := by
  have hlt : ∀ j, lv (q.drop j) < 9223372036854775808 := by
    intro j
    have h1 := lv_lt (q.drop j)
    have h2 : 128 ^ (q.drop j).length ≤ 128 ^ 9 := Nat.pow_le_pow_right (by omega) (by simp; omega)
    have h3 : (128 : Nat) ^ 9 = 9223372036854775808 := by decide
    omega
  have HH := Lib.hid hH
  have HC := Lib.hid hc
  have HL := Lib.hid hlt
  have HQL := Lib.hid hql
  have HNZ := Lib.hid hnz
  have HBQ := Lib.hid hbq
  have HW : Hid (lv (q.drop (n + 1)) = 0) := Lib.hid (by rw [List.drop_eq_nil_of_le (by omega)]; rfl)
  have HW0 : Hid (lv (q.drop 0) = lv q) := Lib.hid (by rw [List.drop_zero])
  obtain ⟨V, hV⟩ : ∃ V, lv q = V := ⟨_, rfl⟩
  have hVl : V < 9223372036854775808 := by have := hlt 0; rw [List.drop_zero, hV] at this; exact this
  rw [hV] at HW0 ⊢
  unfold GetV
  clear hH hc hlt hql hnz hbq hV
  obtain ⟨Q, hQ⟩ : ∃ Q : Ending → World → Prop, (if 4611686018427387903 < V then Ret3 w (.int .u64 0) (.int .i64 (k : Int)) (.int .i64 18) else Ret3 w (.int .u64 (V : Int)) (.int .i64 ((k : Int) + (n : Int) + 1)) (.int .i64 0)) = Q := ⟨_, rfl⟩
  rw [hQ]
  have HQ := Lib.hid hQ
  clear hQ
  go_enter Try.func48, Try.ntmps48
  go_wp2_with fail
  go_loopw [7] (fun i wr => (∃ j : Nat, j ≤ n ∧ i = .int .i64 (j : Int)) ∧ w = wr) (fun i _ => 9 - (intOf i).toNat)
  case atStart => exact ⟨⟨0, by omega, rfl⟩, rfl⟩
  case round =>
    obtain ⟨⟨j, hj, rfl⟩, hw⟩ := hrel
    subst hw
    by_cases hlt : j < n
    · obtain ⟨c, hcb, ad, rfl, hcell⟩ := HH.out j hlt
      have hbl := c.toNat_lt
      have h1 : (k : Int) + (j : Int) < (N : Int) := by omega
      go_wp2_with fail
      exact ⟨⟨⟨j + 1, by omega, by simp⟩, by trivial⟩, by simp [intOf]; omega⟩
    · have hje : j = n := by omega
      subst hje
      obtain ⟨ad, rfl, hcell⟩ := HC.out j b HBQ.out
      have h1 : (k : Int) + (j : Int) < (N : Int) := by omega
      have hd0 : decide ((128 : Int) ≤ (b.toNat : Int)) = false := decide_eq_false (by omega)
      clear hlt hj
      have hd1 : decide ((0 : Int) < (j : Int)) = true := decide_eq_true (by omega)
      have hb0 : ¬ b.toNat = 0 := HNZ.out (by omega)
      have hd2 : ((b.toNat : Int) == 0) = false := beq_eq_false_iff_ne.2 (by omega)
      have hd3 : decide ((b.toNat : Int) = 0) = false := decide_eq_false (by omega)
      go_wp2_with fail
      go_loopw [8, 9] (fun v i wr => ((∃ m : Nat, m ≤ j ∧ i = .int .i64 (m : Int) ∧ ∃ U : Nat, Hid (lv (q.drop (m + 1)) = U) ∧ v = .int .u64 (U : Int)) ∨ (i = .int .i64 (-1) ∧ v = .int .u64 (V : Int))) ∧ w = wr) (fun _ i _ => (intOf i + 1).toNat)
      case atStart => exact ⟨.inl ⟨j, by omega, rfl, 0, HW, rfl⟩, rfl⟩
      case round =>
        obtain ⟨hrel, hw⟩ := hrel
        subst hw
        rcases hrel with ⟨m, hm, rfl, U, hU, rfl⟩ | ⟨rfl, rfl⟩
        · obtain ⟨y, hy⟩ : ∃ y, q[m]? = some y := ⟨_, List.getElem?_eq_getElem (by rw [HQL.out]; omega)⟩
          obtain ⟨ad', had', hcm⟩ := HC.out m y hy
          injection had' with had'
          subst had'
          have hyl := y.toNat_lt
          have hst := lv_drop q m y hy
          rw [hU.out] at hst
          have h1 := HL.out m
          rw [hst] at h1
          have h5 : (128 : Int) * (U : Int) < 9223372036854775808 := by omega
          have h6 : (128 : Int) * (U : Int) + (y.toNat : Int) % 128 < 9223372036854775808 := by omega
          have h7 : (k : Int) + (m : Int) < (N : Int) := by omega
          have HST := Lib.hid hst
          clear h1 hst hy hU
          go_wp2_with fail
          refine ⟨⟨?_, by trivial⟩, ?_⟩
          · cases m with
            | zero => exact .inr ⟨by simp, by rw [show (128 : Int) * (U : Int) + (y.toNat : Int) % 128 = (V : Int) by have := HST.out; have := HW0.out; omega]⟩
            | succ m => exact .inl ⟨m, by omega, by simp, 128 * U + y.toNat % 128, Lib.hid (by have := HST.out; omega), by simp⟩
          · simp [intOf]
        · by_cases hv : 4611686018427387903 < V
          · have hd : decide ((4611686018427387903 : Int) < (V : Int)) = true := decide_eq_true (by omega)
            go_wp2
            go_ret3
            rw [← HQ.out, if_pos hv]
            exact ⟨rfl, rfl⟩
          · have hd : decide ((4611686018427387903 : Int) < (V : Int)) = false := decide_eq_false (by omega)
            go_wp2
            go_ret3
            rw [← HQ.out, if_neg hv]
            exact ⟨by simp, rfl⟩

set_option maxRecDepth 100000 in
set_option maxHeartbeats 2000000 in
theorem get_v0 (b : UInt8) (hs : N ≤ 140737488351232) (hn : k < N) (hb : b.toNat < 128) (hc : ∃ ad, A = some ad ∧ w.cell? (ad.add k) = some (byt b)) : Calls Try.prog 48 #[.slice A N cap, .int .i64 (k : Int)] w (Ret3 w (.int .u64 (b.toNat : Int)) (.int .i64 ((k : Int) + 1)) (.int .i64 0)) := by
  obtain ⟨ad, rfl, hcell⟩ := hc
  have hd0 : decide ((128 : Int) ≤ (b.toNat : Int)) = false := decide_eq_false (by omega)
  have h1 : (k : Int) < (N : Int) := by omega
  have hm : (b.toNat : Int) % 128 = (b.toNat : Int) := by omega
  have hd : decide ((4611686018427387903 : Int) < (b.toNat : Int)) = false := decide_eq_false (by omega)
  go_enter Try.func48, Try.ntmps48
  go_wp2_with fail
  go_loopw [7] (fun i wr => i = .int .i64 0 ∧ w = wr) (fun i _ => 9 - (intOf i).toNat)
  case atStart => exact ⟨rfl, rfl⟩
  case round =>
    obtain ⟨rfl, hw⟩ := hrel
    subst hw
    go_wp2_with fail
    go_loopw [8, 9] (fun v i wr => ((i = .int .i64 0 ∧ v = .int .u64 0) ∨ (i = .int .i64 (-1) ∧ v = .int .u64 (b.toNat : Int))) ∧ w = wr) (fun _ i _ => (intOf i + 1).toNat)
    case atStart => exact ⟨.inl ⟨rfl, rfl⟩, rfl⟩
    case round =>
      obtain ⟨hrel, hw⟩ := hrel
      subst hw
      rcases hrel with ⟨rfl, rfl⟩ | ⟨rfl, rfl⟩
      · go_wp2_with fail
        refine ⟨⟨.inr ⟨by simp, by first | rfl | simp [hm] | (rw [hm])⟩, by trivial⟩, by simp [intOf]⟩
      · go_wp2
        go_ret3
        exact ⟨rfl, rfl⟩

end

end Go.Proofs.Ytnbohkiimbooaaa
