/-
  What the reference's Backward and Peek do. Conditions: at most 200 bytes.
-/
import Derived.Test.YtckboifdkagacaaRfR
namespace Go.Proofs.Ytckboifdkagacaa
open Go.RowKit

theorem bitsOf_get : ∀ (n v t : Nat), t < n → (bitsOf v n)[t]? = some (decide (v / 2 ^ t % 2 = 1))
  | 0, v, t, h => by omega
  | n + 1, v, 0, h => by rw [bitsOf]; simp
  | n + 1, v, t + 1, h => by
    rw [bitsOf, List.getElem?_cons_succ, bitsOf_get n (v / 2) t (by omega), Nat.div_div_eq_div_mul, Nat.pow_succ, Nat.mul_comm 2]

theorem end_bits {D : List UInt8} {e : Nat} (h : endOf D = some e) : (unp D)[e]? = some true ∧ ∀ i, e < i → i < 8 * D.length → (unp D)[i]? = some false := by
  obtain ⟨F, b, rfl, hb, rfl, _⟩ := endOf_some h
  have hlog : b.toNat.log2 < 8 := (Nat.log2_lt hb).2 b.toNat_lt
  have hu : unp (F ++ [b]) = unp F ++ bitsOf b.toNat 8 := by rw [unp_app, unp, unp, List.append_nil]
  have key : ∀ t, t < 8 → (unp (F ++ [b]))[8 * F.length + t]? = some (decide (b.toNat / 2 ^ t % 2 = 1)) := by
    intro t ht
    rw [hu, List.getElem?_append_right (by rw [unp_len]; omega), unp_len, Nat.add_sub_cancel_left, bitsOf_get 8 _ t ht]
  refine ⟨?_, fun i h1 h2 => ?_⟩
  · rw [key _ hlog]
    have h1 : 2 ^ b.toNat.log2 ≤ b.toNat := Nat.log2_self_le hb
    have h2 : b.toNat < 2 ^ (b.toNat.log2 + 1) := Nat.lt_log2_self
    have h3 : b.toNat / 2 ^ b.toNat.log2 = 1 := by
      rw [Nat.pow_succ] at h2
      exact Nat.div_eq_of_lt_le (by omega) (by omega)
    rw [h3]
    rfl
  · rw [List.length_append] at h2
    simp at h2
    obtain ⟨t, rfl⟩ : ∃ t, i = 8 * F.length + t := ⟨i - 8 * F.length, by omega⟩
    rw [key t (by omega)]
    have h3 : b.toNat / 2 ^ t = 0 := by
      refine Nat.div_eq_of_lt (Nat.lt_of_lt_of_le Nat.lt_log2_self ?_)
      exact Nat.pow_le_pow_right (by decide) (by omega)
    rw [h3]
    rfl

set_option maxHeartbeats 1000000 in
theorem rback_none (w : World) (A : Option Addr) (cap : Nat) :
    Calls Try.prog 21 #[.slice A 0 cap] w fun r w' => r = .returned (.tuple #[.pointer none, .int .i64 14]) ∧ Below w.heap.size w w' := by
  have RW := Lib.hid (row_any w A [] 0 cap rfl (by decide) (Rv.nil _ _))
  go_enter Try.func21, Try.ntmps21
  go_wp2_with fail
  refine RW.out.mono ?_
  rintro e w1 ⟨A1, c1, rfl, ho, hb⟩
  have B1 := Lib.hid hb
  clear ho hb RW
  go_wp2
  go_ret2
  exact ⟨rfl, B1.out⟩

set_option maxHeartbeats 1000000 in
theorem rback_zero (w : World) (A : Option Addr) (F : List UInt8) (b : UInt8) (N cap : Nat) (hN : F.length + 1 = N) (hs : N ≤ 200) (hR : Rd w A (F ++ [b])) (hb : b.toNat = 0) :
    Calls Try.prog 21 #[.slice A N cap] w fun r w' => r = .returned (.tuple #[.pointer none, .int .i64 14]) ∧ Below w.heap.size w w' := by
  have hlen : (F ++ [b]).length = N := by rw [List.length_append]; exact hN
  have RW := Lib.hid (row_any w A (F ++ [b]) N cap hlen hs hR)
  obtain ⟨ad, rfl⟩ := Rv.some_of hR (by simp)
  have hc := last_cell hR
  rw [hb] at hc
  have hlt := cell_lt hc
  obtain ⟨M, hM⟩ : ∃ M, F.length = M := ⟨_, rfl⟩
  rw [hM] at hc hN hlt
  subst hN
  have HC := Lib.hid hc
  have HLT := Lib.hid hlt
  clear hR hM hlen hc hlt
  go_enter Try.func21, Try.ntmps21
  go_wp2_with fail
  refine RW.out.mono ?_
  rintro e w1 ⟨A1, c1, rfl, ho, hb⟩
  have B1 := Lib.hid hb
  have hc1 := (hb.cell HLT.out).trans HC.out
  clear ho hb RW
  go_wp2
  go_ret2
  exact ⟨rfl, B1.out⟩

set_option maxRecDepth 100000 in
set_option maxHeartbeats 4000000 in
theorem rback_ok (w : World) (A : Option Addr) (D : List UInt8) (N cap : Nat) (hN : D.length = N) (hs : N ≤ 200) (hR : Rd w A D) (e : Nat) (he : endOf D = some e) :
    Calls Try.prog 21 #[.slice A N cap] w fun r w' => ∃ y, r = .returned (.tuple #[.pointer (some ⟨y, 0, none⟩), .int .i64 0]) ∧ RMade w ((unp D).take e) y w' := by
  have RW := Lib.hid (row_any w A D N cap hN hs hR)
  have EB := Lib.hid (end_bits he)
  obtain ⟨F, b, hD, hb, hbe, hlt⟩ := endOf_some he
  subst hD
  obtain ⟨ad, rfl⟩ := Rv.some_of hR (by simp)
  have hc := last_cell hR
  have hclt := cell_lt hc
  have hF : F.length = N - 1 := by rw [List.length_append] at hN; simp at hN; omega
  rw [hF] at hc hclt
  obtain ⟨N1, hN1⟩ : ∃ N1, N - 1 = N1 := ⟨_, rfl⟩
  rw [hN1] at hc hclt
  have hN0 : 0 < N := by rw [List.length_append] at hN; simp at hN; omega
  have hsub : (N : Int) - 1 = (N1 : Int) := by omega
  have hn1 : N1 < N := by omega
  obtain ⟨yb, hyb⟩ : ∃ y, b.toNat = y := ⟨_, rfl⟩
  rw [hyb] at hc hb
  have hyz : ((yb : Int) == 0) = false := by simpa using hb
  have hNz : ((N : Int) == 0) = false := by simp; omega
  obtain ⟨D, hDD⟩ : ∃ D, F ++ [b] = D := ⟨_, rfl⟩
  rw [hDD] at RW EB hN hlt ⊢
  obtain ⟨K, hK⟩ : ∃ K, (unp D).length = K := ⟨_, rfl⟩
  have hKN : K = 8 * N := by rw [← hK, unp_len, hN]
  have heK : e < K := by rw [hKN, ← hN]; exact hlt
  have hKs : K ≤ 1600 := by omega
  have HK := Lib.hid hK
  have HKD : Hid (K = 8 * D.length) := Lib.hid (by rw [hN]; exact hKN)
  have HC := Lib.hid hc
  have HCL := Lib.hid hclt
  clear hR hF hN1 hc hclt hbe hDD hK hKN hN hlt he hb hyb
  go_enter Try.func21, Try.ntmps21
  go_wp2_with fail
  refine RW.out.mono ?_
  rintro q w1 ⟨A1, c1, rfl, ho, hb⟩
  rw [HK.out] at ho ⊢
  obtain ⟨_, _, hv, hle⟩ := own_form ho
  cases hv
  have O1 := Lib.hid ho
  have B1 := Lib.hid hb
  have hc1 := (hb.cell HCL.out).trans HC.out
  have s1 := fun (j : Nat) (h : j ≤ c1) (n : Nat) W => slice_hi A1 n c1 j h W
  have HS1 := Lib.hid s1
  clear ho hb RW s1
  go_wp2_with fail
  clear hc1 hyz hNz
  go_loopw [4] (fun o wr => (∃ j : Nat, e < j ∧ j ≤ K ∧ o = .slice A1 j c1) ∧ w1 = wr) (fun o _ => match o with | .slice _ j _ => j | _ => 0)
  case atStart => exact ⟨⟨K, heK, Nat.le_refl _, rfl⟩, rfl⟩
  case round =>
    obtain ⟨⟨j, hj1, hj2, rfl⟩, hw⟩ := hrel
    subst hw
    obtain ⟨i, hi⟩ : ∃ i, j - 1 = i := ⟨_, rfl⟩
    have hij : (j : Int) - 1 = (i : Int) := by omega
    have hilt : i < j := by omega
    have sl := HS1.out i (by omega) j
    by_cases hie : i = e
    · have hb := EB.out.1
      rw [← hie] at hb
      obtain ⟨ad1, hA1, hc1⟩ := Rv.of_own O1.out i (.bool true) (by rw [List.getElem?_map, hb]; rfl)
      subst hA1
      have HIE := Lib.hid hie
      clear hb hie hi
      go_wp2_with fail
      go_ret2
      refine ⟨_, rfl, ?_⟩
      have hlt : ((unp D).take e).length = e := by rw [List.length_take, HK.out]; omega
      have := rmade_mk (l' := (unp D).take e) O1.out B1.out ⟨(unp D).drop e, (List.take_append_drop e _).symm⟩ e hlt (c' := c1) (by rw [hlt]; omega)
      rw [← HIE.out] at this ⊢
      exact this
    · have hb := EB.out.2 i (by omega) (by rw [← HKD.out]; omega)
      obtain ⟨ad1, hA1, hc1⟩ := Rv.of_own O1.out i (.bool false) (by rw [List.getElem?_map, hb]; rfl)
      subst hA1
      clear hb
      go_wp2_with fail
      exact ⟨⟨⟨i, by omega, by omega, rfl⟩, by trivial⟩, by first | omega | (simp; omega)⟩

end Go.Proofs.Ytckboifdkagacaa
