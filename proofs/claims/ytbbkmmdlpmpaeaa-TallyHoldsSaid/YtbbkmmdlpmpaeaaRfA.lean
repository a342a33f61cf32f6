/-
  What the reference's Right, Total, Used and Log2 do. Nothing has changed. Conditions: Total and Used at valid counts, Log2 at a number from 1 to 2^62 - 1.
-/
import Derived.Test.YtbbkmmdlpmpaeaaAcc
namespace Go.Proofs.Ytbbkmmdlpmpaeaa
open Go.RowKit

set_option maxRecDepth 100000 in
set_option maxHeartbeats 1000000 in
theorem right_any (w : World) (A : Option Addr) (l : List Int) (N c : Nat) (hN : l.length = N) (hR : Ri w A l) :
    Calls Try.prog 18 #[.slice A N c] w fun e w' => e = .returned (.bool (ok l)) ∧ w' = w := by
  obtain ⟨R, hRR⟩ : ∃ R, ok l = R := ⟨_, rfl⟩
  rw [hRR]
  have HR := Lib.hid hRR
  have HN := Lib.hid hN
  have HRD := Lib.hid hR
  clear hRR hN hR
  by_cases hbig : 256 < N
  · have HE : Hid (R = false) := Lib.hid (by rw [← HR.out]; unfold ok; rw [HN.out]; simp; omega)
    go_enter Try.func18, Try.ntmps18
    go_wp2
    go_ret
    exact ⟨congrArg (fun z => Ending.returned (Value.bool z)) HE.out.symm, rfl⟩
  · go_enter Try.func18, Try.ntmps18
    go_wp2
    go_loop [3] (fun p => ∃ i : Nat, i ≤ N ∧ p = .int .i64 (i : Int) ∧ Hid ((l.take i).all okc = true)) (fun p => N - (intOf p).toNat)
    case atStart => exact ⟨0, Nat.zero_le _, rfl, Lib.hid (by simp)⟩
    case round =>
      obtain ⟨i, hi, rfl, HA⟩ := hrel
      by_cases hlt : i < N
      · obtain ⟨z, hz⟩ : ∃ z, l[i]? = some z := ⟨_, List.getElem?_eq_getElem (by rw [HN.out]; exact hlt)⟩
        have HT := Lib.hid (ok_take hz)
        obtain ⟨ad, hA, hc⟩ := HRD.out i (iv z) (by rw [List.getElem?_map, hz]; rfl)
        have HZ := Lib.hid hz
        clear hz
        subst hA
        have NO : Hid (okc z = false → R = false) := Lib.hid (fun hq => by
          rw [← HR.out]
          unfold ok
          rw [Bool.and_eq_false_iff]
          right
          rw [List.all_eq_false]
          exact ⟨z, List.mem_of_getElem? HZ.out, by rw [hq]; simp⟩)
        by_cases hneg : z < 0
        · have HE : Hid (R = false) := Lib.hid (NO.out (by simp [okc]; omega))
          go_wp2
          go_ret
          exact ⟨congrArg (fun z => Ending.returned (Value.bool z)) HE.out.symm, rfl⟩
        · by_cases hgr : 2147483648 < z
          · have HE : Hid (R = false) := Lib.hid (NO.out (by simp [okc]; omega))
            go_wp2
            go_ret
            exact ⟨congrArg (fun z => Ending.returned (Value.bool z)) HE.out.symm, rfl⟩
          · go_wp2
            exact ⟨⟨i + 1, by omega, by simp, Lib.hid (by rw [HT.out, HA.out]; simp [okc]; omega)⟩, by simp [intOf]; omega⟩
      · have HE : Hid (R = true) := Lib.hid (by
          rw [← HR.out]
          unfold ok
          have h2 := HA.out
          rw [List.take_of_length_le (by rw [HN.out]; omega)] at h2
          rw [h2, HN.out]; simp; omega)
        go_wp2
        go_ret
        exact ⟨congrArg (fun z => Ending.returned (Value.bool z)) HE.out.symm, rfl⟩

theorem tot_take_le (k : List Nat) (i : Nat) : tot (k.take i) ≤ tot k := by
  conv => rhs; rw [← List.take_append_drop i k, tot_append]
  omega

set_option maxRecDepth 100000 in
set_option maxHeartbeats 1000000 in
theorem rtotal_any (w : World) (A : Option Addr) (k : List Nat) (N c : Nat) (hk : k.length = N) (hv : Vld k) (hR : Rn w A k) :
    Calls Try.prog 24 #[.slice A N c] w fun e w' => e = .returned (.int .i64 (tot k : Int)) ∧ w' = w := by
  have hT := hv.tot
  have hN := hv.1
  obtain ⟨R, hRR⟩ : ∃ R, tot k = R := ⟨_, rfl⟩
  rw [hRR] at hT ⊢
  have HR := Lib.hid hRR
  have HN := Lib.hid hk
  have HRD := Lib.hid hR
  have HV := Lib.hid hv
  rw [hk] at hN
  clear hRR hk hR hv
  go_enter Try.func24, Try.ntmps24
  go_wp2
  go_loop [3, 4] (fun t p => ∃ i s : Nat, i ≤ N ∧ p = .int .i64 (i : Int) ∧ t = .int .i64 (s : Int) ∧ s ≤ R ∧ Hid (tot (k.take i) = s)) (fun _ p => N - (intOf p).toNat)
  case atStart => exact ⟨0, 0, Nat.zero_le _, rfl, rfl, Nat.zero_le _, Lib.hid (by simp [tot])⟩
  case round =>
    obtain ⟨i, s, hi, rfl, rfl, hs, HA⟩ := hrel
    by_cases hlt : i < N
    · obtain ⟨x, hx⟩ : ∃ x, k[i]? = some x := ⟨_, List.getElem?_eq_getElem (by rw [HN.out]; exact hlt)⟩
      have hxb := HV.out.2 x (List.mem_of_getElem? hx)
      have HT : Hid (tot (k.take (i + 1)) = s + x) := Lib.hid (by rw [take_succ_get hx, tot_append, HA.out, tot_cons]; simp [tot])
      have hsx : s + x ≤ R := by rw [← HT.out, ← HR.out]; exact tot_take_le k _
      obtain ⟨ad, hA, hc⟩ := HRD.out i (nv x) (by rw [List.getElem?_map, hx]; rfl)
      simp only [nv] at hc
      clear hx
      subst hA
      go_wp2
      exact ⟨⟨i + 1, s + x, by omega, by simp, by simp, hsx, HT⟩, by simp [intOf]; omega⟩
    · have HE : Hid (s = R) := Lib.hid (by rw [← HA.out, ← HR.out, List.take_of_length_le (by rw [HN.out]; omega)])
      go_wp2
      go_ret
      exact ⟨by rw [← HE.out]; rfl, rfl⟩

set_option maxRecDepth 100000 in
set_option maxHeartbeats 1000000 in
theorem rused_any (w : World) (A : Option Addr) (k : List Nat) (N c : Nat) (hk : k.length = N) (hv : Vld k) (hR : Rn w A k) :
    Calls Try.prog 25 #[.slice A N c] w fun e w' => e = .returned (.int .i64 ((usd 0 k).length : Int)) ∧ w' = w := by
  have hN := hv.1
  obtain ⟨R, hRR⟩ : ∃ R, (usd 0 k).length = R := ⟨_, rfl⟩
  rw [hRR]
  have HR := Lib.hid hRR
  have HN := Lib.hid hk
  have HRD := Lib.hid hR
  have HV := Lib.hid hv
  rw [hk] at hN
  clear hRR hk hR hv
  go_enter Try.func25, Try.ntmps25
  go_wp2
  go_loop [3, 4] (fun t p => ∃ i s : Nat, i ≤ N ∧ p = .int .i64 (i : Int) ∧ t = .int .i64 (s : Int) ∧ s ≤ i ∧ Hid (nus k i = s)) (fun _ p => N - (intOf p).toNat)
  case atStart => exact ⟨0, 0, Nat.zero_le _, rfl, rfl, Nat.zero_le _, Lib.hid (nus_zero k)⟩
  case round =>
    obtain ⟨i, s, hi, rfl, rfl, hs, HA⟩ := hrel
    by_cases hlt : i < N
    · obtain ⟨x, hx⟩ : ∃ x, k[i]? = some x := ⟨_, List.getElem?_eq_getElem (by rw [HN.out]; exact hlt)⟩
      obtain ⟨ad, hA, hc⟩ := HRD.out i (nv x) (by rw [List.getElem?_map, hx]; rfl)
      simp only [nv] at hc
      subst hA
      by_cases hx0 : x = 0
      · subst hx0
        have HT := Lib.hid (nus_none hx)
        simp only [Int.natCast_zero] at hc
        clear hx
        go_wp2
        exact ⟨⟨i + 1, s, by omega, by simp, rfl, by omega, Lib.hid (by rw [HT.out, HA.out])⟩, by simp [intOf]; omega⟩
      · have HT := Lib.hid (nus_some hx (by omega)).1
        have hd : decide ((0 : Int) < (x : Int)) = true := decide_eq_true (by omega)
        have hx1 : 0 < x := by omega
        clear hx hx0
        go_wp2
        exact ⟨⟨i + 1, s + 1, by omega, by simp, by simp, by omega, Lib.hid (by rw [HT.out, HA.out])⟩, by simp [intOf]; omega⟩
    · have HE : Hid (s = R) := Lib.hid (by rw [← HA.out, ← HR.out, nus_all k (by rw [HN.out]; omega)])
      go_wp2
      go_ret
      exact ⟨by rw [← HE.out]; rfl, rfl⟩

theorem lg_hi {kk q P X : Nat} (h : kk * P + q = X) (hP : P ≤ 2 * q) : (2 * kk + 1) * P + (2 * q - P) = 2 * X := by
  rw [Nat.add_mul, Nat.mul_assoc]; omega
theorem lg_lo {kk q P X : Nat} (h : kk * P + q = X) : (2 * kk) * P + 2 * q = 2 * X := by
  rw [Nat.mul_assoc]; omega

set_option maxRecDepth 100000 in
set_option maxHeartbeats 2000000 in
theorem rlog_any (w : World) (n : Nat) (h1 : 1 ≤ n) (h2 : n ≤ 4611686018427387903) :
    Calls Try.prog 31 #[.int .i64 (n : Int)] w fun e w' => e = .returned (.int .i64 (lg n : Int)) ∧ w' = w := by
  obtain ⟨R, hR⟩ : ∃ R, lg n = R := ⟨_, rfl⟩
  have HR := Lib.hid hR
  rw [hR]
  clear hR
  go_enter Try.func31, Try.ntmps31
  go_wp2
  go_loop [3, 4] (fun t p => ∃ k P : Nat, k < 62 ∧ P ≤ n ∧ 1 ≤ P ∧ t = .int .i64 (k : Int) ∧ p = .int .i64 (P : Int) ∧ Hid (P = 2 ^ k)) (fun _ p => n - (intOf p).toNat)
  case atStart => exact ⟨0, 1, by omega, h1, Nat.le_refl _, rfl, rfl, Lib.hid rfl⟩
  case round =>
    obtain ⟨k, P, hk, hPn, hP1, rfl, rfl, HP⟩ := hrel
    by_cases hc : 2 * P ≤ n
    · have hq : decide ((P : Int) ≤ (n : Int) / 2) = true := decide_eq_true (by omega)
      have hq2 : P ≤ n / 2 := by omega
      have hk2 : k + 1 < 62 := by
        have hp : 2 ^ (k + 1) ≤ n := by rw [Nat.pow_succ, ← HP.out]; omega
        rcases Nat.lt_or_ge (k + 1) 62 with h | h
        · exact h
        · have : 2 ^ 62 ≤ 2 ^ (k + 1) := Nat.pow_le_pow_right (by decide) h
          omega
      go_wp2
      exact ⟨⟨k + 1, 2 * P, hk2, hc, by omega, by simp, by simp, Lib.hid (by rw [HP.out, Nat.pow_succ]; omega)⟩, by simp [intOf]; omega⟩
    · have hq : decide ((P : Int) ≤ (n : Int) / 2) = false := decide_eq_false (by omega)
      have hq2 : ¬ P ≤ n / 2 := by omega
      have HK : Hid (n.log2 = k) := Lib.hid ((Nat.log2_eq_iff (by omega)).2 ⟨by rw [← HP.out]; exact hPn, by rw [Nat.pow_succ, ← HP.out]; omega⟩)
      obtain ⟨a, ha⟩ : ∃ a, n - P = a := ⟨_, rfl⟩
      have haP : a < P := by omega
      have e1 : (n : Int) - (P : Int) = (a : Int) := by omega
      have hP2 : P ≤ 4611686018427387903 := by omega
      have HL : Hid (R = (k * P + a) * 256 / P) := Lib.hid (by
        rw [← HR.out, lg, HK.out, ← HP.out, ha, Nat.add_mul, Nat.mul_right_comm, Nat.mul_comm (k * 256) P, Nat.mul_add_div (by omega)])
      clear ha HR HK HP hc
      go_wp2
      go_loop [3, 5, 6] (fun t q p => ∃ i kk s : Nat, i ≤ 8 ∧ p = .int .i64 (i : Int) ∧ t = .int .i64 (kk : Int) ∧ q = .int .i64 (s : Int) ∧ s < P ∧ kk ≤ 16384 ∧ Hid (kk + 1 ≤ 63 * 2 ^ i) ∧ Hid (kk * P + s = 2 ^ i * (k * P + a))) (fun _ _ p => 8 - (intOf p).toNat)
      case atStart => exact ⟨0, k, a, by omega, rfl, rfl, rfl, haP, by omega, Lib.hid (by simp; omega), Lib.hid (by simp)⟩
      case round =>
        obtain ⟨i, kk, s, hi, rfl, rfl, rfl, hs, hkk, HB, HE⟩ := hrel
        by_cases hlt : i < 8
        · have hkk2 : 2 * kk + 1 ≤ 16384 := by
            have h3 := HB.out
            have h4 : 2 ^ i ≤ 2 ^ 7 := Nat.pow_le_pow_right (by decide) (by omega)
            omega
          have hpow : 2 ^ (i + 1) * (k * P + a) = 2 * (2 ^ i * (k * P + a)) := by rw [Nat.pow_succ, Nat.mul_comm (2 ^ i) 2, Nat.mul_assoc]
          have HPW := Lib.hid hpow
          have HB2 : Hid (2 * kk + 1 + 1 ≤ 63 * 2 ^ (i + 1)) := Lib.hid (by have := HB.out; rw [Nat.pow_succ]; omega)
          clear hpow
          by_cases hge : P ≤ 2 * s
          · have hd : decide ((P : Int) - (s : Int) ≤ (s : Int)) = true := decide_eq_true (by omega)
            have HN := Lib.hid (lg_hi HE.out hge)
            clear hd
            go_wp2
            exact ⟨⟨i + 1, 2 * kk + 1, 2 * s - P, by omega, by simp, by simp, by simp; omega, by omega, hkk2, HB2, Lib.hid (by rw [HN.out, HPW.out])⟩, by simp [intOf]; omega⟩
          · have hd : decide ((P : Int) - (s : Int) ≤ (s : Int)) = false := decide_eq_false (by omega)
            have HN := Lib.hid (lg_lo HE.out)
            clear hd
            go_wp2
            exact ⟨⟨i + 1, 2 * kk, 2 * s, by omega, by simp, by simp, by simp, by omega, by omega, Lib.hid (by have := HB2.out; omega), Lib.hid (by rw [HN.out, HPW.out])⟩, by simp [intOf]; omega⟩
        · have HF : Hid (kk = R) := Lib.hid (by
            have h8 : i = 8 := by omega
            have h9 := HE.out
            rw [h8] at h9
            rw [HL.out, Nat.mul_comm _ 256, show (256 : Nat) = 2 ^ 8 by rfl, ← h9, Nat.mul_comm kk P, Nat.mul_add_div (by omega), Nat.div_eq_of_lt hs]
            rfl)
          go_wp2
          go_ret
          exact ⟨by rw [← HF.out]; rfl, rfl⟩

end Go.Proofs.Ytbbkmmdlpmpaeaa
