/-
  What norm.survey and the reference's Counts and Size do: the total, the number of positive counts, whether the counts are valid; a power of two. Nothing has changed. Condition: the counts are integers that a slice can hold.
-/
import Derived.Test.YtkojdhmgefggjaaMth
namespace Go.Proofs.Ytkojdhmgefggjaa
open Go.RowKit

theorem not_fine {l : List Int} (h : fine l = false) : tl l = 0 ∧ us l = 0 ∧ may l = false := by
  refine ⟨by unfold tl; rw [h]; rfl, by unfold us; rw [h]; rfl, by unfold may us; rw [h]; rfl⟩
theorem is_fine {l : List Int} (h : fine l = true) : tl l = tot (l.map Int.toNat) ∧ us l = nus (l.map Int.toNat) ∧ may l = decide (0 < nus (l.map Int.toNat)) := by
  refine ⟨by unfold tl; rw [h]; rfl, by unfold us; rw [h]; rfl, by unfold may us; rw [h]; rfl⟩

/-- What survey returns. -/
def srv (l : List Int) : Value := .tuple #[nv (tl l), nv (us l), .bool (may l)]
theorem srv_no {l : List Int} (h : fine l = false) : srv l = .tuple #[.int .i64 0, .int .i64 0, .bool false] := by
  obtain ⟨h1, h2, h3⟩ := not_fine h
  unfold srv
  rw [h1, h2, h3]; rfl
theorem srv_yes {l : List Int} {s u : Nat} (h : fine l = true) (hs : tot (l.map Int.toNat) = s) (hu : nus (l.map Int.toNat) = u) : srv l = .tuple #[nv s, nv u, .bool (decide (0 < (u : Int)))] := by
  obtain ⟨h1, h2, h3⟩ := is_fine h
  unfold srv
  rw [h1, h2, h3, hs, hu]
  simp

/-- What holds of the first i counts. -/
def Sv (l : List Int) (i s u : Nat) : Prop := fine (l.take i) = true ∧ tot ((l.take i).map Int.toNat) = s ∧ nus ((l.take i).map Int.toNat) = u
theorem Sv.zero (l : List Int) : Sv l 0 0 0 := by simp [Sv, fine, tot, nus]
theorem Sv.none {l : List Int} {i s u : Nat} (h : Sv l i s u) {x : Nat} (hx : l[i]? = some (x : Int)) (hb : 1099511627776 < s + x) : fine l = false := by
  refine fine_of (i := i + 1) ?_
  rw [fine_step h.1 hx (by omega), h.2.1]
  simp; omega
theorem Sv.step0 {l : List Int} {i s u : Nat} (h : Sv l i s u) (hx : l[i]? = some 0) (hb : s ≤ 1099511627776) : Sv l (i + 1) s u := by
  refine ⟨?_, ?_, ?_⟩
  · rw [fine_step h.1 hx (by omega), h.2.1]; simp; omega
  · rw [tot_step hx, h.2.1]; simp
  · rw [nus_step hx, h.2.2]; simp
theorem Sv.step1 {l : List Int} {i s u : Nat} (h : Sv l i s u) {x : Nat} (hx : l[i]? = some (x : Int)) (h0 : 0 < x) (hb : s + x ≤ 1099511627776) : Sv l (i + 1) (s + x) (u + 1) := by
  refine ⟨?_, ?_, ?_⟩
  · rw [fine_step h.1 hx (by omega), h.2.1]; simp; omega
  · rw [tot_step hx, h.2.1]; simp
  · rw [nus_step hx, h.2.2, if_pos (by omega)]
theorem Sv.all {l : List Int} {i s u : Nat} (h : Sv l i s u) (hi : l.length ≤ i) : srv l = .tuple #[nv s, nv u, .bool (decide (0 < (u : Int)))] := by
  unfold Sv at h
  rw [List.take_of_length_le hi] at h
  exact srv_yes h.1 h.2.1 h.2.2

set_option maxRecDepth 100000 in
set_option maxHeartbeats 1000000 in
theorem survey_any (w : World) (A : Option Addr) (l : List Int) (N c : Nat) (hN : l.length = N) (hb : N ≤ 1000000000) (hR : Ri w A l) :
    Calls Try.prog 26 #[.slice A N c] w fun e w' => e = .returned (srv l) ∧ w' = w := by
  obtain ⟨R, hRR⟩ : ∃ R, srv l = R := ⟨_, rfl⟩
  rw [hRR]
  have HR := Lib.hid hRR
  have HN := Lib.hid hN
  have HRD := Lib.hid hR
  clear hRR hN hR
  go_enter Try.func26, Try.ntmps26
  go_wp2
  go_loop [2, 3, 9] (fun t q p => ∃ i s u : Nat, i ≤ N ∧ p = .int .i64 (i : Int) ∧ t = .int .i64 (s : Int) ∧ q = .int .i64 (u : Int) ∧ s ≤ 1099511627776 ∧ u ≤ i ∧ Hid (Sv l i s u)) (fun _ _ p => N - (intOf p).toNat)
  case atStart => exact ⟨0, 0, 0, Nat.zero_le _, rfl, rfl, rfl, Nat.zero_le _, Nat.zero_le _, Lib.hid (Sv.zero l)⟩
  case round =>
    obtain ⟨i, s, u, hi, rfl, rfl, rfl, hs, hu, HA⟩ := hrel
    by_cases hlt : i < N
    · obtain ⟨z, hz⟩ : ∃ z, l[i]? = some z := ⟨_, List.getElem?_eq_getElem (by rw [HN.out]; exact hlt)⟩
      obtain ⟨ad, hA, hc⟩ := HRD.out i (iv z) (by rw [List.getElem?_map, hz]; rfl)
      subst hA
      by_cases hneg : z < 0
      · have HE : Hid (R = .tuple #[.int .i64 0, .int .i64 0, .bool false]) := Lib.hid (by rw [← HR.out]; exact srv_no (fine_neg hz hneg))
        clear hz
        go_wp2
        go_ret3
        exact ⟨by rw [HE.out]; rfl, rfl⟩
      · obtain ⟨x, rfl⟩ : ∃ x : Nat, z = (x : Int) := ⟨z.toNat, by omega⟩
        by_cases hgr : 1099511627776 < s + x
        · have HE : Hid (R = .tuple #[.int .i64 0, .int .i64 0, .bool false]) := Lib.hid (by rw [← HR.out]; exact srv_no (HA.out.none hz hgr))
          have hd : decide (1099511627776 - (s : Int) < (x : Int)) = true := decide_eq_true (by omega)
          clear hz
          go_wp2
          go_ret3
          exact ⟨by rw [HE.out]; rfl, rfl⟩
        · by_cases hx0 : x = 0
          · subst hx0
            have HT := Lib.hid (HA.out.step0 hz hs)
            simp only [Int.natCast_zero] at hc
            clear hz
            go_wp2
            exact ⟨⟨i + 1, s, u, by omega, by simp, rfl, rfl, hs, by omega, HT⟩, by simp [intOf]; omega⟩
          · have HT := Lib.hid (HA.out.step1 hz (by omega) (by omega))
            have hx1 : 0 < x := by omega
            have hsx : s + x ≤ 1099511627776 := by omega
            clear hz hx0
            go_wp2
            exact ⟨⟨i + 1, s + x, u + 1, by omega, by simp, by simp, by simp, hsx, by omega, HT⟩, by simp [intOf]; omega⟩
    · have HE : Hid (R = .tuple #[nv s, nv u, .bool (decide (0 < (u : Int)))]) := Lib.hid (by rw [← HR.out]; exact HA.out.all (by rw [HN.out]; omega))
      go_wp2
      go_ret3
      exact ⟨by rw [HE.out]; simp, rfl⟩

set_option maxRecDepth 100000 in
set_option maxHeartbeats 1000000 in
theorem rcounts_any (w : World) (A : Option Addr) (l : List Int) (N c : Nat) (hN : l.length = N) (hb : N ≤ 1000000000) (hR : Ri w A l) :
    Calls Try.prog 21 #[.slice A N c] w fun e w' => e = .returned (srv l) ∧ w' = w := by
  obtain ⟨R, hRR⟩ : ∃ R, srv l = R := ⟨_, rfl⟩
  rw [hRR]
  have HR := Lib.hid hRR
  have HN := Lib.hid hN
  have HRD := Lib.hid hR
  clear hRR hN hR
  go_enter Try.func21, Try.ntmps21
  go_wp2
  go_loop [5, 6, 7] (fun t q p => ∃ i s u : Nat, i ≤ N ∧ p = .int .i64 (i : Int) ∧ t = .int .i64 (s : Int) ∧ q = .int .i64 (u : Int) ∧ s ≤ 1099511627776 ∧ u ≤ i ∧ Hid (Sv l i s u)) (fun _ _ p => N - (intOf p).toNat)
  case atStart => exact ⟨0, 0, 0, Nat.zero_le _, rfl, rfl, rfl, Nat.zero_le _, Nat.zero_le _, Lib.hid (Sv.zero l)⟩
  case round =>
    obtain ⟨i, s, u, hi, rfl, rfl, rfl, hs, hu, HA⟩ := hrel
    by_cases hlt : i < N
    · obtain ⟨z, hz⟩ : ∃ z, l[i]? = some z := ⟨_, List.getElem?_eq_getElem (by rw [HN.out]; exact hlt)⟩
      obtain ⟨ad, hA, hc⟩ := HRD.out i (iv z) (by rw [List.getElem?_map, hz]; rfl)
      subst hA
      by_cases hneg : z < 0
      · have HE : Hid (R = .tuple #[.int .i64 0, .int .i64 0, .bool false]) := Lib.hid (by rw [← HR.out]; exact srv_no (fine_neg hz hneg))
        clear hz
        go_wp2
        go_ret3
        exact ⟨by rw [HE.out]; rfl, rfl⟩
      · obtain ⟨x, rfl⟩ : ∃ x : Nat, z = (x : Int) := ⟨z.toNat, by omega⟩
        by_cases hbig : 1099511627776 < x
        · have HE : Hid (R = .tuple #[.int .i64 0, .int .i64 0, .bool false]) := Lib.hid (by rw [← HR.out]; exact srv_no (HA.out.none hz (by omega)))
          clear hz
          go_wp2
          go_ret3
          exact ⟨by rw [HE.out]; rfl, rfl⟩
        · by_cases hgr : 1099511627776 < s + x
          · have HE : Hid (R = .tuple #[.int .i64 0, .int .i64 0, .bool false]) := Lib.hid (by rw [← HR.out]; exact srv_no (HA.out.none hz hgr))
            clear hz
            go_wp2
            go_ret3
            exact ⟨by rw [HE.out]; rfl, rfl⟩
          · by_cases hx0 : x = 0
            · subst hx0
              have HT := Lib.hid (HA.out.step0 hz hs)
              simp only [Int.natCast_zero] at hc
              clear hz
              go_wp2
              exact ⟨⟨i + 1, s, u, by omega, by simp, rfl, rfl, hs, by omega, HT⟩, by simp [intOf]; omega⟩
            · have HT := Lib.hid (HA.out.step1 hz (by omega) (by omega))
              have hx1 : 0 < x := by omega
              have hsx : s + x ≤ 1099511627776 := by omega
              clear hz hx0
              go_wp2
              exact ⟨⟨i + 1, s + x, u + 1, by omega, by simp, by simp, by simp, hsx, by omega, HT⟩, by simp [intOf]; omega⟩
    · have HE : Hid (R = .tuple #[nv s, nv u, .bool (decide (0 < (u : Int)))]) := Lib.hid (by rw [← HR.out]; exact HA.out.all (by rw [HN.out]; omega))
      go_wp2
      go_ret3
      exact ⟨by rw [HE.out]; simp, rfl⟩

/-- What Size returns. -/
def siz (z : Int) : Nat := if z < 0 ∨ 20 < z then 0 else 2 ^ z.toNat

set_option maxRecDepth 100000 in
set_option maxHeartbeats 1000000 in
theorem size_any (w : World) (z : Int) : Calls Try.prog 22 #[.int .i64 z] w fun e w' => e = .returned (nv (siz z)) ∧ w' = w := by
  obtain ⟨R, hRR⟩ : ∃ R, siz z = R := ⟨_, rfl⟩
  rw [hRR]
  have HR := Lib.hid hRR
  clear hRR
  by_cases h0 : z < 0
  · have HE : Hid (R = 0) := Lib.hid (by rw [← HR.out, siz, if_pos (.inl h0)])
    go_enter Try.func22, Try.ntmps22
    go_wp2
    go_ret
    exact ⟨by rw [HE.out]; rfl, rfl⟩
  · by_cases h1 : 20 < z
    · have HE : Hid (R = 0) := Lib.hid (by rw [← HR.out, siz, if_pos (.inr h1)])
      go_enter Try.func22, Try.ntmps22
      go_wp2
      go_ret
      exact ⟨by rw [HE.out]; rfl, rfl⟩
    · obtain ⟨x, rfl⟩ : ∃ x : Nat, z = (x : Int) := ⟨z.toNat, by omega⟩
      have HE : Hid (R = 2 ^ x) := Lib.hid (by rw [← HR.out, siz, if_neg (by omega)]; simp)
      have hx : x ≤ 20 := by omega
      clear HR
      go_enter Try.func22, Try.ntmps22
      go_wp2
      go_loop [3, 4] (fun t p => ∃ i s : Nat, i ≤ x ∧ p = .int .i64 (i : Int) ∧ t = .int .i64 (s : Int) ∧ s ≤ 1048576 ∧ Hid (s = 2 ^ i)) (fun _ p => x - (intOf p).toNat)
      case atStart => exact ⟨0, 1, Nat.zero_le _, rfl, rfl, by omega, Lib.hid rfl⟩
      case round =>
        obtain ⟨i, s, hi, rfl, rfl, hs, HA⟩ := hrel
        by_cases hlt : i < x
        · have hs2 : 2 * s ≤ 1048576 := by
            have h2 : 2 ^ (i + 1) ≤ 2 ^ 20 := Nat.pow_le_pow_right (by decide) (by omega)
            rw [Nat.pow_succ, ← HA.out, show (2 : Nat) ^ 20 = 1048576 by decide] at h2
            omega
          go_wp2
          exact ⟨⟨i + 1, 2 * s, by omega, by simp, by simp, hs2, Lib.hid (by rw [HA.out, Nat.pow_succ]; omega)⟩, by simp [intOf]; omega⟩
        · have HF : Hid (s = R) := Lib.hid (by rw [HA.out, HE.out, show i = x by omega])
          go_wp2
          go_ret
          exact ⟨by rw [← HF.out]; rfl, rfl⟩

end Go.Proofs.Ytkojdhmgefggjaa
