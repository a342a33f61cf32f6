/-
  What IsRun and the laws' helpers same, num and is do. Nothing has changed. No condition.
-/
import Derived.BigQuiet
import Derived.Test.YtdlhfcapfbbjjaaHis
namespace Go.Proofs.Ytdlhfcapfbbjjaa
open Go.RowKit

/-- Whether all bytes are equal, and their value. -/
def runb : List UInt8 → Bool
  | [] => false
  | b :: l => l.all (· == b)
def runv (l : List UInt8) : Nat := if runb l then (l.headD 0).toNat else 0

theorem runb_all {b : UInt8} {l : List UInt8} : runb (b :: l) = true ↔ ∀ (j : Nat) (x : UInt8), (b :: l)[j]? = some x → x = b := by
  unfold runb
  rw [List.all_eq_true]
  constructor
  · intro h j x hx
    rcases j with _ | j
    · simpa using hx.symm
    · simp at hx
      simpa using h x (List.mem_of_getElem? hx)
  · intro h x hx
    obtain ⟨j, hj⟩ := List.getElem?_of_mem hx
    have := h (j + 1) x (by simpa using hj)
    simp [this]

set_option maxRecDepth 100000 in
set_option maxHeartbeats 1000000 in
theorem isrun_any (w : World) (A : Option Addr) (l : List UInt8) (N c : Nat) (hN : l.length = N) (hs : N ≤ 1099511627776) (hR : Rd w A l) :
    Calls Try.prog 17 #[.slice A N c] w fun e w' => e = .returned (.tuple #[.int .u8 (runv l : Int), .bool (runb l)]) ∧ w' = w := by
  rcases l with _ | ⟨b, l⟩
  · simp at hN
    subst hN
    go_enter Try.func17, Try.ntmps17
    go_wp2
    go_ret2
    exact ⟨rfl, rfl⟩
  · have h1 : 1 ≤ N := by simp at hN; omega
    obtain ⟨ad, rfl, hc0⟩ := hR 0 (byt b) rfl
    have hc0' : w.cell? ad = some (.int .u8 (b.toNat : Int)) := by simpa [Addr.add] using hc0
    have HR := Lib.hid hR
    have HN := Lib.hid hN
    obtain ⟨V, hV⟩ : ∃ V, (runv (b :: l) : Int) = V := ⟨_, rfl⟩
    obtain ⟨T, hT⟩ : ∃ T, runb (b :: l) = T := ⟨_, rfl⟩
    rw [hV, hT]
    have HV := Lib.hid hV
    have HT := Lib.hid hT
    have hbl := b.toNat_lt
    obtain ⟨y, hy⟩ : ∃ y, b.toNat = y := ⟨_, rfl⟩
    rw [hy] at hbl hc0'
    have HY := Lib.hid hy
    clear hc0 hV hT hR hN hy
    go_enter Try.func17, Try.ntmps17
    go_wp2
    go_loop [11] (fun p => ∃ i : Nat, i ≤ N ∧ p = .int .i64 (i : Int) ∧ Hid (∀ (j : Nat) (x : UInt8), j < i → (b :: l)[j]? = some x → x = b)) (fun p => N - (intOf p).toNat)
    case atStart => exact ⟨0, Nat.zero_le _, rfl, Lib.hid (fun j x h _ => by omega)⟩
    case round =>
      obtain ⟨i, hi, rfl, HA⟩ := hrel
      by_cases hlt : i < N
      · obtain ⟨x, hx⟩ : ∃ x, (b :: l)[i]? = some x := ⟨_, List.getElem?_eq_getElem (by rw [HN.out]; exact hlt)⟩
        have hc := HR.out.cells i (byt x) (by rw [List.getElem?_map, hx]; rfl)
        have hxl := x.toNat_lt
        obtain ⟨z, hz⟩ : ∃ z, x.toNat = z := ⟨_, rfl⟩
        simp only [byt] at hc
        rw [hz] at hc hxl
        by_cases hzy : z = y
        · subst hzy
          have HX : Hid (x = b) := Lib.hid (UInt8.toNat_inj.1 (by rw [hz, HY.out]))
          have HXI := Lib.hid hx
          clear hx hz
          go_wp2
          refine ⟨⟨i + 1, by omega, by simp, Lib.hid (fun j u hj hu => ?_)⟩, by simp [intOf]; omega⟩
          rcases Nat.lt_or_ge j i with h | h
          · exact HA.out j u h hu
          · rw [show j = i by omega, HXI.out] at hu
            cases hu
            exact HX.out
        · have HF : Hid (T = false ∧ V = 0) := Lib.hid (by
            have : T = false := by
              rw [← HT.out]
              cases hq : runb (b :: l) with
              | false => rfl
              | true =>
                have := runb_all.1 hq i x hx
                subst this
                exact absurd (hz.symm.trans HY.out) hzy
            refine ⟨this, ?_⟩
            rw [← HV.out, runv, HT.out, this]
            rfl)
          have hne : (z != y) = true := by simp [hzy]
          have hne2 : (((z : Nat) : Int) != ((y : Nat) : Int)) = true := by simp; omega
          clear hx hz
          go_wp2
          go_ret2
          exact ⟨by rw [HF.out.1, HF.out.2]; rfl, rfl⟩
      · have HF : Hid (T = true ∧ V = y) := Lib.hid (by
          have : T = true := by
            rw [← HT.out]
            refine runb_all.2 fun j x hx => HA.out j x ?_ hx
            have h9 := (List.getElem?_eq_some_iff.1 hx).1
            rw [HN.out] at h9
            omega
          refine ⟨this, ?_⟩
          rw [← HV.out, runv, HT.out, this, if_pos rfl, ← HY.out]
          rfl)
        go_wp2
        go_ret2
        exact ⟨by rw [HF.out.1, HF.out.2]; rfl, rfl⟩

set_option maxHeartbeats 1000000 in
theorem num_any (w : World) (z : Int) : Calls Try.prog 19 #[.int .i64 z] w fun e w' => e = .returned (.int .i64 z) ∧ w' = w := by
  go_enter Try.func19, Try.ntmps19
  go_wp2
  go_ret
  exact ⟨rfl, rfl⟩

set_option maxRecDepth 100000 in
set_option maxHeartbeats 1000000 in
theorem same_any (w : World) (A : Option Addr) (l : List Int) (N c : Nat) (hN : l.length = N) (hs : N ≤ 1099511627776) (hR : Ri w A l) (B : Option Addr) (m : List Int) (M c2 : Nat) (hM : m.length = M) (hR2 : Ri w B m) :
    Calls Try.prog 14 #[.slice A N c, .slice B M c2] w fun e w' => e = .returned (.bool (decide (l = m))) ∧ ∃ d, w' = w.drewN d := by
  by_cases hNM : N = M
  · subst hNM
    obtain ⟨T, hT⟩ : ∃ T, decide (l = m) = T := ⟨_, rfl⟩
    rw [hT]
    have HT := Lib.hid hT
    have H1 := Lib.hid hN
    have H2 := Lib.hid hM
    have R1 := Lib.hid hR
    have R2 := Lib.hid hR2
    clear hT hN hM hR hR2
    go_enter Try.func14, Try.ntmps14
    go_wp2
    go_loopw [5] (fun p wr => ∃ i d : Nat, i ≤ N ∧ p = .int .i64 (i : Int) ∧ Hid (wr = w.drewN d) ∧ Hid (∀ j : Nat, j < i → l[j]? = m[j]?)) (fun p _ => N - (intOf p).toNat)
    case atStart => exact ⟨0, 0, Nat.zero_le _, rfl, Lib.hid rfl, Lib.hid (fun j h => by omega)⟩
    case round =>
      obtain ⟨i, d, hi, rfl, HW, HA⟩ := hrel
      by_cases hlt : i < N
      · obtain ⟨x, hx⟩ : ∃ x, l[i]? = some x := ⟨_, List.getElem?_eq_getElem (by rw [H1.out]; exact hlt)⟩
        obtain ⟨y, hy⟩ : ∃ y, m[i]? = some y := ⟨_, List.getElem?_eq_getElem (by rw [H2.out]; exact hlt)⟩
        obtain ⟨ad, rfl, c1⟩ := R1.out i (iv x) (by rw [List.getElem?_map, hx]; rfl)
        obtain ⟨ad2, rfl, c2'⟩ := R2.out i (iv y) (by rw [List.getElem?_map, hy]; rfl)
        simp only [iv] at c1 c2'
        replace c1 : wr.cell? (ad.add i) = some (.int .i64 x) := by rw [HW.out]; exact c1
        replace c2' : wr.cell? (ad2.add i) = some (.int .i64 y) := by rw [HW.out]; exact c2'
        have HX := Lib.hid hx
        have HY := Lib.hid hy
        clear hx hy
        by_cases hxy : x = y
        · subst hxy
          go_wp2
          go_quiet (fail)
          go_wp2
          refine ⟨⟨i + 1, d + nq, by omega, by simp, Lib.hid (by rw [HW.out, World.drewN_drewN]), Lib.hid (fun j hj => ?_)⟩, by simp [intOf]; omega⟩
          rcases Nat.lt_or_ge j i with h | h
          · exact HA.out j h
          · rw [show j = i by omega, HX.out, HY.out]
        · have HF : Hid (T = false) := Lib.hid (by
            rw [← HT.out, decide_eq_false_iff_not]
            intro e
            have h1 := HX.out
            rw [e, HY.out] at h1
            cases h1
            exact hxy rfl)
          have hne : (x != y) = true := by simp [hxy]
          go_wp2
          go_quiet (fail)
          go_wp2
          go_ret
          exact ⟨by rw [HF.out]; rfl, d + nq, by rw [HW.out, World.drewN_drewN]⟩
      · have HF : Hid (T = true) := Lib.hid (by
          rw [← HT.out, decide_eq_true_iff]
          refine List.ext_getElem? fun j => ?_
          rcases Nat.lt_or_ge j i with h | h
          · exact HA.out j h
          · rw [List.getElem?_eq_none (by rw [H1.out]; omega), List.getElem?_eq_none (by rw [H2.out]; omega)])
        go_wp2
        go_ret
        exact ⟨by rw [HF.out]; rfl, d, HW.out⟩
  · have HF : Hid (decide (l = m) = false) := Lib.hid (by
      rw [decide_eq_false_iff_not]
      intro e
      rw [e, hM] at hN
      exact hNM hN.symm)
    have hne : ((N : Int) != (M : Int)) = true := by simp; omega
    clear hN hM hR hR2
    go_enter Try.func14, Try.ntmps14
    go_wp2
    go_ret
    exact ⟨by rw [HF.out]; rfl, 0, rfl⟩

set_option maxHeartbeats 1000000 in
theorem is_any (w : World) (n e0 want : Int) : Calls Try.prog 23 #[.int .i64 n, .int .i64 e0, .int .i64 want] w fun e w' => e = .returned (.bool (n == want && e0 == 0)) ∧ w' = w := by
  by_cases h : n = want
  · subst h
    go_enter Try.func23, Try.ntmps23
    go_wp2_with (go_at_call 19; refine (num_any _ _).mono ?_; rintro e w' ⟨rfl, rfl⟩)
    go_ret
    exact ⟨by simp, rfl⟩
  · have hne : (n == want) = false := by simp [h]
    go_enter Try.func23, Try.ntmps23
    go_wp2_with (go_at_call 19; refine (num_any _ _).mono ?_; rintro e w' ⟨rfl, rfl⟩)
    go_ret
    exact ⟨by simp [hne], rfl⟩

end Go.Proofs.Ytdlhfcapfbbjjaa
