/-
  What norm.fill does: whether the states sum to a number. Nothing has changed. Condition: the numbers are in int's range, and a slice can hold them.
-/
import Derived.Test.YtpjbjbohbdlciaaSam
import Derived.BigQuiet
import Derived.Deep.QuietTactic
namespace Go.Proofs.Ytpjbjbohbdlciaa
open Go.RowKit Go.Shelf

/-- The number of states of a norm; the sum of the states; norms none of which is below -1. -/
def sts (n : Int) : Int := if n = -1 then 1 else n
def ssum (l : List Int) : Int := (l.map sts).foldr (· + ·) 0
def okn (l : List Int) : Bool := l.all (fun n => decide (-1 ≤ n))
/-- The states sum to s. -/
def fl (l : List Int) (s : Int) : Bool := okn l && decide (ssum l = s)
theorem ssum_cons (x : Int) (l : List Int) : ssum (x :: l) = sts x + ssum l := rfl
theorem ssum_append (l m : List Int) : ssum (l ++ m) = ssum l + ssum m := by
  induction l with
  | nil => simp [ssum]
  | cons x l ih => rw [List.cons_append, ssum_cons, ssum_cons, ih]; omega
theorem ssum_pos {l : List Int} (h : okn l = true) : 0 ≤ ssum l := by
  induction l with
  | nil => simp [ssum]
  | cons x l ih =>
    unfold okn at h ih
    rw [List.all_cons, Bool.and_eq_true, decide_eq_true_iff] at h
    have := ih h.2
    rw [ssum_cons]
    unfold sts
    split <;> omega
theorem okn_append (l m : List Int) : okn (l ++ m) = (okn l && okn m) := by simp [okn]
theorem fl_low {l : List Int} {i : Nat} {x s : Int} (hx : l[i]? = some x) (h : x < -1) : fl l s = false := by
  unfold fl
  have : okn l = false := by
    unfold okn
    rw [List.all_eq_false]
    exact ⟨x, List.mem_of_getElem? hx, by simp; omega⟩
  rw [this]; rfl
theorem fl_over {l : List Int} {i : Nat} {s : Int} (h : s < ssum (l.take i)) : fl l s = false := by
  unfold fl
  cases ho : okn l with
  | false => rfl
  | true =>
    rw [← List.take_append_drop i l, okn_append, Bool.and_eq_true] at ho
    have h1 := ssum_pos ho.2
    have h2 := ssum_append (l.take i) (l.drop i)
    rw [List.take_append_drop] at h2
    simp
    omega
theorem ssum_step {l : List Int} {i : Nat} {x : Int} (hx : l[i]? = some x) : ssum (l.take (i + 1)) = ssum (l.take i) + sts x := by
  rw [take_succ_get hx, ssum_append, ssum_cons]; simp [ssum]
theorem okn_step {l : List Int} {i : Nat} {x : Int} (hx : l[i]? = some x) (h : -1 ≤ x) (ho : okn (l.take i) = true) : okn (l.take (i + 1)) = true := by
  rw [take_succ_get hx, okn_append, ho]; simp [okn, h]
theorem fl_end {l : List Int} {i : Nat} {s q : Int} (ho : okn (l.take i) = true) (hi : l.length ≤ i) (hq : ssum (l.take i) + q = s) : fl l s = decide (q = 0) := by
  rw [List.take_of_length_le hi] at ho hq
  unfold fl
  rw [ho, Bool.true_and]
  by_cases h : q = 0
  · rw [decide_eq_true h, decide_eq_true (by omega)]
  · rw [decide_eq_false h, decide_eq_false (by omega)]

set_option maxRecDepth 100000 in
set_option maxHeartbeats 2000000 in
theorem fill_any (w : World) (A : Option Addr) (l : List Int) (N c s : Nat) (hN : l.length = N) (hb : N ≤ 1000000000) (hs : s ≤ 1000000) (hR : Ri w A l) :
    Calls Try.prog 68 #[.slice A N c, .int .i64 (s : Int)] w fun e w' => e = .returned (.bool (fl l s)) ∧ w' = w := by
  obtain ⟨R, hRR⟩ : ∃ R, fl l s = R := ⟨_, rfl⟩
  rw [hRR]
  have HR := Lib.hid hRR
  have HN := Lib.hid hN
  have HRD := Lib.hid hR
  clear hRR hN hR
  go_enter Try.func68, Try.ntmps68
  go_wp2
  go_loop [1, 9] (fun t p => ∃ i q : Nat, i ≤ N ∧ p = .int .i64 (i : Int) ∧ t = .int .i64 (q : Int) ∧ q ≤ s ∧ Hid (okn (l.take i) = true) ∧ Hid (ssum (l.take i) + q = s)) (fun _ p => N - (intOf p).toNat)
  case atStart => exact ⟨0, s, Nat.zero_le _, rfl, rfl, Nat.le_refl _, Lib.hid (by simp [okn]), Lib.hid (by simp [ssum])⟩
  case round =>
    obtain ⟨i, q, hi, rfl, rfl, hq, HA, HS⟩ := hrel
    by_cases hlt : i < N
    · obtain ⟨x, hx⟩ : ∃ x, l[i]? = some x := ⟨_, List.getElem?_eq_getElem (by rw [HN.out]; exact hlt)⟩
      obtain ⟨ad, hA, hc⟩ := HRD.out i (iv x) (by rw [List.getElem?_map, hx]; rfl)
      subst hA
      have HT := Lib.hid (ssum_step hx)
      by_cases h1 : x = -1
      · subst h1
        have HU : Hid (ssum (l.take (i + 1)) = ssum (l.take i) + 1) := Lib.hid (by rw [HT.out]; rfl)
        have HO := Lib.hid (okn_step hx (by omega) HA.out)
        clear hx HT
        by_cases h0 : q = 0
        · subst h0
          have HE : Hid (R = false) := Lib.hid (by rw [← HR.out]; exact fl_over (i := i + 1) (by have h1 := HU.out; have h2 := HS.out; omega))
          go_wp2
          go_ret
          exact ⟨by rw [HE.out]; rfl, rfl⟩
        · have dq : decide ((q : Int) < 1) = false := decide_eq_false (by omega)
          have HS2 : Hid (ssum (l.take (i + 1)) + ((q - 1 : Nat) : Int) = s) := Lib.hid (by have h1 := HU.out; have h2 := HS.out; omega)
          have hq1 : 1 ≤ q := by omega
          go_wp2
          exact ⟨⟨i + 1, q - 1, by omega, by simp, by simp; omega, by omega, HO, HS2⟩, by simp [intOf]; omega⟩
      · have e1 : (x == -1) = false := by simp; omega
        by_cases h2 : x < 0
        · have HE : Hid (R = false) := Lib.hid (by rw [← HR.out]; exact fl_low hx (by omega))
          have dx : decide (x < 0) = true := decide_eq_true h2
          clear hx
          go_wp2
          go_ret
          exact ⟨by rw [HE.out]; rfl, rfl⟩
        · obtain ⟨m, rfl⟩ : ∃ m : Nat, x = (m : Int) := ⟨x.toNat, by omega⟩
          have HU : Hid (ssum (l.take (i + 1)) = ssum (l.take i) + (m : Int)) := Lib.hid (by rw [HT.out, sts, if_neg (by omega)])
          have HO := Lib.hid (okn_step hx (by omega) HA.out)
          clear hx HT
          by_cases h3 : q < m
          · have HE : Hid (R = false) := Lib.hid (by rw [← HR.out]; exact fl_over (i := i + 1) (by have h1 := HU.out; have h2 := HS.out; omega))
            go_wp2
            go_ret
            exact ⟨by rw [HE.out]; rfl, rfl⟩
          · have HS2 : Hid (ssum (l.take (i + 1)) + ((q - m : Nat) : Int) = s) := Lib.hid (by have h1 := HU.out; have h2 := HS.out; omega)
            go_wp2
            exact ⟨⟨i + 1, q - m, by omega, by simp, by simp; omega, by omega, HO, HS2⟩, by simp [intOf]; omega⟩
    · have HE : Hid (R = decide ((q : Int) = 0)) := Lib.hid (by rw [← HR.out]; exact fl_end HA.out (by rw [HN.out]; omega) HS.out)
      go_wp2
      go_ret
      refine ⟨?_, rfl⟩
      rw [HE.out]
      by_cases h : q = 0
      · subst h; rfl
      · rw [decide_eq_false (by omega)]
        simp [h]

end Go.Proofs.Ytpjbjbohbdlciaa
