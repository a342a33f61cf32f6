/-
  What the reference's Same of layer 7 does: it tells whether two tables are equal. Only new memory. Condition: the slices are not longer than memory allows.
  What norm.fill does: whether the states sum to a number. Nothing has changed. Condition: the numbers are in int's range, and a slice can hold them.
  What norm.Check does: which tables are valid. Only new memory. Condition: a slice can hold the norms.
  What the reference's States and May do: which tables are valid. Only new memory. Condition: a slice can hold the norms.
-/
import Derived.Test.YtnlhokfhkohdpaaGreatSa
import Derived.BigQuiet
import Derived.Deep.QuietTactic
namespace Go.Proofs.YtnlhokfhkohdpaaGreat
open Go.RowKit Go.Shelf

/-- Two tables are equal. -/
def sam (z y : Int) (l m : List Int) : Bool := decide (z = y) && decide (l = m)
theorem sam_ne {z y : Int} {l m : List Int} (h : z ≠ y) : sam z y l m = false := by simp [sam, h]
theorem sam_len {z y : Int} {l m : List Int} (h : l.length ≠ m.length) : sam z y l m = false := by
  have : l ≠ m := fun e => h (by rw [e])
  simp [sam, this]
theorem sam_at {z y : Int} {l m : List Int} {i : Nat} {a b : Int} (h1 : l[i]? = some a) (h2 : m[i]? = some b) (h : a ≠ b) : sam z y l m = false := by
  have : l ≠ m := fun e => h (by rw [e, h2] at h1; exact (Option.some.inj h1).symm)
  simp [sam, this]
theorem sam_yes {z : Int} {l m : List Int} {i : Nat} (h : l.take i = m.take i) (h1 : l.length ≤ i) (h2 : m.length ≤ i) : sam z z l m = true := by
  rw [List.take_of_length_le h1, List.take_of_length_le h2] at h
  simp [sam, h]

set_option maxRecDepth 100000 in
set_option maxHeartbeats 2000000 in
theorem rsame_any (w : World) (z y : Int) (A A2 : Option Addr) (l m : List Int) (n c n2 c2 : Nat) (hn : l.length = n) (hn2 : m.length = n2) (hb : n ≤ 1000000000) (hR : Ri w A l) (hR2 : Ri w A2 m) :
    Calls Tryz.prog 12 #[tb z A n c, tb y A2 n2 c2] w fun e w' => e = .returned (.bool (sam z y l m)) ∧ Below w.heap.size w w' := by
  obtain ⟨R, hRR⟩ : ∃ R, sam z y l m = R := ⟨_, rfl⟩
  rw [hRR]
  have HR := Lib.hid hRR
  clear hRR
  have t0 : Tb ((w.alloc (.cells #[.int .i64 z, .slice A n c] 28)).alloc (.cells #[.int .i64 y, .slice A2 n2 c2] 28)) w.heap.size z A n c := (Tb.new w z A n c).same (Below.heap_alloc _ _ _ (by simp))
  have t1 : Tb ((w.alloc (.cells #[.int .i64 z, .slice A n c] 28)).alloc (.cells #[.int .i64 y, .slice A2 n2 c2] 28)) (w.heap.size + 1) y A2 n2 c2 := by
    have := Tb.new (w.alloc (.cells #[.int .i64 z, .slice A n c] 28)) y A2 n2 c2
    rwa [World.size_alloc] at this
  have g1 : Below w.heap.size w ((w.alloc (.cells #[.int .i64 z, .slice A n c] 28)).alloc (.cells #[.int .i64 y, .slice A2 n2 c2] 28)) := ((Below.refl _ w).alloc (Nat.le_refl _) _).alloc (by simp) _
  obtain ⟨w1, hw1⟩ : ∃ w1, (w.alloc (.cells #[.int .i64 z, .slice A n c] 28)).alloc (.cells #[.int .i64 y, .slice A2 n2 c2] 28) = w1 := ⟨_, rfl⟩
  rw [hw1] at t0 t1 g1
  have a0 := t0.c0
  have a1 := t0.c1
  have b0 := t1.c0
  have b1 := t1.c1
  have G1 := Lib.hid g1
  have R1 := Lib.hid (hR.below g1)
  have R2 := Lib.hid (hR2.below g1)
  have HN := Lib.hid hn
  have HN2 := Lib.hid hn2
  clear t0 t1 g1 hR hR2 hn hn2
  by_cases hz : z = y
  · subst hz
    by_cases hl : n = n2
    · subst hl
      go_enter Tryz.func12, Tryz.ntmps12
      go_wp2
      go_loopw [5] (fun p wr => ∃ i : Nat, i ≤ n ∧ p = .int .i64 (i : Int) ∧ Hid (l.take i = m.take i) ∧ ∃ d, wr = w1.drewN d) (fun p _ => n - (intOf p).toNat)
      case atStart => exact ⟨0, Nat.zero_le _, rfl, Lib.hid (by simp), 0, rfl⟩
      case round =>
        obtain ⟨i, hi, rfl, HA, d, rfl⟩ := hrel
        by_cases hlt : i < n
        · obtain ⟨x, hx⟩ : ∃ x, l[i]? = some x := ⟨_, List.getElem?_eq_getElem (by rw [HN.out]; exact hlt)⟩
          obtain ⟨u, hu⟩ : ∃ u, m[i]? = some u := ⟨_, List.getElem?_eq_getElem (by rw [HN2.out]; exact hlt)⟩
          obtain ⟨ad, rfl, hc⟩ := R1.out i (iv x) (by rw [List.getElem?_map, hx]; rfl)
          obtain ⟨ad2, rfl, hc2⟩ := R2.out i (iv u) (by rw [List.getElem?_map, hu]; rfl)
          have wi : IntKind.i64.wrap (i : Int) = (i : Int) := IntWalk.i64_in _ (by omega)
          by_cases hxu : x = u
          · subst hxu
            have HT : Hid (l.take (i + 1) = m.take (i + 1)) := Lib.hid (by rw [take_succ_get hx, take_succ_get hu, HA.out])
            clear hx hu
            go_wp2
            go_region
            all_goals
              go_wp2
              exact ⟨⟨i + 1, by omega, by simp, HT, d + 1, rfl⟩, by simp [intOf]; omega⟩
          · have HE : Hid (R = false) := Lib.hid (by rw [← HR.out]; exact sam_at hx hu hxu)
            have hne : (x != u) = true := by simp [hxu]
            clear hx hu
            go_wp2
            go_region
            all_goals
              go_wp2
              go_ret
              exact ⟨by rw [HE.out]; rfl, below_drewN' G1.out (d + 1)⟩
        · have HE : Hid (R = true) := Lib.hid (by rw [← HR.out]; exact sam_yes HA.out (by rw [HN.out]; omega) (by rw [HN2.out]; omega))
          go_wp2
          go_ret
          exact ⟨by rw [HE.out]; rfl, below_drewN' G1.out d⟩
    · have HE : Hid (R = false) := Lib.hid (by rw [← HR.out]; exact sam_len (by rw [HN.out, HN2.out]; exact hl))
      go_enter Tryz.func12, Tryz.ntmps12
      go_wp2
      go_ret
      exact ⟨by rw [HE.out]; rfl, G1.out⟩
  · have HE : Hid (R = false) := Lib.hid (by rw [← HR.out]; exact sam_ne hz)
    go_enter Tryz.func12, Tryz.ntmps12
    go_wp2
    go_ret
    exact ⟨by rw [HE.out]; rfl, G1.out⟩

end Go.Proofs.YtnlhokfhkohdpaaGreat

namespace Go.Proofs.YtnlhokfhkohdpaaGreat
open Go.RowKit Go.Shelf

/-- The number of states of a norm; the sum of the states; norms none of which is below -1. -/
def sts (n : Int) : Int := if n = -1 then 1 else n
def ssum (l : List Int) : Int := (l.map sts).foldr (· + ·) 0
def okn (l : List Int) : Bool := l.all (fun n => decide (-1 ≤ n))
/-- The states sum to s. -/
def fl (l : List Int) (s : Int) : Bool := okn l && decide (ssum l = s)
theorem ssum_cons (x : Int) (l : List Int) : ssum (x :: l) = sts x + ssum l := rfl
theorem ssum_append (l m : List Int) : ssum (l ++ m) = ssum l + ssum m := by
  induction l with
  | nil => simp [ssum]
  | cons x l ih => rw [List.cons_append, ssum_cons, ssum_cons, ih]; omega
theorem ssum_pos {l : List Int} (h : okn l = true) : 0 ≤ ssum l := by
  induction l with
  | nil => simp [ssum]
  | cons x l ih =>
    unfold okn at h ih
    rw [List.all_cons, Bool.and_eq_true, decide_eq_true_iff] at h
    have := ih h.2
    rw [ssum_cons]
    unfold sts
    split <;> omega
theorem okn_append (l m : List Int) : okn (l ++ m) = (okn l && okn m) := by simp [okn]
theorem fl_low {l : List Int} {i : Nat} {x s : Int} (hx : l[i]? = some x) (h : x < -1) : fl l s = false := by
  unfold fl
  have : okn l = false := by
    unfold okn
    rw [List.all_eq_false]
    exact ⟨x, List.mem_of_getElem? hx, by simp; omega⟩
  rw [this]; rfl
theorem fl_over {l : List Int} {i : Nat} {s : Int} (h : s < ssum (l.take i)) : fl l s = false := by
  unfold fl
  cases ho : okn l with
  | false => rfl
  | true =>
    rw [← List.take_append_drop i l, okn_append, Bool.and_eq_true] at ho
    have h1 := ssum_pos ho.2
    have h2 := ssum_append (l.take i) (l.drop i)
    rw [List.take_append_drop] at h2
    simp
    omega
theorem ssum_step {l : List Int} {i : Nat} {x : Int} (hx : l[i]? = some x) : ssum (l.take (i + 1)) = ssum (l.take i) + sts x := by
  rw [take_succ_get hx, ssum_append, ssum_cons]; simp [ssum]
theorem okn_step {l : List Int} {i : Nat} {x : Int} (hx : l[i]? = some x) (h : -1 ≤ x) (ho : okn (l.take i) = true) : okn (l.take (i + 1)) = true := by
  rw [take_succ_get hx, okn_append, ho]; simp [okn, h]
theorem fl_end {l : List Int} {i : Nat} {s q : Int} (ho : okn (l.take i) = true) (hi : l.length ≤ i) (hq : ssum (l.take i) + q = s) : fl l s = decide (q = 0) := by
  rw [List.take_of_length_le hi] at ho hq
  unfold fl
  rw [ho, Bool.true_and]
  by_cases h : q = 0
  · rw [decide_eq_true h, decide_eq_true (by omega)]
  · rw [decide_eq_false h, decide_eq_false (by omega)]

set_option maxRecDepth 100000 in
set_option maxHeartbeats 2000000 in
theorem fill_any (w : World) (A : Option Addr) (l : List Int) (N c s : Nat) (hN : l.length = N) (hb : N ≤ 1000000000) (hs : s ≤ 1000000) (hR : Ri w A l) :
    Calls Tryz.prog 79 #[.slice A N c, .int .i64 (s : Int)] w fun e w' => e = .returned (.bool (fl l s)) ∧ w' = w := by
  obtain ⟨R, hRR⟩ : ∃ R, fl l s = R := ⟨_, rfl⟩
  rw [hRR]
  have HR := Lib.hid hRR
  have HN := Lib.hid hN
  have HRD := Lib.hid hR
  clear hRR hN hR
  go_enter Tryz.func79, Tryz.ntmps79
  go_wp2
  go_loop [1, 9] (fun t p => ∃ i q : Nat, i ≤ N ∧ p = .int .i64 (i : Int) ∧ t = .int .i64 (q : Int) ∧ q ≤ s ∧ Hid (okn (l.take i) = true) ∧ Hid (ssum (l.take i) + q = s)) (fun _ p => N - (intOf p).toNat)
  case atStart => exact ⟨0, s, Nat.zero_le _, rfl, rfl, Nat.le_refl _, Lib.hid (by simp [okn]), Lib.hid (by simp [ssum])⟩
  case round =>
    obtain ⟨i, q, hi, rfl, rfl, hq, HA, HS⟩ := hrel
    by_cases hlt : i < N
    · obtain ⟨x, hx⟩ : ∃ x, l[i]? = some x := ⟨_, List.getElem?_eq_getElem (by rw [HN.out]; exact hlt)⟩
      obtain ⟨ad, hA, hc⟩ := HRD.out i (iv x) (by rw [List.getElem?_map, hx]; rfl)
      subst hA
      have HT := Lib.hid (ssum_step hx)
      by_cases h1 : x = -1
      · subst h1
        have HU : Hid (ssum (l.take (i + 1)) = ssum (l.take i) + 1) := Lib.hid (by rw [HT.out]; rfl)
        have HO := Lib.hid (okn_step hx (by omega) HA.out)
        clear hx HT
        by_cases h0 : q = 0
        · subst h0
          have HE : Hid (R = false) := Lib.hid (by rw [← HR.out]; exact fl_over (i := i + 1) (by have h1 := HU.out; have h2 := HS.out; omega))
          go_wp2
          go_ret
          exact ⟨by rw [HE.out]; rfl, rfl⟩
        · have dq : decide ((q : Int) < 1) = false := decide_eq_false (by omega)
          have HS2 : Hid (ssum (l.take (i + 1)) + ((q - 1 : Nat) : Int) = s) := Lib.hid (by have h1 := HU.out; have h2 := HS.out; omega)
          have hq1 : 1 ≤ q := by omega
          go_wp2
          exact ⟨⟨i + 1, q - 1, by omega, by simp, by simp; omega, by omega, HO, HS2⟩, by simp [intOf]; omega⟩
      · have e1 : (x == -1) = false := by simp; omega
        by_cases h2 : x < 0
        · have HE : Hid (R = false) := Lib.hid (by rw [← HR.out]; exact fl_low hx (by omega))
          have dx : decide (x < 0) = true := decide_eq_true h2
          clear hx
          go_wp2
          go_ret
          exact ⟨by rw [HE.out]; rfl, rfl⟩
        · obtain ⟨m, rfl⟩ : ∃ m : Nat, x = (m : Int) := ⟨x.toNat, by omega⟩
          have HU : Hid (ssum (l.take (i + 1)) = ssum (l.take i) + (m : Int)) := Lib.hid (by rw [HT.out, sts, if_neg (by omega)])
          have HO := Lib.hid (okn_step hx (by omega) HA.out)
          clear hx HT
          by_cases h3 : q < m
          · have HE : Hid (R = false) := Lib.hid (by rw [← HR.out]; exact fl_over (i := i + 1) (by have h1 := HU.out; have h2 := HS.out; omega))
            go_wp2
            go_ret
            exact ⟨by rw [HE.out]; rfl, rfl⟩
          · have HS2 : Hid (ssum (l.take (i + 1)) + ((q - m : Nat) : Int) = s) := Lib.hid (by have h1 := HU.out; have h2 := HS.out; omega)
            go_wp2
            exact ⟨⟨i + 1, q - m, by omega, by simp, by simp; omega, by omega, HO, HS2⟩, by simp [intOf]; omega⟩
    · have HE : Hid (R = decide ((q : Int) = 0)) := Lib.hid (by rw [← HR.out]; exact fl_end HA.out (by rw [HN.out]; omega) HS.out)
      go_wp2
      go_ret
      refine ⟨?_, rfl⟩
      rw [HE.out]
      by_cases h : q = 0
      · subst h; rfl
      · rw [decide_eq_false (by omega)]
        simp [h]

end Go.Proofs.YtnlhokfhkohdpaaGreat

namespace Go.Proofs.YtnlhokfhkohdpaaGreat
open Go.RowKit Go.Shelf

/-- Which tables are valid. -/
def vt (y : Int) (l : List Int) (sy lg : Int) : Bool :=
  decide (0 ≤ y) && decide (y ≤ lg) && decide (y ≤ 9) && decide (1 ≤ l.length) && decide ((l.length : Int) ≤ sy) && decide (l.getLast? ≠ some 0) && fl l (2 ^ y.toNat)
def err (b : Bool) : Int := if b then 0 else 13
theorem vt_of {y : Int} {l : List Int} {sy lg : Int} (h1 : 0 ≤ y) (h2 : y ≤ lg) (h3 : y ≤ 9) (h4 : 1 ≤ l.length) (h5 : (l.length : Int) ≤ sy) (h6 : l.getLast? ≠ some 0) : vt y l sy lg = fl l (2 ^ y.toNat) := by
  unfold vt
  rw [decide_eq_true h1, decide_eq_true h2, decide_eq_true h3, decide_eq_true h4, decide_eq_true h5, decide_eq_true h6]
  rfl
theorem vt_no {y : Int} {l : List Int} {sy lg : Int} (h : y < 0 ∨ lg < y ∨ 9 < y ∨ l.length = 0 ∨ sy < l.length ∨ l.getLast? = some 0) : vt y l sy lg = false := by
  unfold vt
  rcases h with h | h | h | h | h | h
  · rw [decide_eq_false (show ¬ 0 ≤ y by omega)]; rfl
  · rw [decide_eq_false (show ¬ y ≤ lg by omega)]; simp
  · rw [decide_eq_false (show ¬ y ≤ 9 by omega)]; simp
  · rw [decide_eq_false (show ¬ 1 ≤ l.length by omega)]; simp
  · rw [decide_eq_false (show ¬ (l.length : Int) ≤ sy by omega)]; simp
  · rw [decide_eq_false (show ¬ l.getLast? ≠ some 0 by simp [h])]; simp


set_option maxRecDepth 100000 in
set_option maxHeartbeats 2000000 in
theorem check_1 (w : World) (y sy lg : Int) (A : Option Addr) (l : List Int) (n c : Nat) (hn : l.length = n) (hb : n ≤ 1000000000) (hR : Ri w A l) (h : y < 0) :
    Calls Tryz.prog 50 #[tb y A n c, .int .i64 sy, .int .i64 lg] w fun e w' => e = .returned (.int .i64 (err (vt y l sy lg))) ∧ Below w.heap.size w w' := by
  obtain ⟨R, hRR⟩ : ∃ R, err (vt y l sy lg) = R := ⟨_, rfl⟩
  rw [hRR]
  have HE : Hid (R = 13) := Lib.hid (by rw [← hRR]; rw [vt_no (.inl h)]; rfl)
  have t1 := Tb.new w y A n c
  have g1 : Below w.heap.size w (w.alloc (.cells #[.int .i64 y, .slice A n c] 28)) := (Below.refl _ w).alloc (Nat.le_refl _) _
  obtain ⟨w1, hw1⟩ : ∃ w1, w.alloc (.cells #[.int .i64 y, .slice A n c] 28) = w1 := ⟨_, rfl⟩
  rw [hw1] at t1 g1
  have c0 := t1.c0
  have c1 := t1.c1
  have G1 := Lib.hid g1
  have R1 := Lib.hid (hR.below g1)
  have HN := Lib.hid hn
  have hb2 := hb
  have d1 : decide (y < 0) = true := decide_eq_true h
  clear t1 g1 hR hn hRR
  go_enter Tryz.func50, Tryz.ntmps50
  go_wp2
  go_ret
  exact ⟨by rw [HE.out]; rfl, G1.out⟩

set_option maxRecDepth 100000 in
set_option maxHeartbeats 2000000 in
theorem check_2l (w : World) (y sy lg : Int) (A : Option Addr) (l : List Int) (n c : Nat) (hn : l.length = n) (hb : n ≤ 1000000000) (hR : Ri w A l) (hl : lg ≤ 9) (h0 : 0 ≤ y) (h : lg < y) :
    Calls Tryz.prog 50 #[tb y A n c, .int .i64 sy, .int .i64 lg] w fun e w' => e = .returned (.int .i64 (err (vt y l sy lg))) ∧ Below w.heap.size w w' := by
  obtain ⟨R, hRR⟩ : ∃ R, err (vt y l sy lg) = R := ⟨_, rfl⟩
  rw [hRR]
  have HE : Hid (R = 13) := Lib.hid (by rw [← hRR]; rw [vt_no (by omega)]; rfl)
  have t1 := Tb.new w y A n c
  have g1 : Below w.heap.size w (w.alloc (.cells #[.int .i64 y, .slice A n c] 28)) := (Below.refl _ w).alloc (Nat.le_refl _) _
  obtain ⟨w1, hw1⟩ : ∃ w1, w.alloc (.cells #[.int .i64 y, .slice A n c] 28) = w1 := ⟨_, rfl⟩
  rw [hw1] at t1 g1
  have c0 := t1.c0
  have c1 := t1.c1
  have G1 := Lib.hid g1
  have R1 := Lib.hid (hR.below g1)
  have HN := Lib.hid hn
  have hb2 := hb
  have h02 := h0
  have d1 : decide (y < 0) = false := decide_eq_false (by omega)
  have d2 : decide (lg < y) = true := decide_eq_true h
  clear t1 g1 hR hn hRR
  go_enter Tryz.func50, Tryz.ntmps50
  go_wp2
  go_ret
  exact ⟨by rw [HE.out]; rfl, G1.out⟩

set_option maxRecDepth 100000 in
set_option maxHeartbeats 2000000 in
theorem check_2g (w : World) (y sy lg : Int) (A : Option Addr) (l : List Int) (n c : Nat) (hn : l.length = n) (hb : n ≤ 1000000000) (hR : Ri w A l) (hl : 9 < lg) (h0 : 0 ≤ y) (h : 9 < y) :
    Calls Tryz.prog 50 #[tb y A n c, .int .i64 sy, .int .i64 lg] w fun e w' => e = .returned (.int .i64 (err (vt y l sy lg))) ∧ Below w.heap.size w w' := by
  obtain ⟨R, hRR⟩ : ∃ R, err (vt y l sy lg) = R := ⟨_, rfl⟩
  rw [hRR]
  have HE : Hid (R = 13) := Lib.hid (by rw [← hRR]; rw [vt_no (by omega)]; rfl)
  have t1 := Tb.new w y A n c
  have g1 : Below w.heap.size w (w.alloc (.cells #[.int .i64 y, .slice A n c] 28)) := (Below.refl _ w).alloc (Nat.le_refl _) _
  obtain ⟨w1, hw1⟩ : ∃ w1, w.alloc (.cells #[.int .i64 y, .slice A n c] 28) = w1 := ⟨_, rfl⟩
  rw [hw1] at t1 g1
  have c0 := t1.c0
  have c1 := t1.c1
  have G1 := Lib.hid g1
  have R1 := Lib.hid (hR.below g1)
  have HN := Lib.hid hn
  have hb2 := hb
  have h02 := h0
  have d1 : decide (y < 0) = false := decide_eq_false (by omega)
  have d2 : decide (9 < y) = true := decide_eq_true h
  clear t1 g1 hR hn hRR
  go_enter Tryz.func50, Tryz.ntmps50
  go_wp2
  go_ret
  exact ⟨by rw [HE.out]; rfl, G1.out⟩

set_option maxRecDepth 100000 in
set_option maxHeartbeats 2000000 in
theorem check_3l (w : World) (y sy lg : Int) (A : Option Addr) (l : List Int) (n c : Nat) (hn : l.length = n) (hb : n ≤ 1000000000) (hR : Ri w A l) (hl : lg ≤ 9) (h0 : 0 ≤ y) (h9 : y ≤ lg) (h : n = 0) :
    Calls Tryz.prog 50 #[tb y A n c, .int .i64 sy, .int .i64 lg] w fun e w' => e = .returned (.int .i64 (err (vt y l sy lg))) ∧ Below w.heap.size w w' := by
  obtain ⟨R, hRR⟩ : ∃ R, err (vt y l sy lg) = R := ⟨_, rfl⟩
  rw [hRR]
  have HE : Hid (R = 13) := Lib.hid (by rw [← hRR]; rw [vt_no (.inr (.inr (.inr (.inl (by omega)))))]; rfl)
  have t1 := Tb.new w y A n c
  have g1 : Below w.heap.size w (w.alloc (.cells #[.int .i64 y, .slice A n c] 28)) := (Below.refl _ w).alloc (Nat.le_refl _) _
  obtain ⟨w1, hw1⟩ : ∃ w1, w.alloc (.cells #[.int .i64 y, .slice A n c] 28) = w1 := ⟨_, rfl⟩
  rw [hw1] at t1 g1
  have c0 := t1.c0
  have c1 := t1.c1
  have G1 := Lib.hid g1
  have R1 := Lib.hid (hR.below g1)
  have HN := Lib.hid hn
  have hb2 := hb
  have d1 : decide (y < 0) = false := decide_eq_false (by omega)
  have hy9 : y ≤ 9 := by omega
  have d2 : decide (lg < y) = false := decide_eq_false (by omega)
  subst h
  have dm : decide ((-1 : Int) < 0) = true := by decide
  clear t1 g1 hR hn hRR
  go_enter Tryz.func50, Tryz.ntmps50
  go_wp2
  go_quiet (fail)
  go_wp2
  go_ret
  exact ⟨by rw [HE.out]; rfl, below_drewN' G1.out _⟩

set_option maxRecDepth 100000 in
set_option maxHeartbeats 2000000 in
theorem check_3g (w : World) (y sy lg : Int) (A : Option Addr) (l : List Int) (n c : Nat) (hn : l.length = n) (hb : n ≤ 1000000000) (hR : Ri w A l) (hl : 9 < lg) (h0 : 0 ≤ y) (h9 : y ≤ 9) (h : n = 0) :
    Calls Tryz.prog 50 #[tb y A n c, .int .i64 sy, .int .i64 lg] w fun e w' => e = .returned (.int .i64 (err (vt y l sy lg))) ∧ Below w.heap.size w w' := by
  obtain ⟨R, hRR⟩ : ∃ R, err (vt y l sy lg) = R := ⟨_, rfl⟩
  rw [hRR]
  have HE : Hid (R = 13) := Lib.hid (by rw [← hRR]; rw [vt_no (.inr (.inr (.inr (.inl (by omega)))))]; rfl)
  have t1 := Tb.new w y A n c
  have g1 : Below w.heap.size w (w.alloc (.cells #[.int .i64 y, .slice A n c] 28)) := (Below.refl _ w).alloc (Nat.le_refl _) _
  obtain ⟨w1, hw1⟩ : ∃ w1, w.alloc (.cells #[.int .i64 y, .slice A n c] 28) = w1 := ⟨_, rfl⟩
  rw [hw1] at t1 g1
  have c0 := t1.c0
  have c1 := t1.c1
  have G1 := Lib.hid g1
  have R1 := Lib.hid (hR.below g1)
  have HN := Lib.hid hn
  have hb2 := hb
  have d1 : decide (y < 0) = false := decide_eq_false (by omega)
  have hy9 : y ≤ 9 := by omega
  have d2 : decide (9 < y) = false := decide_eq_false (by omega)
  subst h
  have dm : decide ((-1 : Int) < 0) = true := by decide
  clear t1 g1 hR hn hRR
  go_enter Tryz.func50, Tryz.ntmps50
  go_wp2
  go_quiet (fail)
  go_wp2
  go_ret
  exact ⟨by rw [HE.out]; rfl, below_drewN' G1.out _⟩

set_option maxRecDepth 100000 in
set_option maxHeartbeats 2000000 in
theorem check_4l (w : World) (y sy lg : Int) (A : Option Addr) (l : List Int) (n c : Nat) (hn : l.length = n) (hb : n ≤ 1000000000) (hR : Ri w A l) (hl : lg ≤ 9) (h0 : 0 ≤ y) (h9 : y ≤ lg) (h1 : 0 < n) (h : sy < n) :
    Calls Tryz.prog 50 #[tb y A n c, .int .i64 sy, .int .i64 lg] w fun e w' => e = .returned (.int .i64 (err (vt y l sy lg))) ∧ Below w.heap.size w w' := by
  obtain ⟨R, hRR⟩ : ∃ R, err (vt y l sy lg) = R := ⟨_, rfl⟩
  rw [hRR]
  have HE : Hid (R = 13) := Lib.hid (by rw [← hRR]; rw [vt_no (.inr (.inr (.inr (.inr (.inl (by omega))))))]; rfl)
  have t1 := Tb.new w y A n c
  have g1 : Below w.heap.size w (w.alloc (.cells #[.int .i64 y, .slice A n c] 28)) := (Below.refl _ w).alloc (Nat.le_refl _) _
  obtain ⟨w1, hw1⟩ : ∃ w1, w.alloc (.cells #[.int .i64 y, .slice A n c] 28) = w1 := ⟨_, rfl⟩
  rw [hw1] at t1 g1
  have c0 := t1.c0
  have c1 := t1.c1
  have G1 := Lib.hid g1
  have R1 := Lib.hid (hR.below g1)
  have HN := Lib.hid hn
  have hb2 := hb
  have d1 : decide (y < 0) = false := decide_eq_false (by omega)
  have hy9 : y ≤ 9 := by omega
  have d2 : decide (lg < y) = false := decide_eq_false (by omega)
  have dl : decide ((n : Int) - 1 < 0) = false := decide_eq_false (by omega)
  have ds : decide (sy ≤ (n : Int) - 1) = true := decide_eq_true (by omega)
  clear t1 g1 hR hn hRR
  go_enter Tryz.func50, Tryz.ntmps50
  go_wp2
  go_quiet (fail)
  go_wp2
  go_ret
  exact ⟨by rw [HE.out]; rfl, below_drewN' G1.out _⟩

set_option maxRecDepth 100000 in
set_option maxHeartbeats 2000000 in
theorem check_4g (w : World) (y sy lg : Int) (A : Option Addr) (l : List Int) (n c : Nat) (hn : l.length = n) (hb : n ≤ 1000000000) (hR : Ri w A l) (hl : 9 < lg) (h0 : 0 ≤ y) (h9 : y ≤ 9) (h1 : 0 < n) (h : sy < n) :
    Calls Tryz.prog 50 #[tb y A n c, .int .i64 sy, .int .i64 lg] w fun e w' => e = .returned (.int .i64 (err (vt y l sy lg))) ∧ Below w.heap.size w w' := by
  obtain ⟨R, hRR⟩ : ∃ R, err (vt y l sy lg) = R := ⟨_, rfl⟩
  rw [hRR]
  have HE : Hid (R = 13) := Lib.hid (by rw [← hRR]; rw [vt_no (.inr (.inr (.inr (.inr (.inl (by omega))))))]; rfl)
  have t1 := Tb.new w y A n c
  have g1 : Below w.heap.size w (w.alloc (.cells #[.int .i64 y, .slice A n c] 28)) := (Below.refl _ w).alloc (Nat.le_refl _) _
  obtain ⟨w1, hw1⟩ : ∃ w1, w.alloc (.cells #[.int .i64 y, .slice A n c] 28) = w1 := ⟨_, rfl⟩
  rw [hw1] at t1 g1
  have c0 := t1.c0
  have c1 := t1.c1
  have G1 := Lib.hid g1
  have R1 := Lib.hid (hR.below g1)
  have HN := Lib.hid hn
  have hb2 := hb
  have d1 : decide (y < 0) = false := decide_eq_false (by omega)
  have hy9 : y ≤ 9 := by omega
  have d2 : decide (9 < y) = false := decide_eq_false (by omega)
  have dl : decide ((n : Int) - 1 < 0) = false := decide_eq_false (by omega)
  have ds : decide (sy ≤ (n : Int) - 1) = true := decide_eq_true (by omega)
  clear t1 g1 hR hn hRR
  go_enter Tryz.func50, Tryz.ntmps50
  go_wp2
  go_quiet (fail)
  go_wp2
  go_ret
  exact ⟨by rw [HE.out]; rfl, below_drewN' G1.out _⟩

set_option maxRecDepth 100000 in
set_option maxHeartbeats 2000000 in
theorem check_5l (w : World) (y sy lg : Int) (A : Option Addr) (l : List Int) (n c : Nat) (hn : l.length = n) (hb : n ≤ 1000000000) (hR : Ri w A l) (hl : lg ≤ 9) (h0 : 0 ≤ y) (h9 : y ≤ lg) (h1 : 0 < n) (hs : (n : Int) ≤ sy) (h : l.getLast? = some 0) :
    Calls Tryz.prog 50 #[tb y A n c, .int .i64 sy, .int .i64 lg] w fun e w' => e = .returned (.int .i64 (err (vt y l sy lg))) ∧ Below w.heap.size w w' := by
  obtain ⟨R, hRR⟩ : ∃ R, err (vt y l sy lg) = R := ⟨_, rfl⟩
  rw [hRR]
  have HE : Hid (R = 13) := Lib.hid (by rw [← hRR]; rw [vt_no (.inr (.inr (.inr (.inr (.inr h)))))]; rfl)
  have t1 := Tb.new w y A n c
  have g1 : Below w.heap.size w (w.alloc (.cells #[.int .i64 y, .slice A n c] 28)) := (Below.refl _ w).alloc (Nat.le_refl _) _
  obtain ⟨w1, hw1⟩ : ∃ w1, w.alloc (.cells #[.int .i64 y, .slice A n c] 28) = w1 := ⟨_, rfl⟩
  rw [hw1] at t1 g1
  have c0 := t1.c0
  have c1 := t1.c1
  have G1 := Lib.hid g1
  have R1 := Lib.hid (hR.below g1)
  have HN := Lib.hid hn
  have hb2 := hb
  have d1 : decide (y < 0) = false := decide_eq_false (by omega)
  have hy9 : y ≤ 9 := by omega
  have d2 : decide (lg < y) = false := decide_eq_false (by omega)
  obtain ⟨m, rfl⟩ : ∃ m, n = m + 1 := ⟨n - 1, by omega⟩
  have hm : ((m + 1 : Nat) : Int) - 1 = (m : Int) := by omega
  obtain ⟨x, hx⟩ : ∃ x, l[m]? = some x := ⟨_, List.getElem?_eq_getElem (by omega)⟩
  have hgl : l.getLast? = some x := by rw [List.getLast?_eq_getElem?, hn]; exact hx
  obtain ⟨ad, rfl, hcx⟩ := R1.out m (iv x) (by rw [List.getElem?_map, hx]; rfl)
  have dl : decide ((m : Int) < 0) = false := decide_eq_false (by omega)
  have ds : decide (sy ≤ (m : Int)) = false := decide_eq_false (by omega)
  have wm : IntKind.i64.wrap (m : Int) = (m : Int) := IntWalk.i64_in _ (by omega)
  rw [h] at hgl
  obtain rfl := Option.some.inj hgl
  clear hx hgl h
  clear t1 g1 hR hn hRR
  go_enter Tryz.func50, Tryz.ntmps50
  go_wp2
  go_quiet (fail)
  go_wp2
  go_ret
  exact ⟨by rw [HE.out]; rfl, below_drewN' G1.out _⟩

set_option maxRecDepth 100000 in
set_option maxHeartbeats 2000000 in
theorem check_5g (w : World) (y sy lg : Int) (A : Option Addr) (l : List Int) (n c : Nat) (hn : l.length = n) (hb : n ≤ 1000000000) (hR : Ri w A l) (hl : 9 < lg) (h0 : 0 ≤ y) (h9 : y ≤ 9) (h1 : 0 < n) (hs : (n : Int) ≤ sy) (h : l.getLast? = some 0) :
    Calls Tryz.prog 50 #[tb y A n c, .int .i64 sy, .int .i64 lg] w fun e w' => e = .returned (.int .i64 (err (vt y l sy lg))) ∧ Below w.heap.size w w' := by
  obtain ⟨R, hRR⟩ : ∃ R, err (vt y l sy lg) = R := ⟨_, rfl⟩
  rw [hRR]
  have HE : Hid (R = 13) := Lib.hid (by rw [← hRR]; rw [vt_no (.inr (.inr (.inr (.inr (.inr h)))))]; rfl)
  have t1 := Tb.new w y A n c
  have g1 : Below w.heap.size w (w.alloc (.cells #[.int .i64 y, .slice A n c] 28)) := (Below.refl _ w).alloc (Nat.le_refl _) _
  obtain ⟨w1, hw1⟩ : ∃ w1, w.alloc (.cells #[.int .i64 y, .slice A n c] 28) = w1 := ⟨_, rfl⟩
  rw [hw1] at t1 g1
  have c0 := t1.c0
  have c1 := t1.c1
  have G1 := Lib.hid g1
  have R1 := Lib.hid (hR.below g1)
  have HN := Lib.hid hn
  have hb2 := hb
  have d1 : decide (y < 0) = false := decide_eq_false (by omega)
  have hy9 : y ≤ 9 := by omega
  have d2 : decide (9 < y) = false := decide_eq_false (by omega)
  obtain ⟨m, rfl⟩ : ∃ m, n = m + 1 := ⟨n - 1, by omega⟩
  have hm : ((m + 1 : Nat) : Int) - 1 = (m : Int) := by omega
  obtain ⟨x, hx⟩ : ∃ x, l[m]? = some x := ⟨_, List.getElem?_eq_getElem (by omega)⟩
  have hgl : l.getLast? = some x := by rw [List.getLast?_eq_getElem?, hn]; exact hx
  obtain ⟨ad, rfl, hcx⟩ := R1.out m (iv x) (by rw [List.getElem?_map, hx]; rfl)
  have dl : decide ((m : Int) < 0) = false := decide_eq_false (by omega)
  have ds : decide (sy ≤ (m : Int)) = false := decide_eq_false (by omega)
  have wm : IntKind.i64.wrap (m : Int) = (m : Int) := IntWalk.i64_in _ (by omega)
  rw [h] at hgl
  obtain rfl := Option.some.inj hgl
  clear hx hgl h
  clear t1 g1 hR hn hRR
  go_enter Tryz.func50, Tryz.ntmps50
  go_wp2
  go_quiet (fail)
  go_wp2
  go_ret
  exact ⟨by rw [HE.out]; rfl, below_drewN' G1.out _⟩

set_option maxRecDepth 100000 in
set_option maxHeartbeats 2000000 in
theorem check_6l (w : World) (y sy lg : Int) (A : Option Addr) (l : List Int) (n c : Nat) (hn : l.length = n) (hb : n ≤ 1000000000) (hR : Ri w A l) (hl : lg ≤ 9) (h0 : 0 ≤ y) (h9 : y ≤ lg) (h1 : 0 < n) (hs : (n : Int) ≤ sy) (h : l.getLast? ≠ some 0) :
    Calls Tryz.prog 50 #[tb y A n c, .int .i64 sy, .int .i64 lg] w fun e w' => e = .returned (.int .i64 (err (vt y l sy lg))) ∧ Below w.heap.size w w' := by
  obtain ⟨R, hRR⟩ : ∃ R, err (vt y l sy lg) = R := ⟨_, rfl⟩
  rw [hRR]
  have HE : Hid (R = err (fl l (2 ^ y.toNat))) := Lib.hid (by rw [← hRR]; rw [vt_of h0 (by omega) (by omega) (by omega) (by omega) h])
  have t1 := Tb.new w y A n c
  have g1 : Below w.heap.size w (w.alloc (.cells #[.int .i64 y, .slice A n c] 28)) := (Below.refl _ w).alloc (Nat.le_refl _) _
  obtain ⟨w1, hw1⟩ : ∃ w1, w.alloc (.cells #[.int .i64 y, .slice A n c] 28) = w1 := ⟨_, rfl⟩
  rw [hw1] at t1 g1
  have c0 := t1.c0
  have c1 := t1.c1
  have G1 := Lib.hid g1
  have R1 := Lib.hid (hR.below g1)
  have HN := Lib.hid hn
  have hb2 := hb
  have d1 : decide (y < 0) = false := decide_eq_false (by omega)
  have hy9 : y ≤ 9 := by omega
  have d2 : decide (lg < y) = false := decide_eq_false (by omega)
  obtain ⟨m, rfl⟩ : ∃ m, n = m + 1 := ⟨n - 1, by omega⟩
  have hm : ((m + 1 : Nat) : Int) - 1 = (m : Int) := by omega
  obtain ⟨x, hx⟩ : ∃ x, l[m]? = some x := ⟨_, List.getElem?_eq_getElem (by omega)⟩
  have hgl : l.getLast? = some x := by rw [List.getLast?_eq_getElem?, hn]; exact hx
  obtain ⟨ad, rfl, hcx⟩ := R1.out m (iv x) (by rw [List.getElem?_map, hx]; rfl)
  have dl : decide ((m : Int) < 0) = false := decide_eq_false (by omega)
  have ds : decide (sy ≤ (m : Int)) = false := decide_eq_false (by omega)
  have wm : IntKind.i64.wrap (m : Int) = (m : Int) := IntWalk.i64_in _ (by omega)
  have hxz : (x == 0) = false := by
    rw [hgl] at h
    simp
    rintro rfl
    exact h rfl
  obtain ⟨k, rfl⟩ : ∃ k : Nat, y = (k : Int) := ⟨y.toNat, by omega⟩
  obtain ⟨s, hse⟩ : ∃ s, 2 ^ k = s := ⟨_, rfl⟩
  have hk64 : k ≤ 64 := by omega
  have hs5 : s ≤ 512 := by rw [← hse]; exact pow_le (by omega)
  have hs6 : s ≤ 1000000 := Nat.le_trans hs5 (by decide)
  have kb : decide ((k : Int) < 0) = false := decide_eq_false (by omega)
  have hwS : IntKind.i64.wrap (s : Int) = (s : Int) := IntWalk.i64_in _ (by omega)
  have hsh : wrap64 (2 ^ k) = (s : Int) := pow_wrap hse hs5
  have hp2 : (2 : Int) ^ k = (s : Int) := by rw [← hse]; exact (Int.natCast_pow 2 k).symm
  have hsi : IntKind.i64.wrap (2 ^ k) = (s : Int) := by rw [hp2]; exact hwS
  have hsm : IntKind.i64.wrap (2 ^ min k 64) = (s : Int) := by rw [Nat.min_eq_left hk64]; exact hsi
  obtain ⟨F, hF⟩ : ∃ F, fl l (s : Int) = F := ⟨_, rfl⟩
  have HEF : Hid (R = err F) := Lib.hid (by
    rw [HE.out, ← hF, Int.toNat_natCast, hp2])
  have FL : Hid (∀ d, Calls Tryz.prog 79 #[.slice (some ad) (m + 1) c, .int .i64 (s : Int)] (w1.drewN d) fun e w' => e = .returned (.bool F) ∧ w' = w1.drewN d) := Lib.hid (fun d => by
    have := fill_any (w1.drewN d) (some ad) l (m + 1) c s hn hb hs6 (Rv.same R1.out (fun _ _ => rfl))
    rw [hF] at this
    exact this)
  clear hx hgl h hse hF hp2
  clear t1 g1 hR hn hRR
  go_enter Tryz.func50, Tryz.ntmps50
  cases F with
  | true =>
    go_wp2
    go_quiet ((go_at_call 79; exact Calls.quiet_of_same (FL.out _)))
    go_wp2
    go_ret
    exact ⟨by rw [HEF.out]; rfl, below_drewN' G1.out _⟩
  | false =>
    go_wp2
    go_quiet ((go_at_call 79; exact Calls.quiet_of_same (FL.out _)))
    go_wp2
    go_ret
    exact ⟨by rw [HEF.out]; rfl, below_drewN' G1.out _⟩

set_option maxRecDepth 100000 in
set_option maxHeartbeats 2000000 in
theorem check_6g (w : World) (y sy lg : Int) (A : Option Addr) (l : List Int) (n c : Nat) (hn : l.length = n) (hb : n ≤ 1000000000) (hR : Ri w A l) (hl : 9 < lg) (h0 : 0 ≤ y) (h9 : y ≤ 9) (h1 : 0 < n) (hs : (n : Int) ≤ sy) (h : l.getLast? ≠ some 0) :
    Calls Tryz.prog 50 #[tb y A n c, .int .i64 sy, .int .i64 lg] w fun e w' => e = .returned (.int .i64 (err (vt y l sy lg))) ∧ Below w.heap.size w w' := by
  obtain ⟨R, hRR⟩ : ∃ R, err (vt y l sy lg) = R := ⟨_, rfl⟩
  rw [hRR]
  have HE : Hid (R = err (fl l (2 ^ y.toNat))) := Lib.hid (by rw [← hRR]; rw [vt_of h0 (by omega) (by omega) (by omega) (by omega) h])
  have t1 := Tb.new w y A n c
  have g1 : Below w.heap.size w (w.alloc (.cells #[.int .i64 y, .slice A n c] 28)) := (Below.refl _ w).alloc (Nat.le_refl _) _
  obtain ⟨w1, hw1⟩ : ∃ w1, w.alloc (.cells #[.int .i64 y, .slice A n c] 28) = w1 := ⟨_, rfl⟩
  rw [hw1] at t1 g1
  have c0 := t1.c0
  have c1 := t1.c1
  have G1 := Lib.hid g1
  have R1 := Lib.hid (hR.below g1)
  have HN := Lib.hid hn
  have hb2 := hb
  have d1 : decide (y < 0) = false := decide_eq_false (by omega)
  have hy9 : y ≤ 9 := by omega
  have d2 : decide (9 < y) = false := decide_eq_false (by omega)
  obtain ⟨m, rfl⟩ : ∃ m, n = m + 1 := ⟨n - 1, by omega⟩
  have hm : ((m + 1 : Nat) : Int) - 1 = (m : Int) := by omega
  obtain ⟨x, hx⟩ : ∃ x, l[m]? = some x := ⟨_, List.getElem?_eq_getElem (by omega)⟩
  have hgl : l.getLast? = some x := by rw [List.getLast?_eq_getElem?, hn]; exact hx
  obtain ⟨ad, rfl, hcx⟩ := R1.out m (iv x) (by rw [List.getElem?_map, hx]; rfl)
  have dl : decide ((m : Int) < 0) = false := decide_eq_false (by omega)
  have ds : decide (sy ≤ (m : Int)) = false := decide_eq_false (by omega)
  have wm : IntKind.i64.wrap (m : Int) = (m : Int) := IntWalk.i64_in _ (by omega)
  have hxz : (x == 0) = false := by
    rw [hgl] at h
    simp
    rintro rfl
    exact h rfl
  obtain ⟨k, rfl⟩ : ∃ k : Nat, y = (k : Int) := ⟨y.toNat, by omega⟩
  obtain ⟨s, hse⟩ : ∃ s, 2 ^ k = s := ⟨_, rfl⟩
  have hk64 : k ≤ 64 := by omega
  have hs5 : s ≤ 512 := by rw [← hse]; exact pow_le (by omega)
  have hs6 : s ≤ 1000000 := Nat.le_trans hs5 (by decide)
  have kb : decide ((k : Int) < 0) = false := decide_eq_false (by omega)
  have hwS : IntKind.i64.wrap (s : Int) = (s : Int) := IntWalk.i64_in _ (by omega)
  have hsh : wrap64 (2 ^ k) = (s : Int) := pow_wrap hse hs5
  have hp2 : (2 : Int) ^ k = (s : Int) := by rw [← hse]; exact (Int.natCast_pow 2 k).symm
  have hsi : IntKind.i64.wrap (2 ^ k) = (s : Int) := by rw [hp2]; exact hwS
  have hsm : IntKind.i64.wrap (2 ^ min k 64) = (s : Int) := by rw [Nat.min_eq_left hk64]; exact hsi
  obtain ⟨F, hF⟩ : ∃ F, fl l (s : Int) = F := ⟨_, rfl⟩
  have HEF : Hid (R = err F) := Lib.hid (by
    rw [HE.out, ← hF, Int.toNat_natCast, hp2])
  have FL : Hid (∀ d, Calls Tryz.prog 79 #[.slice (some ad) (m + 1) c, .int .i64 (s : Int)] (w1.drewN d) fun e w' => e = .returned (.bool F) ∧ w' = w1.drewN d) := Lib.hid (fun d => by
    have := fill_any (w1.drewN d) (some ad) l (m + 1) c s hn hb hs6 (Rv.same R1.out (fun _ _ => rfl))
    rw [hF] at this
    exact this)
  clear hx hgl h hse hF hp2
  clear t1 g1 hR hn hRR
  go_enter Tryz.func50, Tryz.ntmps50
  cases F with
  | true =>
    go_wp2
    go_quiet ((go_at_call 79; exact Calls.quiet_of_same (FL.out _)))
    go_wp2
    go_ret
    exact ⟨by rw [HEF.out]; rfl, below_drewN' G1.out _⟩
  | false =>
    go_wp2
    go_quiet ((go_at_call 79; exact Calls.quiet_of_same (FL.out _)))
    go_wp2
    go_ret
    exact ⟨by rw [HEF.out]; rfl, below_drewN' G1.out _⟩

theorem check_any (w : World) (y sy lg : Int) (A : Option Addr) (l : List Int) (n c : Nat) (hn : l.length = n) (hb : n ≤ 1000000000) (hR : Ri w A l) :
    Calls Tryz.prog 50 #[tb y A n c, .int .i64 sy, .int .i64 lg] w fun e w' => e = .returned (.int .i64 (err (vt y l sy lg))) ∧ Below w.heap.size w w' := by
  by_cases h1 : y < 0
  · exact check_1 w y sy lg A l n c hn hb hR h1
  · have key : 0 ≤ y ∧ (n = 0 ∨ 0 < n ∧ (sy < n ∨ (n : Int) ≤ sy ∧ (l.getLast? = some 0 ∨ l.getLast? ≠ some 0))) := by
      refine ⟨by omega, ?_⟩
      by_cases h3 : n = 0
      · exact .inl h3
      · refine .inr ⟨by omega, ?_⟩
        by_cases h4 : sy < n
        · exact .inl h4
        · refine .inr ⟨by omega, ?_⟩
          by_cases h5 : l.getLast? = some 0
          · exact .inl h5
          · exact .inr h5
    obtain ⟨h0, key⟩ := key
    by_cases hl : lg ≤ 9
    · by_cases h2 : lg < y
      · exact check_2l w y sy lg A l n c hn hb hR hl h0 h2
      · rcases key with h3 | ⟨h3, h4 | ⟨h4, h5 | h5⟩⟩
        · exact check_3l w y sy lg A l n c hn hb hR hl h0 (by omega) h3
        · exact check_4l w y sy lg A l n c hn hb hR hl h0 (by omega) h3 h4
        · exact check_5l w y sy lg A l n c hn hb hR hl h0 (by omega) h3 h4 h5
        · exact check_6l w y sy lg A l n c hn hb hR hl h0 (by omega) h3 h4 h5
    · by_cases h2 : 9 < y
      · exact check_2g w y sy lg A l n c hn hb hR (by omega) h0 h2
      · rcases key with h3 | ⟨h3, h4 | ⟨h4, h5 | h5⟩⟩
        · exact check_3g w y sy lg A l n c hn hb hR (by omega) h0 (by omega) h3
        · exact check_4g w y sy lg A l n c hn hb hR (by omega) h0 (by omega) h3 h4
        · exact check_5g w y sy lg A l n c hn hb hR (by omega) h0 (by omega) h3 h4 h5
        · exact check_6g w y sy lg A l n c hn hb hR (by omega) h0 (by omega) h3 h4 h5

end Go.Proofs.YtnlhokfhkohdpaaGreat

namespace Go.Proofs.YtnlhokfhkohdpaaGreat
open Go.RowKit Go.Shelf

theorem sts_bd {x : Int} (h : -1 ≤ x) : 0 ≤ sts x ∧ x ≤ sts x ∧ sts x ≤ max x 1 := by
  unfold sts
  split <;> omega

end Go.Proofs.YtnlhokfhkohdpaaGreat
