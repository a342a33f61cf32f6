/-
  What the reference's States and May do: which tables are valid. Only new memory. Condition: a slice can hold the norms.
-/
import Derived.Test.YtpjbjbohbdlciaaChk
namespace Go.Proofs.Ytpjbjbohbdlciaa
open Go.RowKit Go.Shelf

set_option maxRecDepth 100000 in
set_option maxHeartbeats 2000000 in
theorem rstates_any (w : World) (n : Int) : Calls Try.prog 36 #[.int .i64 n] w fun e w' => e = .returned (.int .i64 (sts n)) ∧ w' = w := by
  by_cases h : n = -1
  · subst h
    go_enter Try.func36, Try.ntmps36
    go_wp2
    go_ret
    exact ⟨rfl, rfl⟩
  · have e1 : (n == -1) = false := by simp [h]
    have e2 : sts n = n := by unfold sts; rw [if_neg h]
    rw [e2]
    go_enter Try.func36, Try.ntmps36
    go_wp2
    go_ret
    exact ⟨rfl, rfl⟩
theorem sts_bd {x : Int} (h : -1 ≤ x) : 0 ≤ sts x ∧ x ≤ sts x ∧ sts x ≤ max x 1 := by
  unfold sts
  split <;> omega

set_option maxRecDepth 100000 in
set_option maxHeartbeats 4000000 in
theorem may_1 (w : World) (y sy lg : Int) (A : Option Addr) (l : List Int) (n c : Nat) (hn : l.length = n) (hb : n ≤ 1000000000) (hR : Ri w A l) (h : y < 0) :
    Calls Try.prog 31 #[tb y A n c, .int .i64 sy, .int .i64 lg] w fun e w' => e = .returned (.int .i64 (err (vt y l sy lg))) ∧ Below w.heap.size w w' := by
  obtain ⟨R, hRR⟩ : ∃ R, err (vt y l sy lg) = R := ⟨_, rfl⟩
  rw [hRR]
  have HE : Hid (R = 13) := Lib.hid (by rw [← hRR]; rw [vt_no (.inl h)]; rfl)
  have t1 := Tb.new w y A n c
  have g1 : Below w.heap.size w (w.alloc (.cells #[.int .i64 y, .slice A n c] 24)) := (Below.refl _ w).alloc (Nat.le_refl _) _
  obtain ⟨w1, hw1⟩ : ∃ w1, w.alloc (.cells #[.int .i64 y, .slice A n c] 24) = w1 := ⟨_, rfl⟩
  rw [hw1] at t1 g1
  have c0 := t1.c0
  have c1 := t1.c1
  have G1 := Lib.hid g1
  have R1 := Lib.hid (hR.below g1)
  have HN := Lib.hid hn
  have hb2 := hb
  have d1 : decide (y < 0) = true := decide_eq_true (by omega)
  clear t1 g1 hR hn hRR
  go_enter Try.func31, Try.ntmps31
  go_wp2
  go_ret
  exact ⟨by rw [HE.out]; rfl, G1.out⟩

set_option maxRecDepth 100000 in
set_option maxHeartbeats 4000000 in
theorem may_2 (w : World) (y sy lg : Int) (A : Option Addr) (l : List Int) (n c : Nat) (hn : l.length = n) (hb : n ≤ 1000000000) (hR : Ri w A l) (h0 : 0 ≤ y) (h : lg < y) :
    Calls Try.prog 31 #[tb y A n c, .int .i64 sy, .int .i64 lg] w fun e w' => e = .returned (.int .i64 (err (vt y l sy lg))) ∧ Below w.heap.size w w' := by
  obtain ⟨R, hRR⟩ : ∃ R, err (vt y l sy lg) = R := ⟨_, rfl⟩
  rw [hRR]
  have HE : Hid (R = 13) := Lib.hid (by rw [← hRR]; rw [vt_no (.inr (.inl h))]; rfl)
  have t1 := Tb.new w y A n c
  have g1 : Below w.heap.size w (w.alloc (.cells #[.int .i64 y, .slice A n c] 24)) := (Below.refl _ w).alloc (Nat.le_refl _) _
  obtain ⟨w1, hw1⟩ : ∃ w1, w.alloc (.cells #[.int .i64 y, .slice A n c] 24) = w1 := ⟨_, rfl⟩
  rw [hw1] at t1 g1
  have c0 := t1.c0
  have c1 := t1.c1
  have G1 := Lib.hid g1
  have R1 := Lib.hid (hR.below g1)
  have HN := Lib.hid hn
  have hb2 := hb
  have h02 := h0
  have d1 : decide (y < 0) = false := decide_eq_false (by omega)
  have d2 : decide (lg < y) = true := decide_eq_true (by omega)
  clear t1 g1 hR hn hRR
  go_enter Try.func31, Try.ntmps31
  go_wp2
  go_ret
  exact ⟨by rw [HE.out]; rfl, G1.out⟩

set_option maxRecDepth 100000 in
set_option maxHeartbeats 4000000 in
theorem may_3 (w : World) (y sy lg : Int) (A : Option Addr) (l : List Int) (n c : Nat) (hn : l.length = n) (hb : n ≤ 1000000000) (hR : Ri w A l) (h0 : 0 ≤ y) (h1 : y ≤ lg) (h : 9 < y) :
    Calls Try.prog 31 #[tb y A n c, .int .i64 sy, .int .i64 lg] w fun e w' => e = .returned (.int .i64 (err (vt y l sy lg))) ∧ Below w.heap.size w w' := by
  obtain ⟨R, hRR⟩ : ∃ R, err (vt y l sy lg) = R := ⟨_, rfl⟩
  rw [hRR]
  have HE : Hid (R = 13) := Lib.hid (by rw [← hRR]; rw [vt_no (.inr (.inr (.inl h)))]; rfl)
  have t1 := Tb.new w y A n c
  have g1 : Below w.heap.size w (w.alloc (.cells #[.int .i64 y, .slice A n c] 24)) := (Below.refl _ w).alloc (Nat.le_refl _) _
  obtain ⟨w1, hw1⟩ : ∃ w1, w.alloc (.cells #[.int .i64 y, .slice A n c] 24) = w1 := ⟨_, rfl⟩
  rw [hw1] at t1 g1
  have c0 := t1.c0
  have c1 := t1.c1
  have G1 := Lib.hid g1
  have R1 := Lib.hid (hR.below g1)
  have HN := Lib.hid hn
  have hb2 := hb
  have h02 := h0
  have h12 := h1
  have d1 : decide (y < 0) = false := decide_eq_false (by omega)
  have d2 : decide (lg < y) = false := decide_eq_false (by omega)
  have d3 : decide (9 < y) = true := decide_eq_true (by omega)
  clear t1 g1 hR hn hRR
  go_enter Try.func31, Try.ntmps31
  go_wp2
  go_ret
  exact ⟨by rw [HE.out]; rfl, G1.out⟩

set_option maxRecDepth 100000 in
set_option maxHeartbeats 4000000 in
theorem may_4 (w : World) (y sy lg : Int) (A : Option Addr) (l : List Int) (n c : Nat) (hn : l.length = n) (hb : n ≤ 1000000000) (hR : Ri w A l) (h0 : 0 ≤ y) (h1 : y ≤ lg) (h9 : y ≤ 9) (h : n = 0) :
    Calls Try.prog 31 #[tb y A n c, .int .i64 sy, .int .i64 lg] w fun e w' => e = .returned (.int .i64 (err (vt y l sy lg))) ∧ Below w.heap.size w w' := by
  obtain ⟨R, hRR⟩ : ∃ R, err (vt y l sy lg) = R := ⟨_, rfl⟩
  rw [hRR]
  have HE : Hid (R = 13) := Lib.hid (by rw [← hRR]; rw [vt_no (.inr (.inr (.inr (.inl (by omega)))))]; rfl)
  have t1 := Tb.new w y A n c
  have g1 : Below w.heap.size w (w.alloc (.cells #[.int .i64 y, .slice A n c] 24)) := (Below.refl _ w).alloc (Nat.le_refl _) _
  obtain ⟨w1, hw1⟩ : ∃ w1, w.alloc (.cells #[.int .i64 y, .slice A n c] 24) = w1 := ⟨_, rfl⟩
  rw [hw1] at t1 g1
  have c0 := t1.c0
  have c1 := t1.c1
  have G1 := Lib.hid g1
  have R1 := Lib.hid (hR.below g1)
  have HN := Lib.hid hn
  have hb2 := hb
  have d1 : decide (y < 0) = false := decide_eq_false (by omega)
  have d2 : decide (lg < y) = false := decide_eq_false (by omega)
  have d3 : decide (9 < y) = false := decide_eq_false (by omega)
  have d4 : decide ((n : Int) < 1) = true := decide_eq_true (by omega)
  subst h
  clear t1 g1 hR hn hRR
  go_enter Try.func31, Try.ntmps31
  go_wp2
  go_ret
  exact ⟨by rw [HE.out]; rfl, G1.out⟩

set_option maxRecDepth 100000 in
set_option maxHeartbeats 4000000 in
theorem may_5 (w : World) (y sy lg : Int) (A : Option Addr) (l : List Int) (n c : Nat) (hn : l.length = n) (hb : n ≤ 1000000000) (hR : Ri w A l) (h0 : 0 ≤ y) (h1 : y ≤ lg) (h9 : y ≤ 9) (hn1 : 0 < n) (h : sy < n) :
    Calls Try.prog 31 #[tb y A n c, .int .i64 sy, .int .i64 lg] w fun e w' => e = .returned (.int .i64 (err (vt y l sy lg))) ∧ Below w.heap.size w w' := by
  obtain ⟨R, hRR⟩ : ∃ R, err (vt y l sy lg) = R := ⟨_, rfl⟩
  rw [hRR]
  have HE : Hid (R = 13) := Lib.hid (by rw [← hRR]; rw [vt_no (.inr (.inr (.inr (.inr (.inl (by omega))))))]; rfl)
  have t1 := Tb.new w y A n c
  have g1 : Below w.heap.size w (w.alloc (.cells #[.int .i64 y, .slice A n c] 24)) := (Below.refl _ w).alloc (Nat.le_refl _) _
  obtain ⟨w1, hw1⟩ : ∃ w1, w.alloc (.cells #[.int .i64 y, .slice A n c] 24) = w1 := ⟨_, rfl⟩
  rw [hw1] at t1 g1
  have c0 := t1.c0
  have c1 := t1.c1
  have G1 := Lib.hid g1
  have R1 := Lib.hid (hR.below g1)
  have HN := Lib.hid hn
  have hb2 := hb
  have d1 : decide (y < 0) = false := decide_eq_false (by omega)
  have d2 : decide (lg < y) = false := decide_eq_false (by omega)
  have d3 : decide (9 < y) = false := decide_eq_false (by omega)
  have d4 : decide ((n : Int) < 1) = false := decide_eq_false (by omega)
  have d5 : decide (sy < (n : Int)) = true := decide_eq_true (by omega)
  clear t1 g1 hR hn hRR
  go_enter Try.func31, Try.ntmps31
  go_wp2
  go_ret
  exact ⟨by rw [HE.out]; rfl, G1.out⟩

set_option maxRecDepth 100000 in
set_option maxHeartbeats 4000000 in
theorem may_6 (w : World) (y sy lg : Int) (A : Option Addr) (l : List Int) (n c : Nat) (hn : l.length = n) (hb : n ≤ 1000000000) (hR : Ri w A l) (h0 : 0 ≤ y) (h1 : y ≤ lg) (h9 : y ≤ 9) (hn1 : 0 < n) (hs : (n : Int) ≤ sy) (h : l.getLast? = some 0) :
    Calls Try.prog 31 #[tb y A n c, .int .i64 sy, .int .i64 lg] w fun e w' => e = .returned (.int .i64 (err (vt y l sy lg))) ∧ Below w.heap.size w w' := by
  obtain ⟨R, hRR⟩ : ∃ R, err (vt y l sy lg) = R := ⟨_, rfl⟩
  rw [hRR]
  have HE : Hid (R = 13) := Lib.hid (by rw [← hRR]; rw [vt_no (.inr (.inr (.inr (.inr (.inr h)))))]; rfl)
  have t1 := Tb.new w y A n c
  have g1 : Below w.heap.size w (w.alloc (.cells #[.int .i64 y, .slice A n c] 24)) := (Below.refl _ w).alloc (Nat.le_refl _) _
  obtain ⟨w1, hw1⟩ : ∃ w1, w.alloc (.cells #[.int .i64 y, .slice A n c] 24) = w1 := ⟨_, rfl⟩
  rw [hw1] at t1 g1
  have c0 := t1.c0
  have c1 := t1.c1
  have G1 := Lib.hid g1
  have R1 := Lib.hid (hR.below g1)
  have HN := Lib.hid hn
  have hb2 := hb
  have d1 : decide (y < 0) = false := decide_eq_false (by omega)
  have d2 : decide (lg < y) = false := decide_eq_false (by omega)
  have d3 : decide (9 < y) = false := decide_eq_false (by omega)
  have d4 : decide ((n : Int) < 1) = false := decide_eq_false (by omega)
  have d5 : decide (sy < (n : Int)) = false := decide_eq_false (by omega)
  obtain ⟨m, rfl⟩ : ∃ m, n = m + 1 := ⟨n - 1, by omega⟩
  have hm : ((m + 1 : Nat) : Int) - 1 = (m : Int) := by omega
  obtain ⟨x, hx⟩ : ∃ x, l[m]? = some x := ⟨_, List.getElem?_eq_getElem (by omega)⟩
  have hgl : l.getLast? = some x := by rw [List.getLast?_eq_getElem?, hn]; exact hx
  obtain ⟨ad, rfl, hcx⟩ := R1.out m (iv x) (by rw [List.getElem?_map, hx]; rfl)
  have wm : IntKind.i64.wrap (m : Int) = (m : Int) := IntWalk.i64_in _ (by omega)
  rw [h] at hgl
  obtain rfl := Option.some.inj hgl
  clear hx hgl h
  clear t1 g1 hR hn hRR
  go_enter Try.func31, Try.ntmps31
  go_wp2
  go_ret
  exact ⟨by rw [HE.out]; rfl, G1.out⟩

set_option maxRecDepth 100000 in
set_option maxHeartbeats 4000000 in
theorem may_7 (w : World) (y sy lg : Int) (A : Option Addr) (l : List Int) (n c : Nat) (hn : l.length = n) (hb : n ≤ 1000000000) (hR : Ri w A l) (h0 : 0 ≤ y) (h1 : y ≤ lg) (h9 : y ≤ 9) (hn1 : 0 < n) (hs : (n : Int) ≤ sy) (h : l.getLast? ≠ some 0) :
    Calls Try.prog 31 #[tb y A n c, .int .i64 sy, .int .i64 lg] w fun e w' => e = .returned (.int .i64 (err (vt y l sy lg))) ∧ Below w.heap.size w w' := by
  obtain ⟨R, hRR⟩ : ∃ R, err (vt y l sy lg) = R := ⟨_, rfl⟩
  rw [hRR]
  have HE : Hid (R = err (fl l (2 ^ y.toNat))) := Lib.hid (by rw [← hRR]; rw [vt_of h0 h1 h9 (by omega) (by omega) h])
  have t1 := Tb.new w y A n c
  have g1 : Below w.heap.size w (w.alloc (.cells #[.int .i64 y, .slice A n c] 24)) := (Below.refl _ w).alloc (Nat.le_refl _) _
  obtain ⟨w1, hw1⟩ : ∃ w1, w.alloc (.cells #[.int .i64 y, .slice A n c] 24) = w1 := ⟨_, rfl⟩
  rw [hw1] at t1 g1
  have c0 := t1.c0
  have c1 := t1.c1
  have G1 := Lib.hid g1
  have R1 := Lib.hid (hR.below g1)
  have HN := Lib.hid hn
  have hb2 := hb
  have d1 : decide (y < 0) = false := decide_eq_false (by omega)
  have d2 : decide (lg < y) = false := decide_eq_false (by omega)
  have d3 : decide (9 < y) = false := decide_eq_false (by omega)
  have d4 : decide ((n : Int) < 1) = false := decide_eq_false (by omega)
  have d5 : decide (sy < (n : Int)) = false := decide_eq_false (by omega)
  obtain ⟨m, rfl⟩ : ∃ m, n = m + 1 := ⟨n - 1, by omega⟩
  have hm : ((m + 1 : Nat) : Int) - 1 = (m : Int) := by omega
  obtain ⟨x, hx⟩ : ∃ x, l[m]? = some x := ⟨_, List.getElem?_eq_getElem (by omega)⟩
  have hgl : l.getLast? = some x := by rw [List.getLast?_eq_getElem?, hn]; exact hx
  obtain ⟨ad, rfl, hcx⟩ := R1.out m (iv x) (by rw [List.getElem?_map, hx]; rfl)
  have wm : IntKind.i64.wrap (m : Int) = (m : Int) := IntWalk.i64_in _ (by omega)
  have hxz : (x == 0) = false := by
    rw [hgl] at h
    simp
    rintro rfl
    exact h rfl
  obtain ⟨k, rfl⟩ : ∃ k : Nat, y = (k : Int) := ⟨y.toNat, by omega⟩
  obtain ⟨s, hse⟩ : ∃ s, 2 ^ k = s := ⟨_, rfl⟩
  have hs5 : s ≤ 512 := by rw [← hse]; exact pow_le (by omega)
  have HE2 : Hid (R = err (fl l (s : Int))) := Lib.hid (by
    rw [HE.out, Int.toNat_natCast, show (2 : Int) ^ k = (s : Int) by rw [← hse]; exact (Int.natCast_pow 2 k).symm])
  have SZ : Hid (∀ W, Calls Try.prog 34 #[.int .i64 (k : Int)] W fun e w' => e = .returned (.int .i64 (s : Int)) ∧ w' = W) := Lib.hid (fun W => by
    have := size_any W (k : Int)
    have e : siz (k : Int) = s := by unfold siz; rw [if_neg (by omega)]; simpa using hse
    rw [e] at this
    exact this)
  clear hx hgl h hse
  clear t1 g1 hR hn hRR
  go_enter Try.func31, Try.ntmps31
  go_wp2
  go_loop [7, 8] (fun t p => ∃ (i : Nat) (S : Int), i ≤ m + 1 ∧ p = .int .i64 (i : Int) ∧ t = .int .i64 S ∧ 0 ≤ S ∧ S ≤ 1024 ∧ Hid (okn (l.take i) = true) ∧ Hid (ssum (l.take i) = S)) (fun _ p => m + 1 - (intOf p).toNat)
  case atStart => exact ⟨0, 0, by omega, rfl, rfl, by omega, by omega, Lib.hid (by simp [okn]), Lib.hid (by simp [ssum])⟩
  case round =>
    obtain ⟨i, S, hi, rfl, rfl, hS0, hS1, HA, HS⟩ := hrel
    by_cases hlt : i < m + 1
    · obtain ⟨v, hv⟩ : ∃ v, l[i]? = some v := ⟨_, List.getElem?_eq_getElem (by rw [HN.out]; exact hlt)⟩
      obtain ⟨ad2, had, hcv⟩ := R1.out i (iv v) (by rw [List.getElem?_map, hv]; rfl)
      obtain rfl := Option.some.inj had
      simp only [iv] at hcv
      have HT := Lib.hid (ssum_step hv)
      by_cases g1 : v < -1
      · have HF : Hid (R = 13) := Lib.hid (by rw [HE2.out, fl_low hv g1]; rfl)
        have e1 : decide (v < -1) = true := decide_eq_true g1
        clear hv HT
        go_wp2
        go_ret
        exact ⟨by rw [HF.out]; rfl, G1.out⟩
      · have e1 : decide (v < -1) = false := decide_eq_false g1
        have hsb := sts_bd (show -1 ≤ v by omega)
        by_cases g2 : 512 < v
        · have HF : Hid (R = 13) := Lib.hid (by
            rw [HE2.out, fl_over (i := i + 1)]
            · rfl
            · rw [HT.out, HS.out]; omega)
          have e2 : decide (512 < v) = true := decide_eq_true g2
          clear hv HT hsb
          go_wp2
          go_ret
          exact ⟨by rw [HF.out]; rfl, G1.out⟩
        · have e2 : decide (512 < v) = false := decide_eq_false g2
          by_cases g3 : 512 < S
          · have HF : Hid (R = 13) := Lib.hid (by
              rw [HE2.out, fl_over (i := i)]
              · rfl
              · rw [HS.out]; omega)
            have e3 : decide (512 < S) = true := decide_eq_true g3
            clear hv HT hsb
            go_wp2
            go_ret
            exact ⟨by rw [HF.out]; rfl, G1.out⟩
          · have e3 : decide (512 < S) = false := decide_eq_false g3
            have HO := Lib.hid (okn_step hv (by omega) HA.out)
            have HS2 : Hid (ssum (l.take (i + 1)) = S + sts v) := Lib.hid (by rw [HT.out, HS.out])
            obtain ⟨q, hq⟩ : ∃ q, sts v = q := ⟨_, rfl⟩
            have SV : Hid (∀ W, Calls Try.prog 36 #[.int .i64 v] W fun e w' => e = .returned (.int .i64 q) ∧ w' = W) := Lib.hid (fun W => by rw [← hq]; exact rstates_any W v)
            rw [hq] at hsb HS2
            have hqb : 0 ≤ q ∧ q ≤ 512 := by omega
            clear hv HT hq hsb
            go_wp2_with (go_at_call 36; refine (SV.out _).mono ?_; rintro e w' ⟨rfl, rfl⟩)
            exact ⟨⟨i + 1, S + q, by omega, by simp, rfl, by omega, by omega, HO, HS2⟩, by simp [intOf]; omega⟩
    · have HF : Hid (R = err (decide (S = (s : Int)))) := Lib.hid (by
        rw [HE2.out, fl_end (q := (s : Int) - S) HA.out (by rw [HN.out]; omega) (by rw [HS.out]; omega)]
        congr 1
        by_cases hh : S = (s : Int)
        · rw [decide_eq_true hh, decide_eq_true (by omega)]
        · rw [decide_eq_false hh, decide_eq_false (by omega)])
      by_cases hh : S = (s : Int)
      · subst hh
        have HF2 : Hid (R = 0) := Lib.hid (by rw [HF.out, decide_eq_true rfl]; rfl)
        clear HF
        go_wp2_with (go_at_call 34; refine (SZ.out _).mono ?_; rintro e w' ⟨rfl, rfl⟩)
        go_ret
        exact ⟨by rw [HF2.out]; rfl, G1.out⟩
      · have HF2 : Hid (R = 13) := Lib.hid (by rw [HF.out, decide_eq_false hh]; rfl)
        have hne : (S != (s : Int)) = true := by simp [hh]
        clear HF
        go_wp2_with (go_at_call 34; refine (SZ.out _).mono ?_; rintro e w' ⟨rfl, rfl⟩)
        go_ret
        exact ⟨by rw [HF2.out]; rfl, G1.out⟩

theorem may_any (w : World) (y sy lg : Int) (A : Option Addr) (l : List Int) (n c : Nat) (hn : l.length = n) (hb : n ≤ 1000000000) (hR : Ri w A l) :
    Calls Try.prog 31 #[tb y A n c, .int .i64 sy, .int .i64 lg] w fun e w' => e = .returned (.int .i64 (err (vt y l sy lg))) ∧ Below w.heap.size w w' := by
  by_cases h1 : y < 0
  · exact may_1 w y sy lg A l n c hn hb hR h1
  · by_cases h2 : lg < y
    · exact may_2 w y sy lg A l n c hn hb hR (by omega) h2
    · by_cases h3 : 9 < y
      · exact may_3 w y sy lg A l n c hn hb hR (by omega) (by omega) h3
      · by_cases h4 : n = 0
        · exact may_4 w y sy lg A l n c hn hb hR (by omega) (by omega) (by omega) h4
        · by_cases h5 : sy < n
          · exact may_5 w y sy lg A l n c hn hb hR (by omega) (by omega) (by omega) (by omega) h5
          · by_cases h6 : l.getLast? = some 0
            · exact may_6 w y sy lg A l n c hn hb hR (by omega) (by omega) (by omega) (by omega) (by omega) h6
            · exact may_7 w y sy lg A l n c hn hb hR (by omega) (by omega) (by omega) (by omega) (by omega) h6

end Go.Proofs.Ytpjbjbohbdlciaa
