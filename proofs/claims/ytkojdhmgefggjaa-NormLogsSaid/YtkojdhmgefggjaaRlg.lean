/-
  What the reference's Log does: the recommended Log, or -1. Nothing has changed. Condition: the counts are integers that a slice can hold.
-/
import Derived.Test.YtkojdhmgefggjaaRec
namespace Go.Proofs.Ytkojdhmgefggjaa
open Go.RowKit

theorem siz_nat {i : Nat} (h : i ≤ 20) : siz (i : Int) = 2 ^ i := by unfold siz; rw [if_neg (by omega)]; simp
theorem blen_room {u k : Nat} (h2 : 2 ≤ u) (hk : ∀ j, j < k → 2 ^ j < u) (he : u ≤ 2 ^ k) : blen (u - 1) = k := by
  have hk0 : k ≠ 0 := by rintro rfl; simp at he; omega
  have h1 := hk (k - 1) (by omega)
  unfold blen
  rw [if_neg (by omega)]
  have : (u - 1).log2 = k - 1 := by
    rw [Nat.log2_eq_iff (by omega)]
    refine ⟨by omega, ?_⟩
    rw [show k - 1 + 1 = k by omega]
    omega
  omega
theorem blen_half {T f : Nat} (h : T / 2 ^ f = 1) : blen T = f + 1 := by
  have hT : T ≠ 0 := by rintro rfl; simp at h
  unfold blen
  rw [if_neg hT]
  have : T.log2 = f := by
    rw [Nat.log2_eq_iff hT]
    have hp := Nat.two_pow_pos f
    have h1 := Nat.div_add_mod T (2 ^ f)
    have h2 := Nat.mod_lt T hp
    rw [h] at h1
    refine ⟨by omega, ?_⟩
    rw [Nat.pow_succ]
    omega
  omega
theorem half_step {T f a : Nat} (h : T / 2 ^ f = a) : T / 2 ^ (f + 1) = a / 2 := by rw [Nat.pow_succ, ← Nat.div_div_eq_div_mul, h]
theorem half_le {T f a : Nat} (h : T / 2 ^ f = a) (ha : 1 ≤ a) (hT : T ≤ 1099511627776) : f ≤ 40 := by
  rcases Nat.lt_or_ge 40 f with h1 | h1
  · have h2 : 2 ^ 41 ≤ 2 ^ f := Nat.pow_le_pow_right (by decide) (by omega)
    have h3 : T / 2 ^ f = 0 := Nat.div_eq_of_lt (by omega)
    omega
  · exact h1

set_option maxRecDepth 100000 in
set_option maxHeartbeats 4000000 in
theorem rlog_bada (w : World) (A : Option Addr) (l : List Int) (N c : Nat) (most : Int) (hN : l.length = N) (hb : N ≤ 1000000000) (hR : Ri w A l) (lg s : Nat) (hlg : lg ≤ 9) (hmo : most = (lg : Int)) (hs : 2 ^ lg = s) (hm : may l = false) :
    Calls Try.prog 19 #[.slice A N c, .int .i64 most] w fun e w' => e = .returned (.int .i64 (rcl l most)) ∧ w' = w := by
  subst hmo
  have hs5 : s ≤ 512 := by rw [← hs]; exact pow9_le hlg
  have hmn : min ((lg : Int)) 9 = (lg : Int) := by omega
  have hps : 2 ^ (min ((lg : Int)) 9).toNat = s := by rw [hmn]; simpa using hs
  have hd9 : decide (9 < (lg : Int)) = false := decide_eq_false (by omega)
  have hd0 : decide ((lg : Int) < 0) = false := decide_eq_false (by omega)
  have SZ : Hid (∀ W, Calls Try.prog 22 #[.int .i64 (lg : Int)] W fun e w' => e = .returned (.int .i64 (s : Int)) ∧ w' = W) := Lib.hid (fun W => by have := size_any W (lg : Int); rw [siz_nat (by omega), hs] at this; exact this)
  have SV := Lib.hid (rcounts_any w A l N c hN hb hR)
  have hub := us_le l
  rw [hN] at hub
  have htb := tl_le l
  unfold srv at SV
  obtain ⟨R, hRR⟩ : ∃ R, rcl l (lg : Int) = R := ⟨_, rfl⟩
  rw [hRR]
  have HE : Hid (R = -1) := Lib.hid (by rw [← hRR]; unfold rcl; rw [if_pos (.inr (.inl hm))])
  obtain ⟨T, hT⟩ : ∃ T, tl l = T := ⟨_, rfl⟩
  obtain ⟨u, hu⟩ : ∃ u, us l = u := ⟨_, rfl⟩
  rw [hT] at SV htb
  rw [hu] at SV hub
  (try rw [hT] at HE)
  (try rw [hu] at HE)
  rw [hm] at SV
  clear hs hps
  clear hRR hN hR
  go_enter Try.func19, Try.ntmps19
  go_wp2_with (first
    | (go_at_call 21; refine SV.out.mono ?_; rintro e w' ⟨rfl, rfl⟩)
    | (go_at_call 22; with_reducible refine (SZ.out _).mono ?_; rintro e w' ⟨rfl, rfl⟩))
  all_goals
    go_ret
    refine ⟨congrArg (fun z => Ending.returned (Value.int .i64 z)) ?_, rfl⟩
    rw [HE.out]

set_option maxRecDepth 100000 in
set_option maxHeartbeats 4000000 in
theorem rlog_badb (w : World) (A : Option Addr) (l : List Int) (N c : Nat) (most : Int) (hN : l.length = N) (hb : N ≤ 1000000000) (hR : Ri w A l) (hmo : 9 < most) (hm : may l = false) :
    Calls Try.prog 19 #[.slice A N c, .int .i64 most] w fun e w' => e = .returned (.int .i64 (rcl l most)) ∧ w' = w := by
  have hmn : min most 9 = 9 := by omega
  have hps : 2 ^ (min most 9).toNat = 512 := by rw [hmn]; rfl
  have hd9 : decide (9 < most) = true := decide_eq_true hmo
  have SZ : Hid (∀ W, Calls Try.prog 22 #[.int .i64 9] W fun e w' => e = .returned (.int .i64 512) ∧ w' = W) := Lib.hid (fun W => size_any W 9)
  have SV := Lib.hid (rcounts_any w A l N c hN hb hR)
  have hub := us_le l
  rw [hN] at hub
  have htb := tl_le l
  unfold srv at SV
  obtain ⟨R, hRR⟩ : ∃ R, rcl l most = R := ⟨_, rfl⟩
  rw [hRR]
  have HE : Hid (R = -1) := Lib.hid (by rw [← hRR]; unfold rcl; rw [if_pos (.inr (.inl hm))])
  obtain ⟨T, hT⟩ : ∃ T, tl l = T := ⟨_, rfl⟩
  obtain ⟨u, hu⟩ : ∃ u, us l = u := ⟨_, rfl⟩
  rw [hT] at SV htb
  rw [hu] at SV hub
  (try rw [hT] at HE)
  (try rw [hu] at HE)
  rw [hm] at SV
  clear hps
  clear hRR hN hR
  go_enter Try.func19, Try.ntmps19
  go_wp2_with (first
    | (go_at_call 21; refine SV.out.mono ?_; rintro e w' ⟨rfl, rfl⟩)
    | (go_at_call 22; with_reducible refine (SZ.out _).mono ?_; rintro e w' ⟨rfl, rfl⟩))
  all_goals
    go_ret
    refine ⟨congrArg (fun z => Ending.returned (Value.int .i64 z)) ?_, rfl⟩
    rw [HE.out]

set_option maxRecDepth 100000 in
set_option maxHeartbeats 4000000 in
theorem rlog_biga (w : World) (A : Option Addr) (l : List Int) (N c : Nat) (most : Int) (hN : l.length = N) (hb : N ≤ 1000000000) (hR : Ri w A l) (lg s : Nat) (hlg : lg ≤ 9) (hmo : most = (lg : Int)) (hs : 2 ^ lg = s) (hm : may l = true) (hbig : s < us l) :
    Calls Try.prog 19 #[.slice A N c, .int .i64 most] w fun e w' => e = .returned (.int .i64 (rcl l most)) ∧ w' = w := by
  subst hmo
  have hs5 : s ≤ 512 := by rw [← hs]; exact pow9_le hlg
  have hmn : min ((lg : Int)) 9 = (lg : Int) := by omega
  have hps : 2 ^ (min ((lg : Int)) 9).toNat = s := by rw [hmn]; simpa using hs
  have hd9 : decide (9 < (lg : Int)) = false := decide_eq_false (by omega)
  have hd0 : decide ((lg : Int) < 0) = false := decide_eq_false (by omega)
  have SZ : Hid (∀ W, Calls Try.prog 22 #[.int .i64 (lg : Int)] W fun e w' => e = .returned (.int .i64 (s : Int)) ∧ w' = W) := Lib.hid (fun W => by have := size_any W (lg : Int); rw [siz_nat (by omega), hs] at this; exact this)
  have SV := Lib.hid (rcounts_any w A l N c hN hb hR)
  have hub := us_le l
  rw [hN] at hub
  have htb := tl_le l
  unfold srv at SV
  obtain ⟨R, hRR⟩ : ∃ R, rcl l (lg : Int) = R := ⟨_, rfl⟩
  rw [hRR]
  have HE : Hid (R = -1) := Lib.hid (by rw [← hRR]; unfold rcl; rw [if_pos (.inr (.inr (by rw [hps]; exact hbig)))])
  obtain ⟨T, hT⟩ : ∃ T, tl l = T := ⟨_, rfl⟩
  obtain ⟨u, hu⟩ : ∃ u, us l = u := ⟨_, rfl⟩
  rw [hT] at SV htb
  rw [hu] at SV hub
  (try rw [hT] at HE)
  (try rw [hu] at HE)
  rw [hm] at SV
  rw [hu] at hbig
  have dd : decide ((s : Int) < (u : Int)) = true := decide_eq_true (by omega)
  clear hs hps
  clear hRR hN hR
  go_enter Try.func19, Try.ntmps19
  go_wp2_with (first
    | (go_at_call 21; refine SV.out.mono ?_; rintro e w' ⟨rfl, rfl⟩)
    | (go_at_call 22; with_reducible refine (SZ.out _).mono ?_; rintro e w' ⟨rfl, rfl⟩))
  all_goals
    go_ret
    refine ⟨congrArg (fun z => Ending.returned (Value.int .i64 z)) ?_, rfl⟩
    rw [HE.out]

set_option maxRecDepth 100000 in
set_option maxHeartbeats 4000000 in
theorem rlog_bigb (w : World) (A : Option Addr) (l : List Int) (N c : Nat) (most : Int) (hN : l.length = N) (hb : N ≤ 1000000000) (hR : Ri w A l) (hmo : 9 < most) (hm : may l = true) (hbig : 512 < us l) :
    Calls Try.prog 19 #[.slice A N c, .int .i64 most] w fun e w' => e = .returned (.int .i64 (rcl l most)) ∧ w' = w := by
  have hmn : min most 9 = 9 := by omega
  have hps : 2 ^ (min most 9).toNat = 512 := by rw [hmn]; rfl
  have hd9 : decide (9 < most) = true := decide_eq_true hmo
  have SZ : Hid (∀ W, Calls Try.prog 22 #[.int .i64 9] W fun e w' => e = .returned (.int .i64 512) ∧ w' = W) := Lib.hid (fun W => size_any W 9)
  have SV := Lib.hid (rcounts_any w A l N c hN hb hR)
  have hub := us_le l
  rw [hN] at hub
  have htb := tl_le l
  unfold srv at SV
  obtain ⟨R, hRR⟩ : ∃ R, rcl l most = R := ⟨_, rfl⟩
  rw [hRR]
  have HE : Hid (R = -1) := Lib.hid (by rw [← hRR]; unfold rcl; rw [if_pos (.inr (.inr (by rw [hps]; exact hbig)))])
  obtain ⟨T, hT⟩ : ∃ T, tl l = T := ⟨_, rfl⟩
  obtain ⟨u, hu⟩ : ∃ u, us l = u := ⟨_, rfl⟩
  rw [hT] at SV htb
  rw [hu] at SV hub
  (try rw [hT] at HE)
  (try rw [hu] at HE)
  rw [hm] at SV
  rw [hu] at hbig
  have dd : decide ((512 : Int) < (u : Int)) = true := decide_eq_true (by omega)
  clear hps
  clear hRR hN hR
  go_enter Try.func19, Try.ntmps19
  go_wp2_with (first
    | (go_at_call 21; refine SV.out.mono ?_; rintro e w' ⟨rfl, rfl⟩)
    | (go_at_call 22; with_reducible refine (SZ.out _).mono ?_; rintro e w' ⟨rfl, rfl⟩))
  all_goals
    go_ret
    refine ⟨congrArg (fun z => Ending.returned (Value.int .i64 z)) ?_, rfl⟩
    rw [HE.out]

set_option maxRecDepth 100000 in
set_option maxHeartbeats 4000000 in
theorem rlog_onea (w : World) (A : Option Addr) (l : List Int) (N c : Nat) (most : Int) (hN : l.length = N) (hb : N ≤ 1000000000) (hR : Ri w A l) (lg s : Nat) (hlg : lg ≤ 9) (hmo : most = (lg : Int)) (hs : 2 ^ lg = s) (hm : may l = true) (hone : us l = 1) (h1s : 1 ≤ s) :
    Calls Try.prog 19 #[.slice A N c, .int .i64 most] w fun e w' => e = .returned (.int .i64 (rcl l most)) ∧ w' = w := by
  subst hmo
  have hs5 : s ≤ 512 := by rw [← hs]; exact pow9_le hlg
  have hmn : min ((lg : Int)) 9 = (lg : Int) := by omega
  have hps : 2 ^ (min ((lg : Int)) 9).toNat = s := by rw [hmn]; simpa using hs
  have hd9 : decide (9 < (lg : Int)) = false := decide_eq_false (by omega)
  have hd0 : decide ((lg : Int) < 0) = false := decide_eq_false (by omega)
  have SZ : Hid (∀ W, Calls Try.prog 22 #[.int .i64 (lg : Int)] W fun e w' => e = .returned (.int .i64 (s : Int)) ∧ w' = W) := Lib.hid (fun W => by have := size_any W (lg : Int); rw [siz_nat (by omega), hs] at this; exact this)
  have SV := Lib.hid (rcounts_any w A l N c hN hb hR)
  have hub := us_le l
  rw [hN] at hub
  have htb := tl_le l
  unfold srv at SV
  obtain ⟨R, hRR⟩ : ∃ R, rcl l (lg : Int) = R := ⟨_, rfl⟩
  rw [hRR]
  have HE : Hid (R = 0) := Lib.hid (by rw [← hRR]; unfold rcl; rw [if_neg (by rw [hps, hm, hmn, hone]; simp; try omega), if_pos hone])
  obtain ⟨T, hT⟩ : ∃ T, tl l = T := ⟨_, rfl⟩
  obtain ⟨u, hu⟩ : ∃ u, us l = u := ⟨_, rfl⟩
  rw [hT] at SV htb
  rw [hu] at SV hub
  (try rw [hT] at HE)
  (try rw [hu] at HE)
  rw [hm] at SV
  rw [hu] at hone
  subst hone
  have h1t := h1s
  have dd : decide ((s : Int) < 1) = false := decide_eq_false (by omega)
  clear hs hps
  clear hRR hN hR
  go_enter Try.func19, Try.ntmps19
  go_wp2_with (first
    | (go_at_call 21; refine SV.out.mono ?_; rintro e w' ⟨rfl, rfl⟩)
    | (go_at_call 22; with_reducible refine (SZ.out _).mono ?_; rintro e w' ⟨rfl, rfl⟩))
  all_goals
    go_ret
    refine ⟨congrArg (fun z => Ending.returned (Value.int .i64 z)) ?_, rfl⟩
    rw [HE.out]

set_option maxRecDepth 100000 in
set_option maxHeartbeats 4000000 in
theorem rlog_oneb (w : World) (A : Option Addr) (l : List Int) (N c : Nat) (most : Int) (hN : l.length = N) (hb : N ≤ 1000000000) (hR : Ri w A l) (hmo : 9 < most) (hm : may l = true) (hone : us l = 1) (h1s : 1 ≤ 512) :
    Calls Try.prog 19 #[.slice A N c, .int .i64 most] w fun e w' => e = .returned (.int .i64 (rcl l most)) ∧ w' = w := by
  have hmn : min most 9 = 9 := by omega
  have hps : 2 ^ (min most 9).toNat = 512 := by rw [hmn]; rfl
  have hd9 : decide (9 < most) = true := decide_eq_true hmo
  have SZ : Hid (∀ W, Calls Try.prog 22 #[.int .i64 9] W fun e w' => e = .returned (.int .i64 512) ∧ w' = W) := Lib.hid (fun W => size_any W 9)
  have SV := Lib.hid (rcounts_any w A l N c hN hb hR)
  have hub := us_le l
  rw [hN] at hub
  have htb := tl_le l
  unfold srv at SV
  obtain ⟨R, hRR⟩ : ∃ R, rcl l most = R := ⟨_, rfl⟩
  rw [hRR]
  have HE : Hid (R = 0) := Lib.hid (by rw [← hRR]; unfold rcl; rw [if_neg (by rw [hps, hm, hmn, hone]; simp; try omega), if_pos hone])
  obtain ⟨T, hT⟩ : ∃ T, tl l = T := ⟨_, rfl⟩
  obtain ⟨u, hu⟩ : ∃ u, us l = u := ⟨_, rfl⟩
  rw [hT] at SV htb
  rw [hu] at SV hub
  (try rw [hT] at HE)
  (try rw [hu] at HE)
  rw [hm] at SV
  rw [hu] at hone
  subst hone
  have h1t := h1s
  have dd : decide ((512 : Int) < 1) = false := decide_eq_false (by omega)
  clear hps
  clear hRR hN hR
  go_enter Try.func19, Try.ntmps19
  go_wp2_with (first
    | (go_at_call 21; refine SV.out.mono ?_; rintro e w' ⟨rfl, rfl⟩)
    | (go_at_call 22; with_reducible refine (SZ.out _).mono ?_; rintro e w' ⟨rfl, rfl⟩))
  all_goals
    go_ret
    refine ⟨congrArg (fun z => Ending.returned (Value.int .i64 z)) ?_, rfl⟩
    rw [HE.out]

set_option maxRecDepth 100000 in
set_option maxHeartbeats 4000000 in
theorem rlog_gena (w : World) (A : Option Addr) (l : List Int) (N c : Nat) (most : Int) (hN : l.length = N) (hb : N ≤ 1000000000) (hR : Ri w A l) (lg s : Nat) (hlg : lg ≤ 9) (hmo : most = (lg : Int)) (hs : 2 ^ lg = s) (hm : may l = true) (hbig : us l ≤ s) (htwo : 2 ≤ us l) :
    Calls Try.prog 19 #[.slice A N c, .int .i64 most] w fun e w' => e = .returned (.int .i64 (rcl l most)) ∧ w' = w := by
  subst hmo
  have hs5 : s ≤ 512 := by rw [← hs]; exact pow9_le hlg
  have hmn : min ((lg : Int)) 9 = (lg : Int) := by omega
  have hps : 2 ^ (min ((lg : Int)) 9).toNat = s := by rw [hmn]; simpa using hs
  have hd9 : decide (9 < (lg : Int)) = false := decide_eq_false (by omega)
  have hd0 : decide ((lg : Int) < 0) = false := decide_eq_false (by omega)
  have SZ : Hid (∀ W, Calls Try.prog 22 #[.int .i64 (lg : Int)] W fun e w' => e = .returned (.int .i64 (s : Int)) ∧ w' = W) := Lib.hid (fun W => by have := size_any W (lg : Int); rw [siz_nat (by omega), hs] at this; exact this)
  have SV := Lib.hid (rcounts_any w A l N c hN hb hR)
  have hub := us_le l
  rw [hN] at hub
  have htb := tl_le l
  unfold srv at SV
  obtain ⟨R, hRR⟩ : ∃ R, rcl l (lg : Int) = R := ⟨_, rfl⟩
  rw [hRR]
  have HE : Hid (R = min (lg : Int) (max (blen (us l - 1) : Int) ((blen (tl l) : Int) - 2))) := Lib.hid (by rw [← hRR]; unfold rcl; rw [if_neg (by rw [hps, hm, hmn]; simp; try omega), if_neg (by omega), hmn])
  obtain ⟨T, hT⟩ : ∃ T, tl l = T := ⟨_, rfl⟩
  obtain ⟨u, hu⟩ : ∃ u, us l = u := ⟨_, rfl⟩
  rw [hT] at SV htb
  rw [hu] at SV hub
  (try rw [hT] at HE)
  (try rw [hu] at HE)
  rw [hm] at SV
  rw [hu] at hbig htwo
  have dd : decide ((s : Int) < (u : Int)) = false := decide_eq_false (by omega)
  have ddn : decide (s < u) = false := decide_eq_false (by omega)
  have d1 : ((u : Int) == 1) = false := by simp; omega
  have hu5 : u ≤ 512 := by omega
  have hT1 : 1 ≤ T := by
    obtain ⟨_, h1, _, h2⟩ := may_fine hm
    have := nus_tot h2
    omega
  clear hs hps
  clear hRR hN hR
  go_enter Try.func19, Try.ntmps19
  go_wp2_with (first
    | (go_at_call 21; refine SV.out.mono ?_; rintro e w' ⟨rfl, rfl⟩)
    | (go_at_call 22; with_reducible refine (SZ.out _).mono ?_; rintro e w' ⟨rfl, rfl⟩))
  go_loop [8] (fun p => ∃ i : Nat, i ≤ 9 ∧ p = .int .i64 (i : Int) ∧ Hid (∀ j, j < i → 2 ^ j < u)) (fun p => 9 - (intOf p).toNat)
  case atStart => exact ⟨0, by omega, rfl, Lib.hid (fun j hj => by omega)⟩
  case round =>
    obtain ⟨i, hi, rfl, HA⟩ := hrel
    obtain ⟨P, hP⟩ : ∃ P, 2 ^ i = P := ⟨_, rfl⟩
    have S2 : Hid (∀ W, Calls Try.prog 22 #[.int .i64 (i : Int)] W fun e w' => e = .returned (.int .i64 (P : Int)) ∧ w' = W) := Lib.hid (fun W => by have := size_any W (i : Int); rw [siz_nat (by omega), hP] at this; exact this)
    by_cases hlt : P < u
    · have hi9 : i < 9 := by
        rcases Nat.lt_or_ge i 9 with h | h
        · exact h
        · have : i = 9 := by omega
          subst this
          rw [show (2 : Nat) ^ 9 = 512 by decide] at hP
          omega
      have dl : decide ((P : Int) < (u : Int)) = true := decide_eq_true (by omega)
      have HB : Hid (∀ j, j < i + 1 → 2 ^ j < u) := Lib.hid (fun j hj => by
        rcases Nat.lt_or_ge j i with h | h
        · exact HA.out j h
        · rw [show j = i by omega, hP]; exact hlt)
      clear hP
      go_wp2_with (go_at_call 22; refine (S2.out _).mono ?_; rintro e w' ⟨rfl, rfl⟩)
      exact ⟨⟨i + 1, by omega, by simp, HB⟩, by simp [intOf]; omega⟩
    · have dl : decide ((P : Int) < (u : Int)) = false := decide_eq_false (by omega)
      have HK : Hid (blen (u - 1) = i) := Lib.hid (blen_room htwo HA.out (by rw [hP]; omega))
      rw [HK.out] at HE
      clear hP HA HK
      go_wp2_with (go_at_call 22; refine (S2.out _).mono ?_; rintro e w' ⟨rfl, rfl⟩)
      go_loop [5, 9] (fun t p => ∃ a f : Nat, t = .int .i64 (a : Int) ∧ p = .int .i64 (f : Int) ∧ 1 ≤ a ∧ a ≤ T ∧ f ≤ 40 ∧ Hid (T / 2 ^ f = a)) (fun t _ => (intOf t).toNat)
      case atStart => exact ⟨T, 0, rfl, rfl, hT1, Nat.le_refl _, by omega, Lib.hid (by simp)⟩
      case round =>
        obtain ⟨a, f, rfl, rfl, ha, haT, hf, HF⟩ := hrel
        by_cases h1 : 1 < a
        · have da : decide ((1 : Int) < (a : Int)) = true := decide_eq_true (by omega)
          have hs2 := half_step HF.out
          have hf2 := half_le hs2 (by omega) htb
          have HF2 := Lib.hid hs2
          clear hs2 HF
          go_wp2
          exact ⟨⟨a / 2, f + 1, by simp, by simp, by omega, by omega, hf2, HF2⟩, by simp [intOf]; omega⟩
        · have ha1 : a = 1 := by omega
          subst ha1
          have HL := Lib.hid (blen_half HF.out)
          rw [HL.out] at HE
          clear HF HL
          go_wp2
          all_goals
            go_ret
            refine ⟨congrArg (fun z => Ending.returned (Value.int .i64 z)) ?_, rfl⟩
            rw [HE.out]
            (try simp)
            (try omega)

set_option maxRecDepth 100000 in
set_option maxHeartbeats 4000000 in
theorem rlog_genb (w : World) (A : Option Addr) (l : List Int) (N c : Nat) (most : Int) (hN : l.length = N) (hb : N ≤ 1000000000) (hR : Ri w A l) (hmo : 9 < most) (hm : may l = true) (hbig : us l ≤ 512) (htwo : 2 ≤ us l) :
    Calls Try.prog 19 #[.slice A N c, .int .i64 most] w fun e w' => e = .returned (.int .i64 (rcl l most)) ∧ w' = w := by
  have hmn : min most 9 = 9 := by omega
  have hps : 2 ^ (min most 9).toNat = 512 := by rw [hmn]; rfl
  have hd9 : decide (9 < most) = true := decide_eq_true hmo
  have SZ : Hid (∀ W, Calls Try.prog 22 #[.int .i64 9] W fun e w' => e = .returned (.int .i64 512) ∧ w' = W) := Lib.hid (fun W => size_any W 9)
  have SV := Lib.hid (rcounts_any w A l N c hN hb hR)
  have hub := us_le l
  rw [hN] at hub
  have htb := tl_le l
  unfold srv at SV
  obtain ⟨R, hRR⟩ : ∃ R, rcl l most = R := ⟨_, rfl⟩
  rw [hRR]
  have HE : Hid (R = min 9 (max (blen (us l - 1) : Int) ((blen (tl l) : Int) - 2))) := Lib.hid (by rw [← hRR]; unfold rcl; rw [if_neg (by rw [hps, hm, hmn]; simp; try omega), if_neg (by omega), hmn])
  obtain ⟨T, hT⟩ : ∃ T, tl l = T := ⟨_, rfl⟩
  obtain ⟨u, hu⟩ : ∃ u, us l = u := ⟨_, rfl⟩
  rw [hT] at SV htb
  rw [hu] at SV hub
  (try rw [hT] at HE)
  (try rw [hu] at HE)
  rw [hm] at SV
  rw [hu] at hbig htwo
  have dd : decide ((512 : Int) < (u : Int)) = false := decide_eq_false (by omega)
  have ddn : decide (512 < u) = false := decide_eq_false (by omega)
  have d1 : ((u : Int) == 1) = false := by simp; omega
  have hu5 : u ≤ 512 := by omega
  have hT1 : 1 ≤ T := by
    obtain ⟨_, h1, _, h2⟩ := may_fine hm
    have := nus_tot h2
    omega
  clear hps
  clear hRR hN hR
  go_enter Try.func19, Try.ntmps19
  go_wp2_with (first
    | (go_at_call 21; refine SV.out.mono ?_; rintro e w' ⟨rfl, rfl⟩)
    | (go_at_call 22; with_reducible refine (SZ.out _).mono ?_; rintro e w' ⟨rfl, rfl⟩))
  go_loop [8] (fun p => ∃ i : Nat, i ≤ 9 ∧ p = .int .i64 (i : Int) ∧ Hid (∀ j, j < i → 2 ^ j < u)) (fun p => 9 - (intOf p).toNat)
  case atStart => exact ⟨0, by omega, rfl, Lib.hid (fun j hj => by omega)⟩
  case round =>
    obtain ⟨i, hi, rfl, HA⟩ := hrel
    obtain ⟨P, hP⟩ : ∃ P, 2 ^ i = P := ⟨_, rfl⟩
    have S2 : Hid (∀ W, Calls Try.prog 22 #[.int .i64 (i : Int)] W fun e w' => e = .returned (.int .i64 (P : Int)) ∧ w' = W) := Lib.hid (fun W => by have := size_any W (i : Int); rw [siz_nat (by omega), hP] at this; exact this)
    by_cases hlt : P < u
    · have hi9 : i < 9 := by
        rcases Nat.lt_or_ge i 9 with h | h
        · exact h
        · have : i = 9 := by omega
          subst this
          rw [show (2 : Nat) ^ 9 = 512 by decide] at hP
          omega
      have dl : decide ((P : Int) < (u : Int)) = true := decide_eq_true (by omega)
      have HB : Hid (∀ j, j < i + 1 → 2 ^ j < u) := Lib.hid (fun j hj => by
        rcases Nat.lt_or_ge j i with h | h
        · exact HA.out j h
        · rw [show j = i by omega, hP]; exact hlt)
      clear hP
      go_wp2_with (go_at_call 22; refine (S2.out _).mono ?_; rintro e w' ⟨rfl, rfl⟩)
      exact ⟨⟨i + 1, by omega, by simp, HB⟩, by simp [intOf]; omega⟩
    · have dl : decide ((P : Int) < (u : Int)) = false := decide_eq_false (by omega)
      have HK : Hid (blen (u - 1) = i) := Lib.hid (blen_room htwo HA.out (by rw [hP]; omega))
      rw [HK.out] at HE
      clear hP HA HK
      go_wp2_with (go_at_call 22; refine (S2.out _).mono ?_; rintro e w' ⟨rfl, rfl⟩)
      go_loop [5, 9] (fun t p => ∃ a f : Nat, t = .int .i64 (a : Int) ∧ p = .int .i64 (f : Int) ∧ 1 ≤ a ∧ a ≤ T ∧ f ≤ 40 ∧ Hid (T / 2 ^ f = a)) (fun t _ => (intOf t).toNat)
      case atStart => exact ⟨T, 0, rfl, rfl, hT1, Nat.le_refl _, by omega, Lib.hid (by simp)⟩
      case round =>
        obtain ⟨a, f, rfl, rfl, ha, haT, hf, HF⟩ := hrel
        by_cases h1 : 1 < a
        · have da : decide ((1 : Int) < (a : Int)) = true := decide_eq_true (by omega)
          have hs2 := half_step HF.out
          have hf2 := half_le hs2 (by omega) htb
          have HF2 := Lib.hid hs2
          clear hs2 HF
          go_wp2
          exact ⟨⟨a / 2, f + 1, by simp, by simp, by omega, by omega, hf2, HF2⟩, by simp [intOf]; omega⟩
        · have ha1 : a = 1 := by omega
          subst ha1
          have HL := Lib.hid (blen_half HF.out)
          rw [HL.out] at HE
          clear HF HL
          go_wp2
          all_goals
            go_ret
            refine ⟨congrArg (fun z => Ending.returned (Value.int .i64 z)) ?_, rfl⟩
            rw [HE.out]
            (try simp)
            (try omega)

set_option maxRecDepth 100000 in
set_option maxHeartbeats 4000000 in
theorem rlog_neg (w : World) (A : Option Addr) (l : List Int) (N c : Nat) (most : Int) (hN : l.length = N) (hb : N ≤ 1000000000) (hR : Ri w A l) (h : most < 0) :
    Calls Try.prog 19 #[.slice A N c, .int .i64 most] w fun e w' => e = .returned (.int .i64 (rcl l most)) ∧ w' = w := by
  have SV := Lib.hid (rcounts_any w A l N c hN hb hR)
  unfold srv at SV
  have e1 : rcl l most = -1 := by unfold rcl; rw [if_pos (.inl (by omega))]
  rw [e1]
  have hd9 : decide (9 < most) = false := decide_eq_false (by omega)
  have hd0 : decide (most < 0) = true := decide_eq_true h
  cases hm : may l with
  | false =>
    rw [hm] at SV
    clear hN hR e1
    go_enter Try.func19, Try.ntmps19
    go_wp2_with (go_at_call 21; refine SV.out.mono ?_; rintro e w' ⟨rfl, rfl⟩)
    go_ret
    exact ⟨rfl, rfl⟩
  | true =>
    rw [hm] at SV
    clear hN hR e1
    go_enter Try.func19, Try.ntmps19
    go_wp2_with (go_at_call 21; refine SV.out.mono ?_; rintro e w' ⟨rfl, rfl⟩)
    go_ret
    exact ⟨rfl, rfl⟩

theorem rlog_any (w : World) (A : Option Addr) (l : List Int) (N c : Nat) (most : Int) (hN : l.length = N) (hb : N ≤ 1000000000) (hR : Ri w A l) :
    Calls Try.prog 19 #[.slice A N c, .int .i64 most] w fun e w' => e = .returned (.int .i64 (rcl l most)) ∧ w' = w := by
  by_cases h0 : most < 0
  · exact rlog_neg w A l N c most hN hb hR h0
  · have key : ∀ s : Nat, 1 ≤ s → may l = false ∨ (may l = true ∧ s < us l) ∨ (may l = true ∧ us l = 1 ∧ 1 ≤ s) ∨ (may l = true ∧ us l ≤ s ∧ 2 ≤ us l) := fun s hs => by
      cases hm : may l with
      | false => exact .inl rfl
      | true =>
        have : 0 < us l := by unfold may at hm; simpa using hm
        right
        rcases Nat.lt_or_ge s (us l) with h | h
        · exact .inl ⟨rfl, h⟩
        · right
          by_cases h1 : us l = 1
          · exact .inl ⟨rfl, h1, hs⟩
          · exact .inr ⟨rfl, h, by omega⟩
    by_cases h9 : 9 < most
    · rcases key 512 (by omega) with h | ⟨h, h1⟩ | ⟨h, h1, h2⟩ | ⟨h, h1, h2⟩
      · exact rlog_badb w A l N c most hN hb hR h9 h
      · exact rlog_bigb w A l N c most hN hb hR h9 h h1
      · exact rlog_oneb w A l N c most hN hb hR h9 h h1 h2
      · exact rlog_genb w A l N c most hN hb hR h9 h h1 h2
    · rcases key (2 ^ most.toNat) (Nat.one_le_two_pow) with h | ⟨h, h1⟩ | ⟨h, h1, h2⟩ | ⟨h, h1, h2⟩
      · exact rlog_bada w A l N c most hN hb hR most.toNat _ (by omega) (by omega) rfl h
      · exact rlog_biga w A l N c most hN hb hR most.toNat _ (by omega) (by omega) rfl h h1
      · exact rlog_onea w A l N c most hN hb hR most.toNat _ (by omega) (by omega) rfl h h1 h2
      · exact rlog_gena w A l N c most hN hb hR most.toNat _ (by omega) (by omega) rfl h h1 h2

end Go.Proofs.Ytkojdhmgefggjaa
