/-
  What norm.RecommendLog does: the recommended Log, or -1. Nothing has changed. Condition: the counts are integers that a slice can hold.
-/
import Derived.Test.YtkojdhmgefggjaaLog
namespace Go.Proofs.Ytkojdhmgefggjaa
open Go.RowKit

/-- The recommended Log. -/
def rcl (l : List Int) (most : Int) : Int :=
  if min most 9 < 0 ∨ may l = false ∨ 2 ^ (min most 9).toNat < us l then -1
  else if us l = 1 then 0 else min (min most 9) (max (blen (us l - 1) : Int) ((blen (tl l) : Int) - 2))
theorem pow9_le {lg : Nat} (h : lg ≤ 9) : 2 ^ lg ≤ 512 := by
  have := Nat.pow_le_pow_right (show 0 < 2 by decide) h
  rw [show (2 : Nat) ^ 9 = 512 by decide] at this
  exact this
theorem pow9_wrap {lg s : Nat} (hs : 2 ^ lg = s) (h : s ≤ 512) : wrap64 (2 ^ lg) = (s : Int) := by
  have : (2 : Int) ^ lg = (s : Int) := by rw [← hs]; exact (Int.natCast_pow 2 lg).symm
  rw [this]
  unfold wrap64
  omega
theorem blen_le {x : Nat} (h : x ≤ 1099511627776) : blen x ≤ 41 := by
  unfold blen
  split
  · omega
  · next h0 =>
    have := (Nat.log2_lt h0).2 (show x < 2 ^ 41 by omega)
    omega
theorem us_le (l : List Int) : us l ≤ l.length := by
  unfold us
  split
  · have := nus_le (l.map Int.toNat); simpa using this
  · omega
theorem tl_le (l : List Int) : tl l ≤ 1099511627776 := by
  unfold tl
  split
  · next h => exact fine_tot h
  · omega

set_option maxRecDepth 100000 in
set_option maxHeartbeats 2000000 in
theorem recommend_neg (w : World) (A : Option Addr) (l : List Int) (N c : Nat) (most : Int) (hN : l.length = N) (hb : N ≤ 1000000000) (hR : Ri w A l) (h : most < 0) :
    Calls Try.prog 18 #[.slice A N c, .int .i64 most] w fun e w' => e = .returned (.int .i64 (rcl l most)) ∧ w' = w := by
  have SV := Lib.hid (survey_any w A l N c hN hb hR)
  have hub := us_le l
  rw [hN] at hub
  have htb := tl_le l
  unfold srv at SV
  obtain ⟨R, hRR⟩ : ∃ R, rcl l most = R := ⟨_, rfl⟩
  rw [hRR]
  have HE : Hid (R = -1) := Lib.hid (by rw [← hRR]; unfold rcl; rw [if_pos (.inl (by omega))])
  clear hRR hN hR
  go_enter Try.func18, Try.ntmps18
  go_wp2_with (first
    | (go_at_call 26; refine SV.out.mono ?_; rintro e w' ⟨rfl, rfl⟩)
    | (go_at_call 30; refine LA.out.mono ?_; rintro e w' ⟨rfl, rfl⟩)
    | (go_at_call 30; refine LB.out.mono ?_; rintro e w' ⟨rfl, rfl⟩))
  go_ret
  exact ⟨by rw [HE.out]; rfl, rfl⟩

set_option maxRecDepth 100000 in
set_option maxHeartbeats 2000000 in
theorem recommend_bada (w : World) (A : Option Addr) (l : List Int) (N c : Nat) (most : Int) (hN : l.length = N) (hb : N ≤ 1000000000) (hR : Ri w A l) (lg s : Nat) (hlg : lg ≤ 9) (hmo : most = (lg : Int)) (hs : 2 ^ lg = s) (hm : may l = false) :
    Calls Try.prog 18 #[.slice A N c, .int .i64 most] w fun e w' => e = .returned (.int .i64 (rcl l most)) ∧ w' = w := by
  subst hmo
  have hs5 : s ≤ 512 := by rw [← hs]; exact pow9_le hlg
  have hsh : wrap64 (2 ^ lg) = (s : Int) := pow9_wrap hs hs5
  have hmn : min ((lg : Int)) 9 = (lg : Int) := by omega
  have hps : 2 ^ (min ((lg : Int)) 9).toNat = s := by rw [hmn]; simpa using hs
  have SV := Lib.hid (survey_any w A l N c hN hb hR)
  have hub := us_le l
  rw [hN] at hub
  have htb := tl_le l
  unfold srv at SV
  obtain ⟨R, hRR⟩ : ∃ R, rcl l (lg : Int) = R := ⟨_, rfl⟩
  rw [hRR]
  have HE : Hid (R = -1) := Lib.hid (by rw [← hRR]; unfold rcl; rw [if_pos (.inr (.inl hm))])
  obtain ⟨T, hT⟩ : ∃ T, tl l = T := ⟨_, rfl⟩
  obtain ⟨u, hu⟩ : ∃ u, us l = u := ⟨_, rfl⟩
  rw [hT] at SV htb
  rw [hu] at SV hub
  (try rw [hT] at HE)
  (try rw [hu] at HE)
  rw [hm] at SV
  clear hs hps
  clear hRR hN hR hT hu
  go_enter Try.func18, Try.ntmps18
  go_wp2_with (first
    | (go_at_call 26; refine SV.out.mono ?_; rintro e w' ⟨rfl, rfl⟩)
    | (go_at_call 30; with_reducible refine LA.out.mono ?_; rintro e w' ⟨rfl, rfl⟩)
    | (go_at_call 30; with_reducible refine LB.out.mono ?_; rintro e w' ⟨rfl, rfl⟩))
  all_goals
    go_ret
    refine ⟨congrArg (fun z => Ending.returned (Value.int .i64 z)) ?_, rfl⟩
    rw [HE.out]

    (try omega)

set_option maxRecDepth 100000 in
set_option maxHeartbeats 2000000 in
theorem recommend_badb (w : World) (A : Option Addr) (l : List Int) (N c : Nat) (most : Int) (hN : l.length = N) (hb : N ≤ 1000000000) (hR : Ri w A l) (hmo : 9 < most) (hm : may l = false) :
    Calls Try.prog 18 #[.slice A N c, .int .i64 most] w fun e w' => e = .returned (.int .i64 (rcl l most)) ∧ w' = w := by
  have hmn : min most 9 = 9 := by omega
  have hps : 2 ^ (min most 9).toNat = 512 := by rw [hmn]; rfl
  have SV := Lib.hid (survey_any w A l N c hN hb hR)
  have hub := us_le l
  rw [hN] at hub
  have htb := tl_le l
  unfold srv at SV
  obtain ⟨R, hRR⟩ : ∃ R, rcl l most = R := ⟨_, rfl⟩
  rw [hRR]
  have HE : Hid (R = -1) := Lib.hid (by rw [← hRR]; unfold rcl; rw [if_pos (.inr (.inl hm))])
  obtain ⟨T, hT⟩ : ∃ T, tl l = T := ⟨_, rfl⟩
  obtain ⟨u, hu⟩ : ∃ u, us l = u := ⟨_, rfl⟩
  rw [hT] at SV htb
  rw [hu] at SV hub
  (try rw [hT] at HE)
  (try rw [hu] at HE)
  rw [hm] at SV
  clear hps
  clear hRR hN hR hT hu
  go_enter Try.func18, Try.ntmps18
  go_wp2_with (first
    | (go_at_call 26; refine SV.out.mono ?_; rintro e w' ⟨rfl, rfl⟩)
    | (go_at_call 30; with_reducible refine LA.out.mono ?_; rintro e w' ⟨rfl, rfl⟩)
    | (go_at_call 30; with_reducible refine LB.out.mono ?_; rintro e w' ⟨rfl, rfl⟩))
  all_goals
    go_ret
    refine ⟨congrArg (fun z => Ending.returned (Value.int .i64 z)) ?_, rfl⟩
    rw [HE.out]

    (try omega)

set_option maxRecDepth 100000 in
set_option maxHeartbeats 2000000 in
theorem recommend_biga (w : World) (A : Option Addr) (l : List Int) (N c : Nat) (most : Int) (hN : l.length = N) (hb : N ≤ 1000000000) (hR : Ri w A l) (lg s : Nat) (hlg : lg ≤ 9) (hmo : most = (lg : Int)) (hs : 2 ^ lg = s) (hm : may l = true) (hbig : s < us l) :
    Calls Try.prog 18 #[.slice A N c, .int .i64 most] w fun e w' => e = .returned (.int .i64 (rcl l most)) ∧ w' = w := by
  subst hmo
  have hs5 : s ≤ 512 := by rw [← hs]; exact pow9_le hlg
  have hsh : wrap64 (2 ^ lg) = (s : Int) := pow9_wrap hs hs5
  have hmn : min ((lg : Int)) 9 = (lg : Int) := by omega
  have hps : 2 ^ (min ((lg : Int)) 9).toNat = s := by rw [hmn]; simpa using hs
  have SV := Lib.hid (survey_any w A l N c hN hb hR)
  have hub := us_le l
  rw [hN] at hub
  have htb := tl_le l
  unfold srv at SV
  obtain ⟨R, hRR⟩ : ∃ R, rcl l (lg : Int) = R := ⟨_, rfl⟩
  rw [hRR]
  have HE : Hid (R = -1) := Lib.hid (by rw [← hRR]; unfold rcl; rw [if_pos (.inr (.inr (by rw [hps]; exact hbig)))])
  obtain ⟨T, hT⟩ : ∃ T, tl l = T := ⟨_, rfl⟩
  obtain ⟨u, hu⟩ : ∃ u, us l = u := ⟨_, rfl⟩
  rw [hT] at SV htb
  rw [hu] at SV hub
  (try rw [hT] at HE)
  (try rw [hu] at HE)
  rw [hm] at SV
  rw [hu] at hbig
  have dd : decide ((s : Int) < (u : Int)) = true := decide_eq_true (by omega)
  clear hs hps
  clear hRR hN hR hT hu
  go_enter Try.func18, Try.ntmps18
  go_wp2_with (first
    | (go_at_call 26; refine SV.out.mono ?_; rintro e w' ⟨rfl, rfl⟩)
    | (go_at_call 30; with_reducible refine LA.out.mono ?_; rintro e w' ⟨rfl, rfl⟩)
    | (go_at_call 30; with_reducible refine LB.out.mono ?_; rintro e w' ⟨rfl, rfl⟩))
  all_goals
    go_ret
    refine ⟨congrArg (fun z => Ending.returned (Value.int .i64 z)) ?_, rfl⟩
    rw [HE.out]

    (try omega)

set_option maxRecDepth 100000 in
set_option maxHeartbeats 2000000 in
theorem recommend_bigb (w : World) (A : Option Addr) (l : List Int) (N c : Nat) (most : Int) (hN : l.length = N) (hb : N ≤ 1000000000) (hR : Ri w A l) (hmo : 9 < most) (hm : may l = true) (hbig : 512 < us l) :
    Calls Try.prog 18 #[.slice A N c, .int .i64 most] w fun e w' => e = .returned (.int .i64 (rcl l most)) ∧ w' = w := by
  have hmn : min most 9 = 9 := by omega
  have hps : 2 ^ (min most 9).toNat = 512 := by rw [hmn]; rfl
  have SV := Lib.hid (survey_any w A l N c hN hb hR)
  have hub := us_le l
  rw [hN] at hub
  have htb := tl_le l
  unfold srv at SV
  obtain ⟨R, hRR⟩ : ∃ R, rcl l most = R := ⟨_, rfl⟩
  rw [hRR]
  have HE : Hid (R = -1) := Lib.hid (by rw [← hRR]; unfold rcl; rw [if_pos (.inr (.inr (by rw [hps]; exact hbig)))])
  obtain ⟨T, hT⟩ : ∃ T, tl l = T := ⟨_, rfl⟩
  obtain ⟨u, hu⟩ : ∃ u, us l = u := ⟨_, rfl⟩
  rw [hT] at SV htb
  rw [hu] at SV hub
  (try rw [hT] at HE)
  (try rw [hu] at HE)
  rw [hm] at SV
  rw [hu] at hbig
  have dd : decide ((512 : Int) < (u : Int)) = true := decide_eq_true (by omega)
  clear hps
  clear hRR hN hR hT hu
  go_enter Try.func18, Try.ntmps18
  go_wp2_with (first
    | (go_at_call 26; refine SV.out.mono ?_; rintro e w' ⟨rfl, rfl⟩)
    | (go_at_call 30; with_reducible refine LA.out.mono ?_; rintro e w' ⟨rfl, rfl⟩)
    | (go_at_call 30; with_reducible refine LB.out.mono ?_; rintro e w' ⟨rfl, rfl⟩))
  all_goals
    go_ret
    refine ⟨congrArg (fun z => Ending.returned (Value.int .i64 z)) ?_, rfl⟩
    rw [HE.out]

    (try omega)

set_option maxRecDepth 100000 in
set_option maxHeartbeats 2000000 in
theorem recommend_onea (w : World) (A : Option Addr) (l : List Int) (N c : Nat) (most : Int) (hN : l.length = N) (hb : N ≤ 1000000000) (hR : Ri w A l) (lg s : Nat) (hlg : lg ≤ 9) (hmo : most = (lg : Int)) (hs : 2 ^ lg = s) (hm : may l = true) (hone : us l = 1) (h1s : 1 ≤ s) :
    Calls Try.prog 18 #[.slice A N c, .int .i64 most] w fun e w' => e = .returned (.int .i64 (rcl l most)) ∧ w' = w := by
  subst hmo
  have hs5 : s ≤ 512 := by rw [← hs]; exact pow9_le hlg
  have hsh : wrap64 (2 ^ lg) = (s : Int) := pow9_wrap hs hs5
  have hmn : min ((lg : Int)) 9 = (lg : Int) := by omega
  have hps : 2 ^ (min ((lg : Int)) 9).toNat = s := by rw [hmn]; simpa using hs
  have SV := Lib.hid (survey_any w A l N c hN hb hR)
  have hub := us_le l
  rw [hN] at hub
  have htb := tl_le l
  unfold srv at SV
  obtain ⟨R, hRR⟩ : ∃ R, rcl l (lg : Int) = R := ⟨_, rfl⟩
  rw [hRR]
  have HE : Hid (R = 0) := Lib.hid (by rw [← hRR]; unfold rcl; rw [if_neg (by rw [hps, hm, hmn, hone]; simp; try omega), if_pos hone])
  obtain ⟨T, hT⟩ : ∃ T, tl l = T := ⟨_, rfl⟩
  obtain ⟨u, hu⟩ : ∃ u, us l = u := ⟨_, rfl⟩
  rw [hT] at SV htb
  rw [hu] at SV hub
  (try rw [hT] at HE)
  (try rw [hu] at HE)
  rw [hm] at SV
  rw [hu] at hone
  subst hone
  have h1t := h1s
  have dd : decide ((s : Int) < 1) = false := decide_eq_false (by omega)
  clear hs hps
  clear hRR hN hR hT hu
  go_enter Try.func18, Try.ntmps18
  go_wp2_with (first
    | (go_at_call 26; refine SV.out.mono ?_; rintro e w' ⟨rfl, rfl⟩)
    | (go_at_call 30; with_reducible refine LA.out.mono ?_; rintro e w' ⟨rfl, rfl⟩)
    | (go_at_call 30; with_reducible refine LB.out.mono ?_; rintro e w' ⟨rfl, rfl⟩))
  all_goals
    go_ret
    refine ⟨congrArg (fun z => Ending.returned (Value.int .i64 z)) ?_, rfl⟩
    rw [HE.out]

    (try omega)

set_option maxRecDepth 100000 in
set_option maxHeartbeats 2000000 in
theorem recommend_oneb (w : World) (A : Option Addr) (l : List Int) (N c : Nat) (most : Int) (hN : l.length = N) (hb : N ≤ 1000000000) (hR : Ri w A l) (hmo : 9 < most) (hm : may l = true) (hone : us l = 1) (h1s : 1 ≤ 512) :
    Calls Try.prog 18 #[.slice A N c, .int .i64 most] w fun e w' => e = .returned (.int .i64 (rcl l most)) ∧ w' = w := by
  have hmn : min most 9 = 9 := by omega
  have hps : 2 ^ (min most 9).toNat = 512 := by rw [hmn]; rfl
  have SV := Lib.hid (survey_any w A l N c hN hb hR)
  have hub := us_le l
  rw [hN] at hub
  have htb := tl_le l
  unfold srv at SV
  obtain ⟨R, hRR⟩ : ∃ R, rcl l most = R := ⟨_, rfl⟩
  rw [hRR]
  have HE : Hid (R = 0) := Lib.hid (by rw [← hRR]; unfold rcl; rw [if_neg (by rw [hps, hm, hmn, hone]; simp; try omega), if_pos hone])
  obtain ⟨T, hT⟩ : ∃ T, tl l = T := ⟨_, rfl⟩
  obtain ⟨u, hu⟩ : ∃ u, us l = u := ⟨_, rfl⟩
  rw [hT] at SV htb
  rw [hu] at SV hub
  (try rw [hT] at HE)
  (try rw [hu] at HE)
  rw [hm] at SV
  rw [hu] at hone
  subst hone
  have h1t := h1s
  have dd : decide ((512 : Int) < 1) = false := decide_eq_false (by omega)
  clear hps
  clear hRR hN hR hT hu
  go_enter Try.func18, Try.ntmps18
  go_wp2_with (first
    | (go_at_call 26; refine SV.out.mono ?_; rintro e w' ⟨rfl, rfl⟩)
    | (go_at_call 30; with_reducible refine LA.out.mono ?_; rintro e w' ⟨rfl, rfl⟩)
    | (go_at_call 30; with_reducible refine LB.out.mono ?_; rintro e w' ⟨rfl, rfl⟩))
  all_goals
    go_ret
    refine ⟨congrArg (fun z => Ending.returned (Value.int .i64 z)) ?_, rfl⟩
    rw [HE.out]

    (try omega)

set_option maxRecDepth 100000 in
set_option maxHeartbeats 2000000 in
theorem recommend_gena (w : World) (A : Option Addr) (l : List Int) (N c : Nat) (most : Int) (hN : l.length = N) (hb : N ≤ 1000000000) (hR : Ri w A l) (lg s : Nat) (hlg : lg ≤ 9) (hmo : most = (lg : Int)) (hs : 2 ^ lg = s) (hm : may l = true) (hbig : us l ≤ s) (htwo : 2 ≤ us l) :
    Calls Try.prog 18 #[.slice A N c, .int .i64 most] w fun e w' => e = .returned (.int .i64 (rcl l most)) ∧ w' = w := by
  subst hmo
  have hs5 : s ≤ 512 := by rw [← hs]; exact pow9_le hlg
  have hsh : wrap64 (2 ^ lg) = (s : Int) := pow9_wrap hs hs5
  have hmn : min ((lg : Int)) 9 = (lg : Int) := by omega
  have hps : 2 ^ (min ((lg : Int)) 9).toNat = s := by rw [hmn]; simpa using hs
  have SV := Lib.hid (survey_any w A l N c hN hb hR)
  have hub := us_le l
  rw [hN] at hub
  have htb := tl_le l
  unfold srv at SV
  obtain ⟨R, hRR⟩ : ∃ R, rcl l (lg : Int) = R := ⟨_, rfl⟩
  rw [hRR]
  have HE : Hid (R = min (lg : Int) (max (blen (us l - 1) : Int) ((blen (tl l) : Int) - 2))) := Lib.hid (by rw [← hRR]; unfold rcl; rw [if_neg (by rw [hps, hm, hmn]; simp; try omega), if_neg (by omega), hmn])
  obtain ⟨T, hT⟩ : ∃ T, tl l = T := ⟨_, rfl⟩
  obtain ⟨u, hu⟩ : ∃ u, us l = u := ⟨_, rfl⟩
  rw [hT] at SV htb
  rw [hu] at SV hub
  (try rw [hT] at HE)
  (try rw [hu] at HE)
  rw [hm] at SV
  rw [hu] at hbig htwo
  have dd : decide ((s : Int) < (u : Int)) = false := decide_eq_false (by omega)
  have d1 : ((u : Int) == 1) = false := by simp; omega
  have hu1 : (u : Int) - 1 = ((u - 1 : Nat) : Int) := by omega
  have LA := Lib.hid (len_any w (u - 1) (by omega))
  have LB := Lib.hid (len_any w T (by omega))
  have hba := blen_le (x := u - 1) (by omega)
  have hbb := blen_le (x := T) htb
  obtain ⟨u1, hu1e⟩ : ∃ u1, u - 1 = u1 := ⟨_, rfl⟩
  rw [hu1e] at LA HE hba hu1
  obtain ⟨ba, hbae⟩ : ∃ ba, blen u1 = ba := ⟨_, rfl⟩
  obtain ⟨bb, hbbe⟩ : ∃ bb, blen T = bb := ⟨_, rfl⟩
  rw [hbae] at LA HE hba
  rw [hbbe] at LB HE hbb
  have hub2 : u1 ≤ 1000000000 := by omega
  clear hbae hbbe hu1e
  clear hs hps
  clear hRR hN hR hT hu
  go_enter Try.func18, Try.ntmps18
  go_wp2_with (first
    | (go_at_call 26; refine SV.out.mono ?_; rintro e w' ⟨rfl, rfl⟩)
    | (go_at_call 30; with_reducible refine LA.out.mono ?_; rintro e w' ⟨rfl, rfl⟩)
    | (go_at_call 30; with_reducible refine LB.out.mono ?_; rintro e w' ⟨rfl, rfl⟩))
  all_goals
    go_ret
    refine ⟨congrArg (fun z => Ending.returned (Value.int .i64 z)) ?_, rfl⟩
    rw [HE.out]

    (try omega)

set_option maxRecDepth 100000 in
set_option maxHeartbeats 2000000 in
theorem recommend_genb (w : World) (A : Option Addr) (l : List Int) (N c : Nat) (most : Int) (hN : l.length = N) (hb : N ≤ 1000000000) (hR : Ri w A l) (hmo : 9 < most) (hm : may l = true) (hbig : us l ≤ 512) (htwo : 2 ≤ us l) :
    Calls Try.prog 18 #[.slice A N c, .int .i64 most] w fun e w' => e = .returned (.int .i64 (rcl l most)) ∧ w' = w := by
  have hmn : min most 9 = 9 := by omega
  have hps : 2 ^ (min most 9).toNat = 512 := by rw [hmn]; rfl
  have SV := Lib.hid (survey_any w A l N c hN hb hR)
  have hub := us_le l
  rw [hN] at hub
  have htb := tl_le l
  unfold srv at SV
  obtain ⟨R, hRR⟩ : ∃ R, rcl l most = R := ⟨_, rfl⟩
  rw [hRR]
  have HE : Hid (R = min 9 (max (blen (us l - 1) : Int) ((blen (tl l) : Int) - 2))) := Lib.hid (by rw [← hRR]; unfold rcl; rw [if_neg (by rw [hps, hm, hmn]; simp; try omega), if_neg (by omega), hmn])
  obtain ⟨T, hT⟩ : ∃ T, tl l = T := ⟨_, rfl⟩
  obtain ⟨u, hu⟩ : ∃ u, us l = u := ⟨_, rfl⟩
  rw [hT] at SV htb
  rw [hu] at SV hub
  (try rw [hT] at HE)
  (try rw [hu] at HE)
  rw [hm] at SV
  rw [hu] at hbig htwo
  have dd : decide ((512 : Int) < (u : Int)) = false := decide_eq_false (by omega)
  have d1 : ((u : Int) == 1) = false := by simp; omega
  have hu1 : (u : Int) - 1 = ((u - 1 : Nat) : Int) := by omega
  have LA := Lib.hid (len_any w (u - 1) (by omega))
  have LB := Lib.hid (len_any w T (by omega))
  have hba := blen_le (x := u - 1) (by omega)
  have hbb := blen_le (x := T) htb
  obtain ⟨u1, hu1e⟩ : ∃ u1, u - 1 = u1 := ⟨_, rfl⟩
  rw [hu1e] at LA HE hba hu1
  obtain ⟨ba, hbae⟩ : ∃ ba, blen u1 = ba := ⟨_, rfl⟩
  obtain ⟨bb, hbbe⟩ : ∃ bb, blen T = bb := ⟨_, rfl⟩
  rw [hbae] at LA HE hba
  rw [hbbe] at LB HE hbb
  have hub2 : u1 ≤ 1000000000 := by omega
  clear hbae hbbe hu1e
  clear hps
  clear hRR hN hR hT hu
  go_enter Try.func18, Try.ntmps18
  go_wp2_with (first
    | (go_at_call 26; refine SV.out.mono ?_; rintro e w' ⟨rfl, rfl⟩)
    | (go_at_call 30; with_reducible refine LA.out.mono ?_; rintro e w' ⟨rfl, rfl⟩)
    | (go_at_call 30; with_reducible refine LB.out.mono ?_; rintro e w' ⟨rfl, rfl⟩))
  all_goals
    go_ret
    refine ⟨congrArg (fun z => Ending.returned (Value.int .i64 z)) ?_, rfl⟩
    rw [HE.out]

    (try omega)

theorem recommend_any (w : World) (A : Option Addr) (l : List Int) (N c : Nat) (most : Int) (hN : l.length = N) (hb : N ≤ 1000000000) (hR : Ri w A l) :
    Calls Try.prog 18 #[.slice A N c, .int .i64 most] w fun e w' => e = .returned (.int .i64 (rcl l most)) ∧ w' = w := by
  by_cases h0 : most < 0
  · exact recommend_neg w A l N c most hN hb hR h0
  · have key : ∀ s : Nat, 1 ≤ s → may l = false ∨ (may l = true ∧ s < us l) ∨ (may l = true ∧ us l = 1 ∧ 1 ≤ s) ∨ (may l = true ∧ us l ≤ s ∧ 2 ≤ us l) := fun s hs => by
      cases hm : may l with
      | false => exact .inl rfl
      | true =>
        have : 0 < us l := by unfold may at hm; simpa using hm
        right
        rcases Nat.lt_or_ge s (us l) with h | h
        · exact .inl ⟨rfl, h⟩
        · right
          by_cases h1 : us l = 1
          · exact .inl ⟨rfl, h1, hs⟩
          · exact .inr ⟨rfl, h, by omega⟩
    by_cases h9 : 9 < most
    · rcases key 512 (by omega) with h | ⟨h, h1⟩ | ⟨h, h1, h2⟩ | ⟨h, h1, h2⟩
      · exact recommend_badb w A l N c most hN hb hR h9 h
      · exact recommend_bigb w A l N c most hN hb hR h9 h h1
      · exact recommend_oneb w A l N c most hN hb hR h9 h h1 h2
      · exact recommend_genb w A l N c most hN hb hR h9 h h1 h2
    · rcases key (2 ^ most.toNat) (Nat.one_le_two_pow) with h | ⟨h, h1⟩ | ⟨h, h1, h2⟩ | ⟨h, h1, h2⟩
      · exact recommend_bada w A l N c most hN hb hR most.toNat _ (by omega) (by omega) rfl h
      · exact recommend_biga w A l N c most hN hb hR most.toNat _ (by omega) (by omega) rfl h h1
      · exact recommend_onea w A l N c most hN hb hR most.toNat _ (by omega) (by omega) rfl h h1 h2
      · exact recommend_gena w A l N c most hN hb hR most.toNat _ (by omega) (by omega) rfl h h1 h2

end Go.Proofs.Ytkojdhmgefggjaa
