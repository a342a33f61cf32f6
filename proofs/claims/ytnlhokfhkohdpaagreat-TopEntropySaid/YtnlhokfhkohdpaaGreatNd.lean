/-
  What bits.Len64 and bits.Len do: the number of bits. Nothing has changed. Conditions: the numbers are in their ranges.
  What norm.RecommendLog does: the recommended Log, or -1. Nothing has changed. Condition: the counts are integers that a slice can hold.
-/
import Derived.Test.YtnlhokfhkohdpaaGreatNa
import Derived.Lib.BitFns
import Derived.Lib.Strings
import Derived.Lib.Slices
import Derived.Lib.Small
import Derived.Lib.Walk
namespace Go.Proofs.YtnlhokfhkohdpaaGreat.No
open Go.RowKit

/-- The number of bits of a number. -/
def blen (x : Nat) : Nat := if x = 0 then 0 else x.log2 + 1

theorem tab_len (s : ByteArray) (hs : decide (∀ x (h : x < s.size), wrap64 (s[x].toNat : Int) = (blen x : Int)) = true) (x : Nat) (h : x < s.size) : wrap64 (s[x].toNat : Int) = (blen x : Int) := of_decide_eq_true hs x h

theorem blen_div {v : Nat} (s : Nat) (h : 2 ^ s ≤ v) : blen (v / 2 ^ s) + s = blen v := by
  have hv : v ≠ 0 := by have := Nat.two_pow_pos s; omega
  have hd : v / 2 ^ s ≠ 0 := by have := Nat.div_pos h (Nat.two_pow_pos s); omega
  unfold blen
  rw [if_neg hv, if_neg hd]
  obtain ⟨h1, h2⟩ := (Nat.log2_eq_iff hd).1 rfl
  have : v.log2 = (v / 2 ^ s).log2 + s := by
    rw [Nat.log2_eq_iff hv]
    constructor
    · rw [Nat.pow_add]
      exact (Nat.le_div_iff_mul_le (Nat.two_pow_pos s)).1 h1
    · rw [show (v / 2 ^ s).log2 + s + 1 = ((v / 2 ^ s).log2 + 1) + s by omega, Nat.pow_add]
      exact (Nat.div_lt_iff_lt_mul (Nat.two_pow_pos s)).1 h2
  omega

theorem tab_sz : Lib.len8tab.size = 256 := by kernel_rfl
theorem tab_blen : decide (∀ x (h : x < Lib.len8tab.size), wrap64 (Lib.len8tab[x].toNat : Int) = (blen x : Int)) = true := by decide +kernel
theorem blen_8 {y : Nat} (h : y < 256) : blen y ≤ 8 := by
  unfold blen
  split
  · omega
  · next h0 =>
    have := (Nat.log2_lt h0).2 (show y < 2 ^ 8 by omega)
    omega

theorem tab_fin (v s D y : Nat) (h : y < Lib.len8tab.size) (hD : D = 2 ^ s) (hy : y = v / D) (hs : D ≤ v) (h56 : s ≤ 56) : wrap64 ((s : Int) + wrap64 (Lib.len8tab[y].toNat : Int)) = (blen v : Int) := by
  rw [tab_len _ tab_blen y h]
  have h8 := blen_8 (show y < 256 by rw [tab_sz] at h; exact h)
  subst hD
  have := blen_div s hs
  rw [← hy] at this
  rw [← this]
  unfold wrap64
  omega
theorem tab_fin0 (y : Nat) (h : y < Lib.len8tab.size) : wrap64 (wrap64 (Lib.len8tab[y].toNat : Int)) = (blen y : Int) := by
  rw [tab_len _ tab_blen y h]
  have h8 := blen_8 (show y < 256 by rw [tab_sz] at h; exact h)
  unfold wrap64
  omega

set_option maxRecDepth 100000 in
set_option maxHeartbeats 4000000 in
theorem len64_int (w : World) (x : Int) (h0 : 0 ≤ x) (h1 : x ≤ 18446744073709551615) : Calls Tryz.prog 42 #[.int .u64 x] w fun e w' => e = .returned (.int .i64 (blen x.toNat : Int)) ∧ w' = w := by
  have hsz := tab_sz
  go_enter Tryz.func42, Tryz.ntmps42
  go_wp2
  all_goals (go_ret; refine ⟨congrArg (fun z => Ending.returned (Value.int .i64 z)) ?_, rfl⟩)
  · exact tab_fin x.toNat 56 72057594037927936 _ (by rw [hsz]; omega) (by decide) (by omega) (by omega) (by omega)
  · exact tab_fin x.toNat 48 281474976710656 _ (by rw [hsz]; omega) (by decide) (by omega) (by omega) (by omega)
  · exact tab_fin x.toNat 40 1099511627776 _ (by rw [hsz]; omega) (by decide) (by omega) (by omega) (by omega)
  · exact tab_fin x.toNat 32 4294967296 _ (by rw [hsz]; omega) (by decide) (by omega) (by omega) (by omega)
  · exact tab_fin x.toNat 24 16777216 _ (by rw [hsz]; omega) (by decide) (by omega) (by omega) (by omega)
  · exact tab_fin x.toNat 16 65536 _ (by rw [hsz]; omega) (by decide) (by omega) (by omega) (by omega)
  · exact tab_fin x.toNat 8 256 _ (by rw [hsz]; omega) (by decide) (by omega) (by omega) (by omega)
  · exact tab_fin0 _ (by rw [hsz]; omega)

theorem len64_any (w : World) (v : Nat) (hv : v < 18446744073709551616) : Calls Tryz.prog 42 #[.int .u64 (v : Int)] w fun e w' => e = .returned (.int .i64 (blen v : Int)) ∧ w' = w :=
  len64_int w v (by omega) (by omega)

set_option maxRecDepth 100000 in
set_option maxHeartbeats 1000000 in
theorem len_any (w : World) (v : Nat) (hv : v < 18446744073709551616) : Calls Tryz.prog 16 #[.int .u64 (v : Int)] w fun e w' => e = .returned (.int .i64 (blen v : Int)) ∧ w' = w := by
  have L64 := Lib.hid (len64_any w v hv)
  go_enter Tryz.func16, Tryz.ntmps16
  go_wp2_with (go_at_call 42; refine L64.out.mono ?_; rintro e w' ⟨rfl, rfl⟩)
  go_ret
  exact ⟨rfl, rfl⟩

end Go.Proofs.YtnlhokfhkohdpaaGreat.No

namespace Go.Proofs.YtnlhokfhkohdpaaGreat.No
open Go.RowKit

/-- The recommended Log. -/
def rcl (l : List Int) (most : Int) : Int :=
  if min most 9 < 0 ∨ may l = false ∨ 2 ^ (min most 9).toNat < us l then -1
  else if us l = 1 then 0 else min (min most 9) (max (blen (us l - 1) : Int) ((blen (tl l) : Int) - 2))
theorem pow9_le {lg : Nat} (h : lg ≤ 9) : 2 ^ lg ≤ 512 := by
  have := Nat.pow_le_pow_right (show 0 < 2 by decide) h
  rw [show (2 : Nat) ^ 9 = 512 by decide] at this
  exact this
theorem pow9_wrap {lg s : Nat} (hs : 2 ^ lg = s) (h : s ≤ 512) : wrap64 (2 ^ lg) = (s : Int) := by
  have : (2 : Int) ^ lg = (s : Int) := by rw [← hs]; exact (Int.natCast_pow 2 lg).symm
  rw [this]
  unfold wrap64
  omega
theorem blen_le {x : Nat} (h : x ≤ 1099511627776) : blen x ≤ 41 := by
  unfold blen
  split
  · omega
  · next h0 =>
    have := (Nat.log2_lt h0).2 (show x < 2 ^ 41 by omega)
    omega
theorem us_le (l : List Int) : us l ≤ l.length := by
  unfold us
  split
  · have := nus_le (l.map Int.toNat); simpa using this
  · omega
theorem tl_le (l : List Int) : tl l ≤ 1099511627776 := by
  unfold tl
  split
  · next h => exact fine_tot h
  · omega

set_option maxRecDepth 100000 in
set_option maxHeartbeats 2000000 in
theorem recommend_neg (w : World) (A : Option Addr) (l : List Int) (N c : Nat) (most : Int) (hN : l.length = N) (hb : N ≤ 1000000000) (hR : Ri w A l) (h : most < 0) :
    Calls Tryz.prog 6 #[.slice A N c, .int .i64 most] w fun e w' => e = .returned (.int .i64 (rcl l most)) ∧ w' = w := by
  have SV := Lib.hid (survey_any w A l N c hN hb hR)
  have hub := us_le l
  rw [hN] at hub
  have htb := tl_le l
  unfold srv at SV
  obtain ⟨R, hRR⟩ : ∃ R, rcl l most = R := ⟨_, rfl⟩
  rw [hRR]
  have HE : Hid (R = -1) := Lib.hid (by rw [← hRR]; unfold rcl; rw [if_pos (.inl (by omega))])
  clear hRR hN hR
  go_enter Tryz.func6, Tryz.ntmps6
  go_wp2_with (first
    | (go_at_call 15; refine SV.out.mono ?_; rintro e w' ⟨rfl, rfl⟩)
    | (go_at_call 16; refine LA.out.mono ?_; rintro e w' ⟨rfl, rfl⟩)
    | (go_at_call 16; refine LB.out.mono ?_; rintro e w' ⟨rfl, rfl⟩))
  go_ret
  exact ⟨by rw [HE.out]; rfl, rfl⟩

set_option maxRecDepth 100000 in
set_option maxHeartbeats 2000000 in
theorem recommend_bada (w : World) (A : Option Addr) (l : List Int) (N c : Nat) (most : Int) (hN : l.length = N) (hb : N ≤ 1000000000) (hR : Ri w A l) (lg s : Nat) (hlg : lg ≤ 9) (hmo : most = (lg : Int)) (hs : 2 ^ lg = s) (hm : may l = false) :
    Calls Tryz.prog 6 #[.slice A N c, .int .i64 most] w fun e w' => e = .returned (.int .i64 (rcl l most)) ∧ w' = w := by
  subst hmo
  have hs5 : s ≤ 512 := by rw [← hs]; exact pow9_le hlg
  have hsh : wrap64 (2 ^ lg) = (s : Int) := pow9_wrap hs hs5
  have hmn : min ((lg : Int)) 9 = (lg : Int) := by omega
  have hps : 2 ^ (min ((lg : Int)) 9).toNat = s := by rw [hmn]; simpa using hs
  have SV := Lib.hid (survey_any w A l N c hN hb hR)
  have hub := us_le l
  rw [hN] at hub
  have htb := tl_le l
  unfold srv at SV
  obtain ⟨R, hRR⟩ : ∃ R, rcl l (lg : Int) = R := ⟨_, rfl⟩
  rw [hRR]
  have HE : Hid (R = -1) := Lib.hid (by rw [← hRR]; unfold rcl; rw [if_pos (.inr (.inl hm))])
  obtain ⟨T, hT⟩ : ∃ T, tl l = T := ⟨_, rfl⟩
  obtain ⟨u, hu⟩ : ∃ u, us l = u := ⟨_, rfl⟩
  rw [hT] at SV htb
  rw [hu] at SV hub
  (try rw [hT] at HE)
  (try rw [hu] at HE)
  rw [hm] at SV
  clear hs hps
  clear hRR hN hR hT hu
  go_enter Tryz.func6, Tryz.ntmps6
  go_wp2_with (first
    | (go_at_call 15; refine SV.out.mono ?_; rintro e w' ⟨rfl, rfl⟩)
    | (go_at_call 16; with_reducible refine LA.out.mono ?_; rintro e w' ⟨rfl, rfl⟩)
    | (go_at_call 16; with_reducible refine LB.out.mono ?_; rintro e w' ⟨rfl, rfl⟩))
  all_goals
    go_ret
    refine ⟨congrArg (fun z => Ending.returned (Value.int .i64 z)) ?_, rfl⟩
    rw [HE.out]

    (try omega)

set_option maxRecDepth 100000 in
set_option maxHeartbeats 2000000 in
theorem recommend_badb (w : World) (A : Option Addr) (l : List Int) (N c : Nat) (most : Int) (hN : l.length = N) (hb : N ≤ 1000000000) (hR : Ri w A l) (hmo : 9 < most) (hm : may l = false) :
    Calls Tryz.prog 6 #[.slice A N c, .int .i64 most] w fun e w' => e = .returned (.int .i64 (rcl l most)) ∧ w' = w := by
  have hmn : min most 9 = 9 := by omega
  have hps : 2 ^ (min most 9).toNat = 512 := by rw [hmn]; rfl
  have SV := Lib.hid (survey_any w A l N c hN hb hR)
  have hub := us_le l
  rw [hN] at hub
  have htb := tl_le l
  unfold srv at SV
  obtain ⟨R, hRR⟩ : ∃ R, rcl l most = R := ⟨_, rfl⟩
  rw [hRR]
  have HE : Hid (R = -1) := Lib.hid (by rw [← hRR]; unfold rcl; rw [if_pos (.inr (.inl hm))])
  obtain ⟨T, hT⟩ : ∃ T, tl l = T := ⟨_, rfl⟩
  obtain ⟨u, hu⟩ : ∃ u, us l = u := ⟨_, rfl⟩
  rw [hT] at SV htb
  rw [hu] at SV hub
  (try rw [hT] at HE)
  (try rw [hu] at HE)
  rw [hm] at SV
  clear hps
  clear hRR hN hR hT hu
  go_enter Tryz.func6, Tryz.ntmps6
  go_wp2_with (first
    | (go_at_call 15; refine SV.out.mono ?_; rintro e w' ⟨rfl, rfl⟩)
    | (go_at_call 16; with_reducible refine LA.out.mono ?_; rintro e w' ⟨rfl, rfl⟩)
    | (go_at_call 16; with_reducible refine LB.out.mono ?_; rintro e w' ⟨rfl, rfl⟩))
  all_goals
    go_ret
    refine ⟨congrArg (fun z => Ending.returned (Value.int .i64 z)) ?_, rfl⟩
    rw [HE.out]

    (try omega)

set_option maxRecDepth 100000 in
set_option maxHeartbeats 2000000 in
theorem recommend_biga (w : World) (A : Option Addr) (l : List Int) (N c : Nat) (most : Int) (hN : l.length = N) (hb : N ≤ 1000000000) (hR : Ri w A l) (lg s : Nat) (hlg : lg ≤ 9) (hmo : most = (lg : Int)) (hs : 2 ^ lg = s) (hm : may l = true) (hbig : s < us l) :
    Calls Tryz.prog 6 #[.slice A N c, .int .i64 most] w fun e w' => e = .returned (.int .i64 (rcl l most)) ∧ w' = w := by
  subst hmo
  have hs5 : s ≤ 512 := by rw [← hs]; exact pow9_le hlg
  have hsh : wrap64 (2 ^ lg) = (s : Int) := pow9_wrap hs hs5
  have hmn : min ((lg : Int)) 9 = (lg : Int) := by omega
  have hps : 2 ^ (min ((lg : Int)) 9).toNat = s := by rw [hmn]; simpa using hs
  have SV := Lib.hid (survey_any w A l N c hN hb hR)
  have hub := us_le l
  rw [hN] at hub
  have htb := tl_le l
  unfold srv at SV
  obtain ⟨R, hRR⟩ : ∃ R, rcl l (lg : Int) = R := ⟨_, rfl⟩
  rw [hRR]
  have HE : Hid (R = -1) := Lib.hid (by rw [← hRR]; unfold rcl; rw [if_pos (.inr (.inr (by rw [hps]; exact hbig)))])
  obtain ⟨T, hT⟩ : ∃ T, tl l = T := ⟨_, rfl⟩
  obtain ⟨u, hu⟩ : ∃ u, us l = u := ⟨_, rfl⟩
  rw [hT] at SV htb
  rw [hu] at SV hub
  (try rw [hT] at HE)
  (try rw [hu] at HE)
  rw [hm] at SV
  rw [hu] at hbig
  have dd : decide ((s : Int) < (u : Int)) = true := decide_eq_true (by omega)
  clear hs hps
  clear hRR hN hR hT hu
  go_enter Tryz.func6, Tryz.ntmps6
  go_wp2_with (first
    | (go_at_call 15; refine SV.out.mono ?_; rintro e w' ⟨rfl, rfl⟩)
    | (go_at_call 16; with_reducible refine LA.out.mono ?_; rintro e w' ⟨rfl, rfl⟩)
    | (go_at_call 16; with_reducible refine LB.out.mono ?_; rintro e w' ⟨rfl, rfl⟩))
  all_goals
    go_ret
    refine ⟨congrArg (fun z => Ending.returned (Value.int .i64 z)) ?_, rfl⟩
    rw [HE.out]

    (try omega)

set_option maxRecDepth 100000 in
set_option maxHeartbeats 2000000 in
theorem recommend_bigb (w : World) (A : Option Addr) (l : List Int) (N c : Nat) (most : Int) (hN : l.length = N) (hb : N ≤ 1000000000) (hR : Ri w A l) (hmo : 9 < most) (hm : may l = true) (hbig : 512 < us l) :
    Calls Tryz.prog 6 #[.slice A N c, .int .i64 most] w fun e w' => e = .returned (.int .i64 (rcl l most)) ∧ w' = w := by
  have hmn : min most 9 = 9 := by omega
  have hps : 2 ^ (min most 9).toNat = 512 := by rw [hmn]; rfl
  have SV := Lib.hid (survey_any w A l N c hN hb hR)
  have hub := us_le l
  rw [hN] at hub
  have htb := tl_le l
  unfold srv at SV
  obtain ⟨R, hRR⟩ : ∃ R, rcl l most = R := ⟨_, rfl⟩
  rw [hRR]
  have HE : Hid (R = -1) := Lib.hid (by rw [← hRR]; unfold rcl; rw [if_pos (.inr (.inr (by rw [hps]; exact hbig)))])
  obtain ⟨T, hT⟩ : ∃ T, tl l = T := ⟨_, rfl⟩
  obtain ⟨u, hu⟩ : ∃ u, us l = u := ⟨_, rfl⟩
  rw [hT] at SV htb
  rw [hu] at SV hub
  (try rw [hT] at HE)
  (try rw [hu] at HE)
  rw [hm] at SV
  rw [hu] at hbig
  have dd : decide ((512 : Int) < (u : Int)) = true := decide_eq_true (by omega)
  clear hps
  clear hRR hN hR hT hu
  go_enter Tryz.func6, Tryz.ntmps6
  go_wp2_with (first
    | (go_at_call 15; refine SV.out.mono ?_; rintro e w' ⟨rfl, rfl⟩)
    | (go_at_call 16; with_reducible refine LA.out.mono ?_; rintro e w' ⟨rfl, rfl⟩)
    | (go_at_call 16; with_reducible refine LB.out.mono ?_; rintro e w' ⟨rfl, rfl⟩))
  all_goals
    go_ret
    refine ⟨congrArg (fun z => Ending.returned (Value.int .i64 z)) ?_, rfl⟩
    rw [HE.out]

    (try omega)

set_option maxRecDepth 100000 in
set_option maxHeartbeats 2000000 in
theorem recommend_onea (w : World) (A : Option Addr) (l : List Int) (N c : Nat) (most : Int) (hN : l.length = N) (hb : N ≤ 1000000000) (hR : Ri w A l) (lg s : Nat) (hlg : lg ≤ 9) (hmo : most = (lg : Int)) (hs : 2 ^ lg = s) (hm : may l = true) (hone : us l = 1) (h1s : 1 ≤ s) :
    Calls Tryz.prog 6 #[.slice A N c, .int .i64 most] w fun e w' => e = .returned (.int .i64 (rcl l most)) ∧ w' = w := by
  subst hmo
  have hs5 : s ≤ 512 := by rw [← hs]; exact pow9_le hlg
  have hsh : wrap64 (2 ^ lg) = (s : Int) := pow9_wrap hs hs5
  have hmn : min ((lg : Int)) 9 = (lg : Int) := by omega
  have hps : 2 ^ (min ((lg : Int)) 9).toNat = s := by rw [hmn]; simpa using hs
  have SV := Lib.hid (survey_any w A l N c hN hb hR)
  have hub := us_le l
  rw [hN] at hub
  have htb := tl_le l
  unfold srv at SV
  obtain ⟨R, hRR⟩ : ∃ R, rcl l (lg : Int) = R := ⟨_, rfl⟩
  rw [hRR]
  have HE : Hid (R = 0) := Lib.hid (by rw [← hRR]; unfold rcl; rw [if_neg (by rw [hps, hm, hmn, hone]; simp; try omega), if_pos hone])
  obtain ⟨T, hT⟩ : ∃ T, tl l = T := ⟨_, rfl⟩
  obtain ⟨u, hu⟩ : ∃ u, us l = u := ⟨_, rfl⟩
  rw [hT] at SV htb
  rw [hu] at SV hub
  (try rw [hT] at HE)
  (try rw [hu] at HE)
  rw [hm] at SV
  rw [hu] at hone
  subst hone
  have h1t := h1s
  have dd : decide ((s : Int) < 1) = false := decide_eq_false (by omega)
  clear hs hps
  clear hRR hN hR hT hu
  go_enter Tryz.func6, Tryz.ntmps6
  go_wp2_with (first
    | (go_at_call 15; refine SV.out.mono ?_; rintro e w' ⟨rfl, rfl⟩)
    | (go_at_call 16; with_reducible refine LA.out.mono ?_; rintro e w' ⟨rfl, rfl⟩)
    | (go_at_call 16; with_reducible refine LB.out.mono ?_; rintro e w' ⟨rfl, rfl⟩))
  all_goals
    go_ret
    refine ⟨congrArg (fun z => Ending.returned (Value.int .i64 z)) ?_, rfl⟩
    rw [HE.out]

    (try omega)

set_option maxRecDepth 100000 in
set_option maxHeartbeats 2000000 in
theorem recommend_oneb (w : World) (A : Option Addr) (l : List Int) (N c : Nat) (most : Int) (hN : l.length = N) (hb : N ≤ 1000000000) (hR : Ri w A l) (hmo : 9 < most) (hm : may l = true) (hone : us l = 1) (h1s : 1 ≤ 512) :
    Calls Tryz.prog 6 #[.slice A N c, .int .i64 most] w fun e w' => e = .returned (.int .i64 (rcl l most)) ∧ w' = w := by
  have hmn : min most 9 = 9 := by omega
  have hps : 2 ^ (min most 9).toNat = 512 := by rw [hmn]; rfl
  have SV := Lib.hid (survey_any w A l N c hN hb hR)
  have hub := us_le l
  rw [hN] at hub
  have htb := tl_le l
  unfold srv at SV
  obtain ⟨R, hRR⟩ : ∃ R, rcl l most = R := ⟨_, rfl⟩
  rw [hRR]
  have HE : Hid (R = 0) := Lib.hid (by rw [← hRR]; unfold rcl; rw [if_neg (by rw [hps, hm, hmn, hone]; simp; try omega), if_pos hone])
  obtain ⟨T, hT⟩ : ∃ T, tl l = T := ⟨_, rfl⟩
  obtain ⟨u, hu⟩ : ∃ u, us l = u := ⟨_, rfl⟩
  rw [hT] at SV htb
  rw [hu] at SV hub
  (try rw [hT] at HE)
  (try rw [hu] at HE)
  rw [hm] at SV
  rw [hu] at hone
  subst hone
  have h1t := h1s
  have dd : decide ((512 : Int) < 1) = false := decide_eq_false (by omega)
  clear hps
  clear hRR hN hR hT hu
  go_enter Tryz.func6, Tryz.ntmps6
  go_wp2_with (first
    | (go_at_call 15; refine SV.out.mono ?_; rintro e w' ⟨rfl, rfl⟩)
    | (go_at_call 16; with_reducible refine LA.out.mono ?_; rintro e w' ⟨rfl, rfl⟩)
    | (go_at_call 16; with_reducible refine LB.out.mono ?_; rintro e w' ⟨rfl, rfl⟩))
  all_goals
    go_ret
    refine ⟨congrArg (fun z => Ending.returned (Value.int .i64 z)) ?_, rfl⟩
    rw [HE.out]

    (try omega)

set_option maxRecDepth 100000 in
set_option maxHeartbeats 2000000 in
theorem recommend_gena (w : World) (A : Option Addr) (l : List Int) (N c : Nat) (most : Int) (hN : l.length = N) (hb : N ≤ 1000000000) (hR : Ri w A l) (lg s : Nat) (hlg : lg ≤ 9) (hmo : most = (lg : Int)) (hs : 2 ^ lg = s) (hm : may l = true) (hbig : us l ≤ s) (htwo : 2 ≤ us l) :
    Calls Tryz.prog 6 #[.slice A N c, .int .i64 most] w fun e w' => e = .returned (.int .i64 (rcl l most)) ∧ w' = w := by
  subst hmo
  have hs5 : s ≤ 512 := by rw [← hs]; exact pow9_le hlg
  have hsh : wrap64 (2 ^ lg) = (s : Int) := pow9_wrap hs hs5
  have hmn : min ((lg : Int)) 9 = (lg : Int) := by omega
  have hps : 2 ^ (min ((lg : Int)) 9).toNat = s := by rw [hmn]; simpa using hs
  have SV := Lib.hid (survey_any w A l N c hN hb hR)
  have hub := us_le l
  rw [hN] at hub
  have htb := tl_le l
  unfold srv at SV
  obtain ⟨R, hRR⟩ : ∃ R, rcl l (lg : Int) = R := ⟨_, rfl⟩
  rw [hRR]
  have HE : Hid (R = min (lg : Int) (max (blen (us l - 1) : Int) ((blen (tl l) : Int) - 2))) := Lib.hid (by rw [← hRR]; unfold rcl; rw [if_neg (by rw [hps, hm, hmn]; simp; try omega), if_neg (by omega), hmn])
  obtain ⟨T, hT⟩ : ∃ T, tl l = T := ⟨_, rfl⟩
  obtain ⟨u, hu⟩ : ∃ u, us l = u := ⟨_, rfl⟩
  rw [hT] at SV htb
  rw [hu] at SV hub
  (try rw [hT] at HE)
  (try rw [hu] at HE)
  rw [hm] at SV
  rw [hu] at hbig htwo
  have dd : decide ((s : Int) < (u : Int)) = false := decide_eq_false (by omega)
  have d1 : ((u : Int) == 1) = false := by simp; omega
  have hu1 : (u : Int) - 1 = ((u - 1 : Nat) : Int) := by omega
  have LA := Lib.hid (len_any w (u - 1) (by omega))
  have LB := Lib.hid (len_any w T (by omega))
  have hba := blen_le (x := u - 1) (by omega)
  have hbb := blen_le (x := T) htb
  obtain ⟨u1, hu1e⟩ : ∃ u1, u - 1 = u1 := ⟨_, rfl⟩
  rw [hu1e] at LA HE hba hu1
  obtain ⟨ba, hbae⟩ : ∃ ba, blen u1 = ba := ⟨_, rfl⟩
  obtain ⟨bb, hbbe⟩ : ∃ bb, blen T = bb := ⟨_, rfl⟩
  rw [hbae] at LA HE hba
  rw [hbbe] at LB HE hbb
  have hub2 : u1 ≤ 1000000000 := by omega
  clear hbae hbbe hu1e
  clear hs hps
  clear hRR hN hR hT hu
  go_enter Tryz.func6, Tryz.ntmps6
  go_wp2_with (first
    | (go_at_call 15; refine SV.out.mono ?_; rintro e w' ⟨rfl, rfl⟩)
    | (go_at_call 16; with_reducible refine LA.out.mono ?_; rintro e w' ⟨rfl, rfl⟩)
    | (go_at_call 16; with_reducible refine LB.out.mono ?_; rintro e w' ⟨rfl, rfl⟩))
  all_goals
    go_ret
    refine ⟨congrArg (fun z => Ending.returned (Value.int .i64 z)) ?_, rfl⟩
    rw [HE.out]

    (try omega)

set_option maxRecDepth 100000 in
set_option maxHeartbeats 2000000 in
theorem recommend_genb (w : World) (A : Option Addr) (l : List Int) (N c : Nat) (most : Int) (hN : l.length = N) (hb : N ≤ 1000000000) (hR : Ri w A l) (hmo : 9 < most) (hm : may l = true) (hbig : us l ≤ 512) (htwo : 2 ≤ us l) :
    Calls Tryz.prog 6 #[.slice A N c, .int .i64 most] w fun e w' => e = .returned (.int .i64 (rcl l most)) ∧ w' = w := by
  have hmn : min most 9 = 9 := by omega
  have hps : 2 ^ (min most 9).toNat = 512 := by rw [hmn]; rfl
  have SV := Lib.hid (survey_any w A l N c hN hb hR)
  have hub := us_le l
  rw [hN] at hub
  have htb := tl_le l
  unfold srv at SV
  obtain ⟨R, hRR⟩ : ∃ R, rcl l most = R := ⟨_, rfl⟩
  rw [hRR]
  have HE : Hid (R = min 9 (max (blen (us l - 1) : Int) ((blen (tl l) : Int) - 2))) := Lib.hid (by rw [← hRR]; unfold rcl; rw [if_neg (by rw [hps, hm, hmn]; simp; try omega), if_neg (by omega), hmn])
  obtain ⟨T, hT⟩ : ∃ T, tl l = T := ⟨_, rfl⟩
  obtain ⟨u, hu⟩ : ∃ u, us l = u := ⟨_, rfl⟩
  rw [hT] at SV htb
  rw [hu] at SV hub
  (try rw [hT] at HE)
  (try rw [hu] at HE)
  rw [hm] at SV
  rw [hu] at hbig htwo
  have dd : decide ((512 : Int) < (u : Int)) = false := decide_eq_false (by omega)
  have d1 : ((u : Int) == 1) = false := by simp; omega
  have hu1 : (u : Int) - 1 = ((u - 1 : Nat) : Int) := by omega
  have LA := Lib.hid (len_any w (u - 1) (by omega))
  have LB := Lib.hid (len_any w T (by omega))
  have hba := blen_le (x := u - 1) (by omega)
  have hbb := blen_le (x := T) htb
  obtain ⟨u1, hu1e⟩ : ∃ u1, u - 1 = u1 := ⟨_, rfl⟩
  rw [hu1e] at LA HE hba hu1
  obtain ⟨ba, hbae⟩ : ∃ ba, blen u1 = ba := ⟨_, rfl⟩
  obtain ⟨bb, hbbe⟩ : ∃ bb, blen T = bb := ⟨_, rfl⟩
  rw [hbae] at LA HE hba
  rw [hbbe] at LB HE hbb
  have hub2 : u1 ≤ 1000000000 := by omega
  clear hbae hbbe hu1e
  clear hps
  clear hRR hN hR hT hu
  go_enter Tryz.func6, Tryz.ntmps6
  go_wp2_with (first
    | (go_at_call 15; refine SV.out.mono ?_; rintro e w' ⟨rfl, rfl⟩)
    | (go_at_call 16; with_reducible refine LA.out.mono ?_; rintro e w' ⟨rfl, rfl⟩)
    | (go_at_call 16; with_reducible refine LB.out.mono ?_; rintro e w' ⟨rfl, rfl⟩))
  all_goals
    go_ret
    refine ⟨congrArg (fun z => Ending.returned (Value.int .i64 z)) ?_, rfl⟩
    rw [HE.out]

    (try omega)

theorem recommend_any (w : World) (A : Option Addr) (l : List Int) (N c : Nat) (most : Int) (hN : l.length = N) (hb : N ≤ 1000000000) (hR : Ri w A l) :
    Calls Tryz.prog 6 #[.slice A N c, .int .i64 most] w fun e w' => e = .returned (.int .i64 (rcl l most)) ∧ w' = w := by
  by_cases h0 : most < 0
  · exact recommend_neg w A l N c most hN hb hR h0
  · have key : ∀ s : Nat, 1 ≤ s → may l = false ∨ (may l = true ∧ s < us l) ∨ (may l = true ∧ us l = 1 ∧ 1 ≤ s) ∨ (may l = true ∧ us l ≤ s ∧ 2 ≤ us l) := fun s hs => by
      cases hm : may l with
      | false => exact .inl rfl
      | true =>
        have : 0 < us l := by unfold may at hm; simpa using hm
        right
        rcases Nat.lt_or_ge s (us l) with h | h
        · exact .inl ⟨rfl, h⟩
        · right
          by_cases h1 : us l = 1
          · exact .inl ⟨rfl, h1, hs⟩
          · exact .inr ⟨rfl, h, by omega⟩
    by_cases h9 : 9 < most
    · rcases key 512 (by omega) with h | ⟨h, h1⟩ | ⟨h, h1, h2⟩ | ⟨h, h1, h2⟩
      · exact recommend_badb w A l N c most hN hb hR h9 h
      · exact recommend_bigb w A l N c most hN hb hR h9 h h1
      · exact recommend_oneb w A l N c most hN hb hR h9 h h1 h2
      · exact recommend_genb w A l N c most hN hb hR h9 h h1 h2
    · rcases key (2 ^ most.toNat) (Nat.one_le_two_pow) with h | ⟨h, h1⟩ | ⟨h, h1, h2⟩ | ⟨h, h1, h2⟩
      · exact recommend_bada w A l N c most hN hb hR most.toNat _ (by omega) (by omega) rfl h
      · exact recommend_biga w A l N c most hN hb hR most.toNat _ (by omega) (by omega) rfl h h1
      · exact recommend_onea w A l N c most hN hb hR most.toNat _ (by omega) (by omega) rfl h h1 h2
      · exact recommend_gena w A l N c most hN hb hR most.toNat _ (by omega) (by omega) rfl h h1 h2

end Go.Proofs.YtnlhokfhkohdpaaGreat.No
