/-
  The walks of the law NumSubs, where Sub fails: it returns true. Conditions: those of each theorem, which together cover all inputs of this way.
-/
import Derived.Test.YtpelndjfamdjlaaCll
import Derived.Test.YtpelndjfamdjlaaFrm
import Derived.Deep.RegionWith
namespace Go.Proofs.Ytpelndjfamdjlaa.numSubs
open Go.ChangeShapes Go.WideShapes Go.ChangeAt Go.RowKit
set_option linter.unusedVariables false

theorem rd_own {w : World} {base n c : Nat} {A : Option Addr} {l : List UInt8} (hn : l.length = n) (h : w.ownsRow base 5 1 (.slice A n c) n (l.map byt)) : Rd w A l := by
  subst hn
  exact Rd.of_own h

set_option maxRecDepth 100000 in
set_option maxHeartbeats 4000000 in
theorem walk_a1 (A : Option Addr) (l : List UInt8) (cap : Nat) (skip : Int) (n : Int) (AL : Option Addr) (ls : List (Int × Int)) (capL : Nat) (w : World) (hR : Rd w A l) (hs : l.length ≤ 140737488351232) (hc : l.length ≤ cap) (hRC : RdC w AL ls) (hP2 : ls.length ≤ 200) (hwf : ∀ (j : Nat) (q z : Int), ls[j]? = some (q, z) → z ≤ 9223372036854775807) (hz1 : decide (0 < skip) = false) (hn : n < 0) :
    Calls Try.prog 7 #[.slice A l.length cap, .int .i64 skip, .int .i64 n, .slice AL ls.length capL] w fun e w' => e = .returned (.bool true) ∧ Below w.heap.size w w' := by
  have OW := Lib.hid (own_any w A l cap (by omega) hR)
  have HR := Lib.hid hR
  have HRC := Lib.hid hRC
  have HWF := Lib.hid hwf
  clear hR hRC hwf
  obtain ⟨N, hN⟩ : ∃ N, l.length = N := ⟨_, rfl⟩
  obtain ⟨P, hP⟩ : ∃ P, ls.length = P := ⟨_, rfl⟩
  rw [hP] at hP2 ⊢
  have HP := Lib.hid hP
  rw [hN] at hs hc OW ⊢
  have HN := Lib.hid hN
  have HS := Lib.hid hs
  clear hN hP
  have hPd : decide ((200 : Int) < (P : Int)) = false := decide_eq_false (by omega)
  go_enter Try.func7, Try.ntmps7
  go_wp2_with fail
  refine OW.out.mono ?_
  rintro e w1 ⟨v1, rfl, A1, c1, rfl, ho1, hb1⟩
  have HB1 := Lib.hid hb1
  have NW := Lib.hid (new_any w1 A1 l c1 (by have := HN.out; have := HS.out; omega) (Rd.of_own ho1))
  rw [HN.out] at NW ⊢
  clear ho1 hb1
  go_wp2_with fail
  refine NW.out.mono ?_
  rintro e w2 ⟨c, A2, cap2, rfl, hcw, hcur, hb2⟩
  have HB2 := Lib.hid (below_on HB1.out (Nat.le_refl _) hb2)
  have HCW := Lib.hid (Nat.le_trans HB1.out.size hcw)
  have HC2 := Lib.hid hcur
  clear hcw hcur hb2 HB1 NW OW
  have SB := Lib.hid (sub_any HC2.out (by have := HN.out; have := HS.out; omega) n)
  have HCUT : Hid (cutE n (l.length - 0) = 2) := Lib.hid (cutE_neg hn)
  go_wp2_with fail
  refine SB.out.mono ?_
  rintro e w3 ⟨v3, rfl, hc3, hg3, hbad, _⟩
  obtain rfl := hbad (by rw [HCUT.out]; decide)
  rw [HCUT.out] at hc3 ⊢
  rw [if_neg (by decide)] at hc3
  have HB3 := Lib.hid (HB2.out.grown hg3 HB2.out.size (fun j ej => by cases ej; exact HCW.out))
  have HC3 := Lib.hid hc3
  clear hc3 hg3 hbad SB HC2 HB2 HCUT
  go_wp2_with fail
  refine (refBytes_neg (k := 0) n hn).mono ?_
  rintro e w4 ⟨rfl, rfl⟩
  go_wp2_with fail
  refine (at_any HC3.out.blk).mono ?_
  rintro e w4 ⟨rfl, rfl⟩
  go_wp2_with fail
  refine (known_any _).mono ?_
  rintro e w7 ⟨rfl, hb7⟩
  have HB7 := Lib.hid (below_on HB3.out (Nat.le_refl _) hb7)
  clear hb7
  go_wp2
  go_ret
  exact ⟨rfl, HB7.out⟩

set_option maxRecDepth 100000 in
set_option maxHeartbeats 4000000 in
theorem walk_a2 (A : Option Addr) (l : List UInt8) (cap : Nat) (skip : Int) (n : Int) (AL : Option Addr) (ls : List (Int × Int)) (capL : Nat) (w : World) (hR : Rd w A l) (hs : l.length ≤ 140737488351232) (hc : l.length ≤ cap) (hRC : RdC w AL ls) (hP2 : ls.length ≤ 200) (hwf : ∀ (j : Nat) (q z : Int), ls[j]? = some (q, z) → z ≤ 9223372036854775807) (hz1 : decide (0 < skip) = false) (hn0 : 0 ≤ n) (hn : (l.length : Int) - ((0 : Nat) : Int) < n) :
    Calls Try.prog 7 #[.slice A l.length cap, .int .i64 skip, .int .i64 n, .slice AL ls.length capL] w fun e w' => e = .returned (.bool true) ∧ Below w.heap.size w w' := by
  have OW := Lib.hid (own_any w A l cap (by omega) hR)
  have HR := Lib.hid hR
  have HRC := Lib.hid hRC
  have HWF := Lib.hid hwf
  clear hR hRC hwf
  obtain ⟨N, hN⟩ : ∃ N, l.length = N := ⟨_, rfl⟩
  obtain ⟨P, hP⟩ : ∃ P, ls.length = P := ⟨_, rfl⟩
  rw [hP] at hP2 ⊢
  have HP := Lib.hid hP
  rw [hN] at hs hc OW ⊢
  rw [hN] at hn
  have HN := Lib.hid hN
  have HS := Lib.hid hs
  clear hN hP
  have hPd : decide ((200 : Int) < (P : Int)) = false := decide_eq_false (by omega)
  go_enter Try.func7, Try.ntmps7
  go_wp2_with fail
  refine OW.out.mono ?_
  rintro e w1 ⟨v1, rfl, A1, c1, rfl, ho1, hb1⟩
  have HB1 := Lib.hid hb1
  have NW := Lib.hid (new_any w1 A1 l c1 (by have := HN.out; have := HS.out; omega) (Rd.of_own ho1))
  rw [HN.out] at NW ⊢
  clear ho1 hb1
  go_wp2_with fail
  refine NW.out.mono ?_
  rintro e w2 ⟨c, A2, cap2, rfl, hcw, hcur, hb2⟩
  have HB2 := Lib.hid (below_on HB1.out (Nat.le_refl _) hb2)
  have HCW := Lib.hid (Nat.le_trans HB1.out.size hcw)
  have HC2 := Lib.hid hcur
  clear hcw hcur hb2 HB1 NW OW
  have SB := Lib.hid (sub_any HC2.out (by have := HN.out; have := HS.out; omega) n)
  have HCUT : Hid (cutE n (l.length - 0) = 3) := Lib.hid (cutE_short hn0 (by have := HN.out; have := HC2.out.le; omega))
  go_wp2_with fail
  refine SB.out.mono ?_
  rintro e w3 ⟨v3, rfl, hc3, hg3, hbad, _⟩
  obtain rfl := hbad (by rw [HCUT.out]; decide)
  rw [HCUT.out] at hc3 ⊢
  rw [if_neg (by decide)] at hc3
  have HB3 := Lib.hid (HB2.out.grown hg3 HB2.out.size (fun j ej => by cases ej; exact HCW.out))
  have HC3 := Lib.hid hc3
  clear hc3 hg3 hbad SB HC2 HB2 HCUT
  go_wp2_with fail
  refine (refBytes_short (k := 0) n hn0 (by omega) hs hn).mono ?_
  rintro e w4 ⟨rfl, rfl⟩
  go_wp2_with fail
  refine (at_any HC3.out.blk).mono ?_
  rintro e w4 ⟨rfl, rfl⟩
  go_wp2_with fail
  refine (known_any _).mono ?_
  rintro e w7 ⟨rfl, hb7⟩
  have HB7 := Lib.hid (below_on HB3.out (Nat.le_refl _) hb7)
  clear hb7
  go_wp2
  go_ret
  exact ⟨rfl, HB7.out⟩

set_option maxRecDepth 100000 in
set_option maxHeartbeats 4000000 in
theorem walk_b1 (A : Option Addr) (l : List UInt8) (cap : Nat) (skip : Int) (n : Int) (AL : Option Addr) (ls : List (Int × Int)) (capL : Nat) (w : World) (hR : Rd w A l) (hs : l.length ≤ 140737488351232) (hc : l.length ≤ cap) (hRC : RdC w AL ls) (hP2 : ls.length ≤ 200) (hwf : ∀ (j : Nat) (q z : Int), ls[j]? = some (q, z) → z ≤ 9223372036854775807) (hz1 : decide (0 < skip) = true) (hz2 : decide (skip ≤ (l.length : Int)) = false) (hn : n < 0) :
    Calls Try.prog 7 #[.slice A l.length cap, .int .i64 skip, .int .i64 n, .slice AL ls.length capL] w fun e w' => e = .returned (.bool true) ∧ Below w.heap.size w w' := by
  have OW := Lib.hid (own_any w A l cap (by omega) hR)
  have HR := Lib.hid hR
  have HRC := Lib.hid hRC
  have HWF := Lib.hid hwf
  clear hR hRC hwf
  obtain ⟨N, hN⟩ : ∃ N, l.length = N := ⟨_, rfl⟩
  obtain ⟨P, hP⟩ : ∃ P, ls.length = P := ⟨_, rfl⟩
  rw [hP] at hP2 ⊢
  have HP := Lib.hid hP
  rw [hN] at hs hc OW ⊢
  rw [hN] at hz2
  have HN := Lib.hid hN
  have HS := Lib.hid hs
  clear hN hP
  have hPd : decide ((200 : Int) < (P : Int)) = false := decide_eq_false (by omega)
  go_enter Try.func7, Try.ntmps7
  go_wp2_with fail
  refine OW.out.mono ?_
  rintro e w1 ⟨v1, rfl, A1, c1, rfl, ho1, hb1⟩
  have HB1 := Lib.hid hb1
  have NW := Lib.hid (new_any w1 A1 l c1 (by have := HN.out; have := HS.out; omega) (Rd.of_own ho1))
  rw [HN.out] at NW ⊢
  clear ho1 hb1
  go_wp2_with fail
  refine NW.out.mono ?_
  rintro e w2 ⟨c, A2, cap2, rfl, hcw, hcur, hb2⟩
  have HB2 := Lib.hid (below_on HB1.out (Nat.le_refl _) hb2)
  have HCW := Lib.hid (Nat.le_trans HB1.out.size hcw)
  have HC2 := Lib.hid hcur
  clear hcw hcur hb2 HB1 NW OW
  have SB := Lib.hid (sub_any HC2.out (by have := HN.out; have := HS.out; omega) n)
  have HCUT : Hid (cutE n (l.length - 0) = 2) := Lib.hid (cutE_neg hn)
  go_wp2_with fail
  refine SB.out.mono ?_
  rintro e w3 ⟨v3, rfl, hc3, hg3, hbad, _⟩
  obtain rfl := hbad (by rw [HCUT.out]; decide)
  rw [HCUT.out] at hc3 ⊢
  rw [if_neg (by decide)] at hc3
  have HB3 := Lib.hid (HB2.out.grown hg3 HB2.out.size (fun j ej => by cases ej; exact HCW.out))
  have HC3 := Lib.hid hc3
  clear hc3 hg3 hbad SB HC2 HB2 HCUT
  go_wp2_with fail
  refine (refBytes_neg (k := 0) n hn).mono ?_
  rintro e w4 ⟨rfl, rfl⟩
  go_wp2_with fail
  refine (at_any HC3.out.blk).mono ?_
  rintro e w4 ⟨rfl, rfl⟩
  go_wp2_with fail
  refine (known_any _).mono ?_
  rintro e w7 ⟨rfl, hb7⟩
  have HB7 := Lib.hid (below_on HB3.out (Nat.le_refl _) hb7)
  clear hb7
  go_wp2
  go_ret
  exact ⟨rfl, HB7.out⟩

set_option maxRecDepth 100000 in
set_option maxHeartbeats 4000000 in
theorem walk_b2 (A : Option Addr) (l : List UInt8) (cap : Nat) (skip : Int) (n : Int) (AL : Option Addr) (ls : List (Int × Int)) (capL : Nat) (w : World) (hR : Rd w A l) (hs : l.length ≤ 140737488351232) (hc : l.length ≤ cap) (hRC : RdC w AL ls) (hP2 : ls.length ≤ 200) (hwf : ∀ (j : Nat) (q z : Int), ls[j]? = some (q, z) → z ≤ 9223372036854775807) (hz1 : decide (0 < skip) = true) (hz2 : decide (skip ≤ (l.length : Int)) = false) (hn0 : 0 ≤ n) (hn : (l.length : Int) - ((0 : Nat) : Int) < n) :
    Calls Try.prog 7 #[.slice A l.length cap, .int .i64 skip, .int .i64 n, .slice AL ls.length capL] w fun e w' => e = .returned (.bool true) ∧ Below w.heap.size w w' := by
  have OW := Lib.hid (own_any w A l cap (by omega) hR)
  have HR := Lib.hid hR
  have HRC := Lib.hid hRC
  have HWF := Lib.hid hwf
  clear hR hRC hwf
  obtain ⟨N, hN⟩ : ∃ N, l.length = N := ⟨_, rfl⟩
  obtain ⟨P, hP⟩ : ∃ P, ls.length = P := ⟨_, rfl⟩
  rw [hP] at hP2 ⊢
  have HP := Lib.hid hP
  rw [hN] at hs hc OW ⊢
  rw [hN] at hz2
  rw [hN] at hn
  have HN := Lib.hid hN
  have HS := Lib.hid hs
  clear hN hP
  have hPd : decide ((200 : Int) < (P : Int)) = false := decide_eq_false (by omega)
  go_enter Try.func7, Try.ntmps7
  go_wp2_with fail
  refine OW.out.mono ?_
  rintro e w1 ⟨v1, rfl, A1, c1, rfl, ho1, hb1⟩
  have HB1 := Lib.hid hb1
  have NW := Lib.hid (new_any w1 A1 l c1 (by have := HN.out; have := HS.out; omega) (Rd.of_own ho1))
  rw [HN.out] at NW ⊢
  clear ho1 hb1
  go_wp2_with fail
  refine NW.out.mono ?_
  rintro e w2 ⟨c, A2, cap2, rfl, hcw, hcur, hb2⟩
  have HB2 := Lib.hid (below_on HB1.out (Nat.le_refl _) hb2)
  have HCW := Lib.hid (Nat.le_trans HB1.out.size hcw)
  have HC2 := Lib.hid hcur
  clear hcw hcur hb2 HB1 NW OW
  have SB := Lib.hid (sub_any HC2.out (by have := HN.out; have := HS.out; omega) n)
  have HCUT : Hid (cutE n (l.length - 0) = 3) := Lib.hid (cutE_short hn0 (by have := HN.out; have := HC2.out.le; omega))
  go_wp2_with fail
  refine SB.out.mono ?_
  rintro e w3 ⟨v3, rfl, hc3, hg3, hbad, _⟩
  obtain rfl := hbad (by rw [HCUT.out]; decide)
  rw [HCUT.out] at hc3 ⊢
  rw [if_neg (by decide)] at hc3
  have HB3 := Lib.hid (HB2.out.grown hg3 HB2.out.size (fun j ej => by cases ej; exact HCW.out))
  have HC3 := Lib.hid hc3
  clear hc3 hg3 hbad SB HC2 HB2 HCUT
  go_wp2_with fail
  refine (refBytes_short (k := 0) n hn0 (by omega) hs hn).mono ?_
  rintro e w4 ⟨rfl, rfl⟩
  go_wp2_with fail
  refine (at_any HC3.out.blk).mono ?_
  rintro e w4 ⟨rfl, rfl⟩
  go_wp2_with fail
  refine (known_any _).mono ?_
  rintro e w7 ⟨rfl, hb7⟩
  have HB7 := Lib.hid (below_on HB3.out (Nat.le_refl _) hb7)
  clear hb7
  go_wp2
  go_ret
  exact ⟨rfl, HB7.out⟩

set_option maxRecDepth 100000 in
set_option maxHeartbeats 4000000 in
theorem walk_c1 (A : Option Addr) (l : List UInt8) (cap : Nat) (k : Nat) (n : Int) (AL : Option Addr) (ls : List (Int × Int)) (capL : Nat) (w : World) (hR : Rd w A l) (hs : l.length ≤ 140737488351232) (hc : l.length ≤ cap) (hRC : RdC w AL ls) (hP2 : ls.length ≤ 200) (hwf : ∀ (j : Nat) (q z : Int), ls[j]? = some (q, z) → z ≤ 9223372036854775807) (hk0 : 0 < k) (hkl : k ≤ l.length) (hn : n < 0) :
    Calls Try.prog 7 #[.slice A l.length cap, .int .i64 (k : Int), .int .i64 n, .slice AL ls.length capL] w fun e w' => e = .returned (.bool true) ∧ Below w.heap.size w w' := by
  have OW := Lib.hid (own_any w A l cap (by omega) hR)
  have HR := Lib.hid hR
  have HRC := Lib.hid hRC
  have HWF := Lib.hid hwf
  clear hR hRC hwf
  obtain ⟨N, hN⟩ : ∃ N, l.length = N := ⟨_, rfl⟩
  obtain ⟨P, hP⟩ : ∃ P, ls.length = P := ⟨_, rfl⟩
  rw [hP] at hP2 ⊢
  have HP := Lib.hid hP
  rw [hN] at hs hc OW ⊢
  rw [hN] at hkl
  have HN := Lib.hid hN
  have HS := Lib.hid hs
  clear hN hP
  have hPd : decide ((200 : Int) < (P : Int)) = false := decide_eq_false (by omega)
  go_enter Try.func7, Try.ntmps7
  go_wp2_with fail
  refine OW.out.mono ?_
  rintro e w1 ⟨v1, rfl, A1, c1, rfl, ho1, hb1⟩
  have HB1 := Lib.hid hb1
  have NW := Lib.hid (new_any w1 A1 l c1 (by have := HN.out; have := HS.out; omega) (Rd.of_own ho1))
  rw [HN.out] at NW ⊢
  clear ho1 hb1
  go_wp2_with fail
  refine NW.out.mono ?_
  rintro e w0 ⟨c, A2, cap2, rfl, hcw, hcur, hb2⟩
  have HB0 := Lib.hid (below_on HB1.out (Nat.le_refl _) hb2)
  have HCW := Lib.hid (Nat.le_trans HB1.out.size hcw)
  have HY := Lib.hid (bytes_any hcur (by have := HN.out; have := HS.out; omega) (k : Int))
  have hcut : cutE (k : Int) (l.length - 0) = 0 := cutE_ok (by omega) (by have := HN.out; omega)
  have HCUT0 := Lib.hid hcut
  have z1 : decide ((0 : Int) < (k : Int)) = true := decide_eq_true (by omega)
  have z2 : decide ((k : Int) ≤ (N : Int)) = true := decide_eq_true (by omega)
  clear hcw hcur hb2 HB1 NW hcut OW
  go_wp2_with fail
  refine HY.out.mono ?_
  rintro e w2 ⟨v2, rfl, hc2, hg2, _, _⟩
  rw [HCUT0.out] at hc2 ⊢
  rw [if_pos rfl, Nat.zero_add, Int.toNat_natCast] at hc2
  have HB2 := Lib.hid (HB0.out.grown hg2 HB0.out.size (fun j ej => by cases ej; exact HCW.out))
  have HC2 := Lib.hid hc2
  clear hc2 hg2 HB0 HY HCUT0 z1 z2
  have SB := Lib.hid (sub_any HC2.out (by have := HN.out; have := HS.out; omega) n)
  have HCUT : Hid (cutE n (l.length - k) = 2) := Lib.hid (cutE_neg hn)
  go_wp2_with fail
  refine SB.out.mono ?_
  rintro e w3 ⟨v3, rfl, hc3, hg3, hbad, _⟩
  obtain rfl := hbad (by rw [HCUT.out]; decide)
  rw [HCUT.out] at hc3 ⊢
  rw [if_neg (by decide)] at hc3
  have HB3 := Lib.hid (HB2.out.grown hg3 HB2.out.size (fun j ej => by cases ej; exact HCW.out))
  have HC3 := Lib.hid hc3
  clear hc3 hg3 hbad SB HC2 HB2 HCUT
  go_wp2_with fail
  refine (refBytes_neg (k := k) n hn).mono ?_
  rintro e w4 ⟨rfl, rfl⟩
  go_wp2_with fail
  refine (at_any HC3.out.blk).mono ?_
  rintro e w4 ⟨rfl, rfl⟩
  go_wp2_with fail
  refine (known_any _).mono ?_
  rintro e w7 ⟨rfl, hb7⟩
  have HB7 := Lib.hid (below_on HB3.out (Nat.le_refl _) hb7)
  clear hb7
  go_wp2
  go_ret
  exact ⟨rfl, HB7.out⟩

set_option maxRecDepth 100000 in
set_option maxHeartbeats 4000000 in
theorem walk_c2 (A : Option Addr) (l : List UInt8) (cap : Nat) (k : Nat) (n : Int) (AL : Option Addr) (ls : List (Int × Int)) (capL : Nat) (w : World) (hR : Rd w A l) (hs : l.length ≤ 140737488351232) (hc : l.length ≤ cap) (hRC : RdC w AL ls) (hP2 : ls.length ≤ 200) (hwf : ∀ (j : Nat) (q z : Int), ls[j]? = some (q, z) → z ≤ 9223372036854775807) (hk0 : 0 < k) (hkl : k ≤ l.length) (hn0 : 0 ≤ n) (hn : (l.length : Int) - ((k : Nat) : Int) < n) :
    Calls Try.prog 7 #[.slice A l.length cap, .int .i64 (k : Int), .int .i64 n, .slice AL ls.length capL] w fun e w' => e = .returned (.bool true) ∧ Below w.heap.size w w' := by
  have OW := Lib.hid (own_any w A l cap (by omega) hR)
  have HR := Lib.hid hR
  have HRC := Lib.hid hRC
  have HWF := Lib.hid hwf
  clear hR hRC hwf
  obtain ⟨N, hN⟩ : ∃ N, l.length = N := ⟨_, rfl⟩
  obtain ⟨P, hP⟩ : ∃ P, ls.length = P := ⟨_, rfl⟩
  rw [hP] at hP2 ⊢
  have HP := Lib.hid hP
  rw [hN] at hs hc OW ⊢
  rw [hN] at hkl
  rw [hN] at hn
  have HN := Lib.hid hN
  have HS := Lib.hid hs
  clear hN hP
  have hPd : decide ((200 : Int) < (P : Int)) = false := decide_eq_false (by omega)
  go_enter Try.func7, Try.ntmps7
  go_wp2_with fail
  refine OW.out.mono ?_
  rintro e w1 ⟨v1, rfl, A1, c1, rfl, ho1, hb1⟩
  have HB1 := Lib.hid hb1
  have NW := Lib.hid (new_any w1 A1 l c1 (by have := HN.out; have := HS.out; omega) (Rd.of_own ho1))
  rw [HN.out] at NW ⊢
  clear ho1 hb1
  go_wp2_with fail
  refine NW.out.mono ?_
  rintro e w0 ⟨c, A2, cap2, rfl, hcw, hcur, hb2⟩
  have HB0 := Lib.hid (below_on HB1.out (Nat.le_refl _) hb2)
  have HCW := Lib.hid (Nat.le_trans HB1.out.size hcw)
  have HY := Lib.hid (bytes_any hcur (by have := HN.out; have := HS.out; omega) (k : Int))
  have hcut : cutE (k : Int) (l.length - 0) = 0 := cutE_ok (by omega) (by have := HN.out; omega)
  have HCUT0 := Lib.hid hcut
  have z1 : decide ((0 : Int) < (k : Int)) = true := decide_eq_true (by omega)
  have z2 : decide ((k : Int) ≤ (N : Int)) = true := decide_eq_true (by omega)
  clear hcw hcur hb2 HB1 NW hcut OW
  go_wp2_with fail
  refine HY.out.mono ?_
  rintro e w2 ⟨v2, rfl, hc2, hg2, _, _⟩
  rw [HCUT0.out] at hc2 ⊢
  rw [if_pos rfl, Nat.zero_add, Int.toNat_natCast] at hc2
  have HB2 := Lib.hid (HB0.out.grown hg2 HB0.out.size (fun j ej => by cases ej; exact HCW.out))
  have HC2 := Lib.hid hc2
  clear hc2 hg2 HB0 HY HCUT0 z1 z2
  have SB := Lib.hid (sub_any HC2.out (by have := HN.out; have := HS.out; omega) n)
  have HCUT : Hid (cutE n (l.length - k) = 3) := Lib.hid (cutE_short hn0 (by have := HN.out; have := HC2.out.le; omega))
  go_wp2_with fail
  refine SB.out.mono ?_
  rintro e w3 ⟨v3, rfl, hc3, hg3, hbad, _⟩
  obtain rfl := hbad (by rw [HCUT.out]; decide)
  rw [HCUT.out] at hc3 ⊢
  rw [if_neg (by decide)] at hc3
  have HB3 := Lib.hid (HB2.out.grown hg3 HB2.out.size (fun j ej => by cases ej; exact HCW.out))
  have HC3 := Lib.hid hc3
  clear hc3 hg3 hbad SB HC2 HB2 HCUT
  go_wp2_with fail
  refine (refBytes_short (k := k) n hn0 (by omega) hs hn).mono ?_
  rintro e w4 ⟨rfl, rfl⟩
  go_wp2_with fail
  refine (at_any HC3.out.blk).mono ?_
  rintro e w4 ⟨rfl, rfl⟩
  go_wp2_with fail
  refine (known_any _).mono ?_
  rintro e w7 ⟨rfl, hb7⟩
  have HB7 := Lib.hid (below_on HB3.out (Nat.le_refl _) hb7)
  clear hb7
  go_wp2
  go_ret
  exact ⟨rfl, HB7.out⟩

end Go.Proofs.Ytpelndjfamdjlaa.numSubs
