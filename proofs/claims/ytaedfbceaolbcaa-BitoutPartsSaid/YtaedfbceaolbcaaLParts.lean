/-
  Proved: the law BitoutParts returns true for all sequences of calls, values and numbers of bits: writing the low bits of a value and then its remaining bits is the same as writing it at once. No condition.
-/
import Derived.Test.YtaedfbceaolbcaaTwo
namespace Go.Proofs.Ytaedfbceaolbcaa.bitoutParts
set_option linter.unusedVariables false
open Go.ChangeShapes Go.WideShapes Go.ChangeAt Go.RowKit

set_option maxHeartbeats 1000000 in
theorem walk_N (A : Option Addr) (N cap : Nat) (q : Nat) (n f : Int) (w : World)  (h0 : 60 < N) :
    Calls Try.prog 6 #[.slice A N cap, .int .u64 (q : Int), .int .i64 n, .int .i64 f] w fun e w' => e = .returned (.bool true) ∧ Below w.heap.size w w' := by
  have d0 : decide ((60 : Int) < (N : Int)) = true := decide_eq_true (by omega)
  go_enter Try.func6, Try.ntmps6
  go_wp2_with fail
  refine (known_any _).mono ?_
  rintro e w1 ⟨rfl, hb1⟩
  have HB1 := Lib.hid hb1
  clear hb1
  go_wp2
  go_ret
  exact ⟨rfl, HB1.out⟩

set_option maxHeartbeats 1000000 in
theorem walk_n0 (A : Option Addr) (N cap : Nat) (q : Nat) (n f : Int) (w : World) (h0 : N ≤ 60) (h1 : n < 0) :
    Calls Try.prog 6 #[.slice A N cap, .int .u64 (q : Int), .int .i64 n, .int .i64 f] w fun e w' => e = .returned (.bool true) ∧ Below w.heap.size w w' := by
  have d0 : decide ((60 : Int) < (N : Int)) = false := decide_eq_false (by omega)
  have d1 : decide (n < 0) = true := decide_eq_true (by omega)
  go_enter Try.func6, Try.ntmps6
  go_wp2_with fail
  refine (known_any _).mono ?_
  rintro e w1 ⟨rfl, hb1⟩
  have HB1 := Lib.hid hb1
  clear hb1
  go_wp2
  go_ret
  exact ⟨rfl, HB1.out⟩

set_option maxHeartbeats 1000000 in
theorem walk_n64 (A : Option Addr) (N cap : Nat) (q : Nat) (n f : Int) (w : World) (h0 : N ≤ 60) (h1 : 0 ≤ n) (h2 : 64 < n) :
    Calls Try.prog 6 #[.slice A N cap, .int .u64 (q : Int), .int .i64 n, .int .i64 f] w fun e w' => e = .returned (.bool true) ∧ Below w.heap.size w w' := by
  have d0 : decide ((60 : Int) < (N : Int)) = false := decide_eq_false (by omega)
  have d1 : decide (n < 0) = false := decide_eq_false (by omega)
  have d2 : decide (64 < n) = true := decide_eq_true (by omega)
  go_enter Try.func6, Try.ntmps6
  go_wp2_with fail
  refine (known_any _).mono ?_
  rintro e w1 ⟨rfl, hb1⟩
  have HB1 := Lib.hid hb1
  clear hb1
  go_wp2
  go_ret
  exact ⟨rfl, HB1.out⟩

set_option maxHeartbeats 1000000 in
theorem walk_f0 (A : Option Addr) (N cap : Nat) (q : Nat) (n f : Int) (w : World) (h0 : N ≤ 60) (h1 : 0 ≤ n) (h2 : n ≤ 64) (h3 : f < 0) :
    Calls Try.prog 6 #[.slice A N cap, .int .u64 (q : Int), .int .i64 n, .int .i64 f] w fun e w' => e = .returned (.bool true) ∧ Below w.heap.size w w' := by
  have d0 : decide ((60 : Int) < (N : Int)) = false := decide_eq_false (by omega)
  have d1 : decide (n < 0) = false := decide_eq_false (by omega)
  have d2 : decide (64 < n) = false := decide_eq_false (by omega)
  have d3 : decide (f < 0) = true := decide_eq_true (by omega)
  go_enter Try.func6, Try.ntmps6
  go_wp2_with fail
  refine (known_any _).mono ?_
  rintro e w1 ⟨rfl, hb1⟩
  have HB1 := Lib.hid hb1
  clear hb1
  go_wp2
  go_ret
  exact ⟨rfl, HB1.out⟩

set_option maxHeartbeats 1000000 in
theorem walk_fn (A : Option Addr) (N cap : Nat) (q : Nat) (n f : Int) (w : World) (h0 : N ≤ 60) (h1 : 0 ≤ n) (h2 : n ≤ 64) (h3 : 0 ≤ f) (h4 : n < f) :
    Calls Try.prog 6 #[.slice A N cap, .int .u64 (q : Int), .int .i64 n, .int .i64 f] w fun e w' => e = .returned (.bool true) ∧ Below w.heap.size w w' := by
  have d0 : decide ((60 : Int) < (N : Int)) = false := decide_eq_false (by omega)
  have d1 : decide (n < 0) = false := decide_eq_false (by omega)
  have d2 : decide (64 < n) = false := decide_eq_false (by omega)
  have d3 : decide (f < 0) = false := decide_eq_false (by omega)
  have d4 : decide (n < f) = true := decide_eq_true (by omega)
  go_enter Try.func6, Try.ntmps6
  go_wp2_with fail
  refine (known_any _).mono ?_
  rintro e w1 ⟨rfl, hb1⟩
  have HB1 := Lib.hid hb1
  clear hb1
  go_wp2
  go_ret
  exact ⟨rfl, HB1.out⟩


/-- The value, in its low part and its high part. -/
structure Cut (p lo hi n f : Nat) : Prop where
  hp : p < 2 ^ n
  hl : lo < 2 ^ f
  hh : hi < 2 ^ (n - f)
  eq : bitsOf p n = bitsOf lo f ++ bitsOf hi (n - f)

theorem cut_mk (p n f : Nat) (hp : p < 2 ^ n) (hf : f ≤ n) : Cut p (p % 2 ^ f) (p / 2 ^ f) n f := by
  refine ⟨hp, Nat.mod_lt _ (Nat.two_pow_pos f), ?_, ?_⟩
  · refine Nat.div_lt_of_lt_mul ?_
    rw [← Nat.pow_add, show f + (n - f) = n by omega]
    exact hp
  · rw [bitsOf_mod]
    have := bitsOf_add f (n - f) p
    rw [show f + (n - f) = n by omega] at this
    exact this

theorem may_of {p n : Nat} (hp : p < 2 ^ n) (hn : n ≤ 64) : may p n = true := by
  simp [may]
  omega

theorem sh_mod {n T : Nat} (h : 2 ^ n = T) (hn : n < 64) : (2 : Int) ^ n % 18446744073709551616 = (T : Int) := by
  have h1 : 2 ^ n < 2 ^ 64 := Nat.pow_lt_pow_right (by decide) hn
  rw [h] at h1
  have e : (2 : Int) ^ n = ((2 ^ n : Nat) : Int) := by simp
  rw [e, h]
  omega

set_option maxRecDepth 100000 in
set_option maxHeartbeats 8000000 in
theorem walk_a (A : Option Addr) (ls : List (Nat × Int)) (N cap : Nat) (q n f : Nat) (w : World) (hN : ls.length = N) (hN2 : N ≤ 60) (hR : RdP w A ls) (hW : WfP ls) (hq : q < 18446744073709551616) (hn : n ≤ 64) (hf : f ≤ n) (h64 : n < 64) :
    Calls Try.prog 6 #[.slice A N cap, .int .u64 (q : Int), .int .i64 (n : Int), .int .i64 (f : Int)] w fun e w' => e = .returned (.bool true) ∧ Below w.heap.size w w' := by
  have A0 := Lib.hid (At2.new w)
  have PX := Lib.hid (puts_any A0.out.a.wr (by simp) A ls N cap hN (by omega) w.heap.size A0.out.a.ge A0.out.a.row (fun W hb => hR.below (A0.out.a.bel.trans hb)) hW)
  have PY := Lib.hid (fun (W : World) (v : Value) (l : List Bool) (u : Value) (h : At2 w W w.heap.size v l (w.heap.size + 1) u []) => puts_any h.b.wr (by simp) A ls N cap hN (by omega) w.heap.size h.b.ge h.b.row (fun W' hb => hR.below (h.b.bel.trans hb)) hW)
  have hl1 : (allB ls).length ≤ 3840 := by have := allB_len ls; omega
  obtain ⟨L, hL⟩ : ∃ L, allB ls = L := ⟨_, rfl⟩
  rw [List.nil_append, hL] at PX
  simp only [List.nil_append, hL] at PY
  rw [hL] at hl1
  have HL1 := Lib.hid hl1
  obtain ⟨T, hT⟩ : ∃ T, 2 ^ n = T := ⟨_, rfl⟩
  have hsh : IntKind.u64.wrap ((2 : Int) ^ n) = (T : Int) := by rw [IntKind.wrap_u64]; exact sh_mod hT h64
  have hT0 : ¬ (T : Int) = 0 := by have := Nat.two_pow_pos n; omega
  obtain ⟨P, hP⟩ : ∃ P, q % T = P := ⟨_, rfl⟩
  have hP2 : (q : Int) % (T : Int) = (P : Int) := by rw [← hP]; rfl
  have hPn : P < 2 ^ n := by rw [← hP, hT]; exact Nat.mod_lt _ (by omega)
  have e64 : (n : Int) < 64 := by omega
  obtain ⟨S, hS⟩ : ∃ S, 2 ^ f = S := ⟨_, rfl⟩
  have hsh2 : IntKind.u64.wrap ((2 : Int) ^ f) = (S : Int) := by rw [IntKind.wrap_u64]; exact sh_mod hS (by omega)
  have hS0 : ¬ (S : Int) = 0 := by have := Nat.two_pow_pos f; omega
  have hcut := cut_mk P n f hPn hf
  obtain ⟨lo, hlo⟩ : ∃ lo, P % 2 ^ f = lo := ⟨_, rfl⟩
  obtain ⟨hi, hhi⟩ : ∃ hi, P / 2 ^ f = hi := ⟨_, rfl⟩
  rw [hlo, hhi] at hcut
  have hlo2 : (P : Int) % (S : Int) = (lo : Int) := by rw [← hlo, hS]; rfl
  have hhi2 : (P : Int) / 2 ^ f = (hi : Int) := by rw [← hhi]; simp
  have f64 : (f : Int) < 64 := by omega
  clear hT hP hPn hS hlo hhi
  obtain ⟨LX, hLX⟩ : ∃ LX, L ++ bitsOf P n = LX := ⟨_, rfl⟩
  have hnf : ((n : Int) - (f : Int)).toNat = n - f := by omega
  have HLX : Hid (L ++ bitsOf P (n : Int).toNat = LX) := Lib.hid (by rw [Int.toNat_natCast]; exact hLX)
  have HLY : Hid ((L ++ bitsOf lo (f : Int).toNat) ++ bitsOf hi ((n : Int) - (f : Int)).toNat = LX) := Lib.hid (by rw [Int.toNat_natCast, hnf, ← hLX, hcut.eq, List.append_assoc])
  have HLL : Hid (LX.length ≤ 4000) := Lib.hid (by rw [← hLX, List.length_append, bitsOf_len]; omega)
  obtain ⟨X, hX⟩ : ∃ X, pack LX = X := ⟨_, rfl⟩
  have HX := Lib.hid hX
  obtain ⟨M, hM⟩ : ∃ M, LX.length = M := ⟨_, rfl⟩
  have HM := Lib.hid hM
  have m1 := Lib.hid (may_of hcut.hp hn)
  have m2 := Lib.hid (may_of hcut.hl (by omega))
  have m3 : Hid (may hi ((n : Int) - (f : Int)) = true) := Lib.hid (by rw [show (n : Int) - (f : Int) = ((n - f : Nat) : Int) by omega]; exact may_of hcut.hh (by omega))
  have d0 : decide ((60 : Int) < (N : Int)) = false := decide_eq_false (by omega)
  have d1 : decide ((n : Int) < 0) = false := decide_eq_false (by omega)
  have d2 : decide ((64 : Int) < (n : Int)) = false := decide_eq_false (by omega)
  have d3 : decide ((f : Int) < 0) = false := decide_eq_false (by omega)
  have d4 : decide ((n : Int) < (f : Int)) = false := decide_eq_false (by omega)
  clear hN hR hW hL hl1 hcut hLX hnf hX hM
  go_enter Try.func6, Try.ntmps6
  go_wp2_with fail
  refine PX.out.mono ?_
  rintro e w1 ⟨rfl, v1, hw1, hc1, hn1⟩
  have A1 := Lib.hid (A0.out.stepX hw1 hc1 hn1)
  clear hw1 hc1 hn1 A0 PX d0 d1 d2 d3 d4
  go_wp2_with fail
  refine (PY.out _ _ _ _ A1.out).mono ?_
  rintro e w2 ⟨rfl, v2, hw2, hc2, hn2⟩
  have A2 := Lib.hid (A1.out.stepY hw2 hc2 hn2)
  clear hw2 hc2 hn2 A1 PY
  go_wp2_with fail
  go_quiet (fail)
  go_wp2_with fail
  refine (putc_r (A2.out.dr nq).a.wr (by have := HL1.out; omega) P n m1.out HLX.out _ rfl).mono ?_
  rintro e w3 ⟨rfl, v3, hw3, hc3, hn3⟩
  have A3 := Lib.hid ((A2.out.dr nq).stepX hw3 hc3 hn3)
  clear hw3 hc3 hn3 A2
  go_wp2_with fail
  refine (putc_r A3.out.b.wr (by have := HL1.out; omega) lo f m2.out rfl _ rfl).mono ?_
  rintro e w4 ⟨rfl, v4, hw4, hc4, hn4⟩
  have A4 := Lib.hid (A3.out.stepY hw4 hc4 hn4)
  clear hw4 hc4 hn4 A3
  go_wp2_with fail
  refine (putc_r A4.out.b.wr (by rw [List.length_append, bitsOf_len]; have := HL1.out; omega) hi _ m3.out HLY.out _ rfl).mono ?_
  rintro e w5 ⟨rfl, v5, hw5, hc5, hn5⟩
  have A5 := Lib.hid (A4.out.stepY hw5 hc5 hn5)
  clear hw5 hc5 hn5 A4
  go_wp2_with fail
  refine (bytes_r A5.out.a.wr (by have := HLL.out; omega) X X.length HX.out rfl).mono ?_
  rintro e w6 ⟨A6, c6, rfl, hr6, _, hb6⟩
  have A6' := Lib.hid (A5.out.on hb6)
  have R6 := Lib.hid hr6
  clear hr6 hb6 A5
  go_wp2_with fail
  refine (bytes_r A6'.out.b.wr (by have := HLL.out; omega) X X.length HX.out rfl).mono ?_
  rintro e w7 ⟨A7, c7, rfl, hr7, _, hb7⟩
  have A7' := Lib.hid (A6'.out.on hb7)
  have R7 := Lib.hid hr7
  have R67 := Lib.hid (R6.out.below hb7)
  clear hr7 hb7 A6' R6
  go_wp2_with fail
  refine (same_n _ _ _ X X _ _ rfl rfl _ _ R67.out R7.out rfl).mono ?_
  rintro e w8 ⟨rfl, rfl⟩
  clear R67 R7
  go_wp2_with fail
  refine (len_r A7'.out.a.wr (by have := HLL.out; omega) M (by rw [HM.out])).mono ?_
  rintro e w9 ⟨rfl, d9, rfl⟩
  go_wp2_with fail
  refine (len_r (A7'.out.dr d9).b.wr (by have := HLL.out; omega) M (by rw [HM.out])).mono ?_
  rintro e w10 ⟨rfl, d10, rfl⟩
  have A10 := Lib.hid (A7'.out.dr (d9 + d10))
  clear A7'
  go_wp2_with fail
  refine (known_any _).mono ?_
  rintro e w11 ⟨rfl, hb11⟩
  have HB11 := Lib.hid (below_on A10.out.a.bel (Nat.le_refl _) hb11)
  clear hb11 A10
  go_wp2
  go_ret
  exact ⟨rfl, HB11.out⟩

set_option maxRecDepth 100000 in
set_option maxHeartbeats 8000000 in
theorem walk_b (A : Option Addr) (ls : List (Nat × Int)) (N cap : Nat) (q n f : Nat) (w : World) (hN : ls.length = N) (hN2 : N ≤ 60) (hR : RdP w A ls) (hW : WfP ls) (hq : q < 18446744073709551616) (hn : n ≤ 64) (hf : f ≤ n) (h64 : n = 64) (hf64 : f < 64) :
    Calls Try.prog 6 #[.slice A N cap, .int .u64 (q : Int), .int .i64 (n : Int), .int .i64 (f : Int)] w fun e w' => e = .returned (.bool true) ∧ Below w.heap.size w w' := by
  have A0 := Lib.hid (At2.new w)
  have PX := Lib.hid (puts_any A0.out.a.wr (by simp) A ls N cap hN (by omega) w.heap.size A0.out.a.ge A0.out.a.row (fun W hb => hR.below (A0.out.a.bel.trans hb)) hW)
  have PY := Lib.hid (fun (W : World) (v : Value) (l : List Bool) (u : Value) (h : At2 w W w.heap.size v l (w.heap.size + 1) u []) => puts_any h.b.wr (by simp) A ls N cap hN (by omega) w.heap.size h.b.ge h.b.row (fun W' hb => hR.below (h.b.bel.trans hb)) hW)
  have hl1 : (allB ls).length ≤ 3840 := by have := allB_len ls; omega
  obtain ⟨L, hL⟩ : ∃ L, allB ls = L := ⟨_, rfl⟩
  rw [List.nil_append, hL] at PX
  simp only [List.nil_append, hL] at PY
  rw [hL] at hl1
  have HL1 := Lib.hid hl1
  have e64 : decide ((n : Int) < 64) = false := decide_eq_false (by omega)
  have hPn : q < 2 ^ n := by rw [show n = 64 by omega]; exact hq
  obtain ⟨S, hS⟩ : ∃ S, 2 ^ f = S := ⟨_, rfl⟩
  have hsh2 : IntKind.u64.wrap ((2 : Int) ^ f) = (S : Int) := by rw [IntKind.wrap_u64]; exact sh_mod hS (by omega)
  have hS0 : ¬ (S : Int) = 0 := by have := Nat.two_pow_pos f; omega
  have hcut := cut_mk q n f hPn hf
  obtain ⟨lo, hlo⟩ : ∃ lo, q % 2 ^ f = lo := ⟨_, rfl⟩
  obtain ⟨hi, hhi⟩ : ∃ hi, q / 2 ^ f = hi := ⟨_, rfl⟩
  rw [hlo, hhi] at hcut
  have hlo2 : (q : Int) % (S : Int) = (lo : Int) := by rw [← hlo, hS]; rfl
  have hhi2 : (q : Int) / 2 ^ f = (hi : Int) := by rw [← hhi]; simp
  have f64 : (f : Int) < 64 := by omega
  clear hPn hS hlo hhi h64
  obtain ⟨LX, hLX⟩ : ∃ LX, L ++ bitsOf q n = LX := ⟨_, rfl⟩
  have hnf : ((n : Int) - (f : Int)).toNat = n - f := by omega
  have HLX : Hid (L ++ bitsOf q (n : Int).toNat = LX) := Lib.hid (by rw [Int.toNat_natCast]; exact hLX)
  have HLY : Hid ((L ++ bitsOf lo (f : Int).toNat) ++ bitsOf hi ((n : Int) - (f : Int)).toNat = LX) := Lib.hid (by rw [Int.toNat_natCast, hnf, ← hLX, hcut.eq, List.append_assoc])
  have HLL : Hid (LX.length ≤ 4000) := Lib.hid (by rw [← hLX, List.length_append, bitsOf_len]; omega)
  obtain ⟨X, hX⟩ : ∃ X, pack LX = X := ⟨_, rfl⟩
  have HX := Lib.hid hX
  obtain ⟨M, hM⟩ : ∃ M, LX.length = M := ⟨_, rfl⟩
  have HM := Lib.hid hM
  have m1 := Lib.hid (may_of hcut.hp hn)
  have m2 := Lib.hid (may_of hcut.hl (by omega))
  have m3 : Hid (may hi ((n : Int) - (f : Int)) = true) := Lib.hid (by rw [show (n : Int) - (f : Int) = ((n - f : Nat) : Int) by omega]; exact may_of hcut.hh (by omega))
  have d0 : decide ((60 : Int) < (N : Int)) = false := decide_eq_false (by omega)
  have d1 : decide ((n : Int) < 0) = false := decide_eq_false (by omega)
  have d2 : decide ((64 : Int) < (n : Int)) = false := decide_eq_false (by omega)
  have d3 : decide ((f : Int) < 0) = false := decide_eq_false (by omega)
  have d4 : decide ((n : Int) < (f : Int)) = false := decide_eq_false (by omega)
  clear hN hR hW hL hl1 hcut hLX hnf hX hM
  go_enter Try.func6, Try.ntmps6
  go_wp2_with fail
  refine PX.out.mono ?_
  rintro e w1 ⟨rfl, v1, hw1, hc1, hn1⟩
  have A1 := Lib.hid (A0.out.stepX hw1 hc1 hn1)
  clear hw1 hc1 hn1 A0 PX d0 d1 d2 d3 d4
  go_wp2_with fail
  refine (PY.out _ _ _ _ A1.out).mono ?_
  rintro e w2 ⟨rfl, v2, hw2, hc2, hn2⟩
  have A2 := Lib.hid (A1.out.stepY hw2 hc2 hn2)
  clear hw2 hc2 hn2 A1 PY
  go_wp2_with fail
  go_quiet (fail)
  go_wp2_with fail
  refine (putc_r (A2.out.dr nq).a.wr (by have := HL1.out; omega) q n m1.out HLX.out _ rfl).mono ?_
  rintro e w3 ⟨rfl, v3, hw3, hc3, hn3⟩
  have A3 := Lib.hid ((A2.out.dr nq).stepX hw3 hc3 hn3)
  clear hw3 hc3 hn3 A2
  go_wp2_with fail
  refine (putc_r A3.out.b.wr (by have := HL1.out; omega) lo f m2.out rfl _ rfl).mono ?_
  rintro e w4 ⟨rfl, v4, hw4, hc4, hn4⟩
  have A4 := Lib.hid (A3.out.stepY hw4 hc4 hn4)
  clear hw4 hc4 hn4 A3
  go_wp2_with fail
  refine (putc_r A4.out.b.wr (by rw [List.length_append, bitsOf_len]; have := HL1.out; omega) hi _ m3.out HLY.out _ rfl).mono ?_
  rintro e w5 ⟨rfl, v5, hw5, hc5, hn5⟩
  have A5 := Lib.hid (A4.out.stepY hw5 hc5 hn5)
  clear hw5 hc5 hn5 A4
  go_wp2_with fail
  refine (bytes_r A5.out.a.wr (by have := HLL.out; omega) X X.length HX.out rfl).mono ?_
  rintro e w6 ⟨A6, c6, rfl, hr6, _, hb6⟩
  have A6' := Lib.hid (A5.out.on hb6)
  have R6 := Lib.hid hr6
  clear hr6 hb6 A5
  go_wp2_with fail
  refine (bytes_r A6'.out.b.wr (by have := HLL.out; omega) X X.length HX.out rfl).mono ?_
  rintro e w7 ⟨A7, c7, rfl, hr7, _, hb7⟩
  have A7' := Lib.hid (A6'.out.on hb7)
  have R7 := Lib.hid hr7
  have R67 := Lib.hid (R6.out.below hb7)
  clear hr7 hb7 A6' R6
  go_wp2_with fail
  refine (same_n _ _ _ X X _ _ rfl rfl _ _ R67.out R7.out rfl).mono ?_
  rintro e w8 ⟨rfl, rfl⟩
  clear R67 R7
  go_wp2_with fail
  refine (len_r A7'.out.a.wr (by have := HLL.out; omega) M (by rw [HM.out])).mono ?_
  rintro e w9 ⟨rfl, d9, rfl⟩
  go_wp2_with fail
  refine (len_r (A7'.out.dr d9).b.wr (by have := HLL.out; omega) M (by rw [HM.out])).mono ?_
  rintro e w10 ⟨rfl, d10, rfl⟩
  have A10 := Lib.hid (A7'.out.dr (d9 + d10))
  clear A7'
  go_wp2_with fail
  refine (known_any _).mono ?_
  rintro e w11 ⟨rfl, hb11⟩
  have HB11 := Lib.hid (below_on A10.out.a.bel (Nat.le_refl _) hb11)
  clear hb11 A10
  go_wp2
  go_ret
  exact ⟨rfl, HB11.out⟩

set_option maxRecDepth 100000 in
set_option maxHeartbeats 8000000 in
theorem walk_c (A : Option Addr) (ls : List (Nat × Int)) (N cap : Nat) (q n f : Nat) (w : World) (hN : ls.length = N) (hN2 : N ≤ 60) (hR : RdP w A ls) (hW : WfP ls) (hq : q < 18446744073709551616) (hn : n ≤ 64) (hf : f ≤ n) (h64 : n = 64) (hf64 : f = 64) :
    Calls Try.prog 6 #[.slice A N cap, .int .u64 (q : Int), .int .i64 (n : Int), .int .i64 (f : Int)] w fun e w' => e = .returned (.bool true) ∧ Below w.heap.size w w' := by
  have A0 := Lib.hid (At2.new w)
  have PX := Lib.hid (puts_any A0.out.a.wr (by simp) A ls N cap hN (by omega) w.heap.size A0.out.a.ge A0.out.a.row (fun W hb => hR.below (A0.out.a.bel.trans hb)) hW)
  have PY := Lib.hid (fun (W : World) (v : Value) (l : List Bool) (u : Value) (h : At2 w W w.heap.size v l (w.heap.size + 1) u []) => puts_any h.b.wr (by simp) A ls N cap hN (by omega) w.heap.size h.b.ge h.b.row (fun W' hb => hR.below (h.b.bel.trans hb)) hW)
  have hl1 : (allB ls).length ≤ 3840 := by have := allB_len ls; omega
  obtain ⟨L, hL⟩ : ∃ L, allB ls = L := ⟨_, rfl⟩
  rw [List.nil_append, hL] at PX
  simp only [List.nil_append, hL] at PY
  rw [hL] at hl1
  have HL1 := Lib.hid hl1
  have e64 : decide ((n : Int) < 64) = false := decide_eq_false (by omega)
  have hPn : q < 2 ^ n := by rw [show n = 64 by omega]; exact hq
  have f64 : decide ((f : Int) < 64) = false := decide_eq_false (by omega)
  have hcut : Cut q q 0 n f := ⟨hPn, by rw [show f = n by omega]; exact hPn, Nat.two_pow_pos _, by rw [show f = n by omega, Nat.sub_self]; simp [bitsOf]⟩
  clear hPn h64 hf64
  obtain ⟨LX, hLX⟩ : ∃ LX, L ++ bitsOf q n = LX := ⟨_, rfl⟩
  have hnf : ((n : Int) - (f : Int)).toNat = n - f := by omega
  have HLX : Hid (L ++ bitsOf q (n : Int).toNat = LX) := Lib.hid (by rw [Int.toNat_natCast]; exact hLX)
  have HLY : Hid ((L ++ bitsOf q (f : Int).toNat) ++ bitsOf 0 ((n : Int) - (f : Int)).toNat = LX) := Lib.hid (by rw [Int.toNat_natCast, hnf, ← hLX, hcut.eq, List.append_assoc])
  have HLL : Hid (LX.length ≤ 4000) := Lib.hid (by rw [← hLX, List.length_append, bitsOf_len]; omega)
  obtain ⟨X, hX⟩ : ∃ X, pack LX = X := ⟨_, rfl⟩
  have HX := Lib.hid hX
  obtain ⟨M, hM⟩ : ∃ M, LX.length = M := ⟨_, rfl⟩
  have HM := Lib.hid hM
  have m1 := Lib.hid (may_of hcut.hp hn)
  have m2 := Lib.hid (may_of hcut.hl (by omega))
  have m3 : Hid (may 0 ((n : Int) - (f : Int)) = true) := Lib.hid (by rw [show (n : Int) - (f : Int) = ((n - f : Nat) : Int) by omega]; exact may_of hcut.hh (by omega))
  have d0 : decide ((60 : Int) < (N : Int)) = false := decide_eq_false (by omega)
  have d1 : decide ((n : Int) < 0) = false := decide_eq_false (by omega)
  have d2 : decide ((64 : Int) < (n : Int)) = false := decide_eq_false (by omega)
  have d3 : decide ((f : Int) < 0) = false := decide_eq_false (by omega)
  have d4 : decide ((n : Int) < (f : Int)) = false := decide_eq_false (by omega)
  clear hN hR hW hL hl1 hcut hLX hnf hX hM
  go_enter Try.func6, Try.ntmps6
  go_wp2_with fail
  refine PX.out.mono ?_
  rintro e w1 ⟨rfl, v1, hw1, hc1, hn1⟩
  have A1 := Lib.hid (A0.out.stepX hw1 hc1 hn1)
  clear hw1 hc1 hn1 A0 PX d0 d1 d2 d3 d4
  go_wp2_with fail
  refine (PY.out _ _ _ _ A1.out).mono ?_
  rintro e w2 ⟨rfl, v2, hw2, hc2, hn2⟩
  have A2 := Lib.hid (A1.out.stepY hw2 hc2 hn2)
  clear hw2 hc2 hn2 A1 PY
  go_wp2_with fail
  refine (putc_r A2.out.a.wr (by have := HL1.out; omega) q n m1.out HLX.out _ rfl).mono ?_
  rintro e w3 ⟨rfl, v3, hw3, hc3, hn3⟩
  have A3 := Lib.hid (A2.out.stepX hw3 hc3 hn3)
  clear hw3 hc3 hn3 A2
  go_wp2_with fail
  refine (putc_r A3.out.b.wr (by have := HL1.out; omega) q f m2.out rfl _ rfl).mono ?_
  rintro e w4 ⟨rfl, v4, hw4, hc4, hn4⟩
  have A4 := Lib.hid (A3.out.stepY hw4 hc4 hn4)
  clear hw4 hc4 hn4 A3
  go_wp2_with fail
  refine (putc_r A4.out.b.wr (by rw [List.length_append, bitsOf_len]; have := HL1.out; omega) 0 _ m3.out HLY.out _ rfl).mono ?_
  rintro e w5 ⟨rfl, v5, hw5, hc5, hn5⟩
  have A5 := Lib.hid (A4.out.stepY hw5 hc5 hn5)
  clear hw5 hc5 hn5 A4
  go_wp2_with fail
  refine (bytes_r A5.out.a.wr (by have := HLL.out; omega) X X.length HX.out rfl).mono ?_
  rintro e w6 ⟨A6, c6, rfl, hr6, _, hb6⟩
  have A6' := Lib.hid (A5.out.on hb6)
  have R6 := Lib.hid hr6
  clear hr6 hb6 A5
  go_wp2_with fail
  refine (bytes_r A6'.out.b.wr (by have := HLL.out; omega) X X.length HX.out rfl).mono ?_
  rintro e w7 ⟨A7, c7, rfl, hr7, _, hb7⟩
  have A7' := Lib.hid (A6'.out.on hb7)
  have R7 := Lib.hid hr7
  have R67 := Lib.hid (R6.out.below hb7)
  clear hr7 hb7 A6' R6
  go_wp2_with fail
  refine (same_n _ _ _ X X _ _ rfl rfl _ _ R67.out R7.out rfl).mono ?_
  rintro e w8 ⟨rfl, rfl⟩
  clear R67 R7
  go_wp2_with fail
  refine (len_r A7'.out.a.wr (by have := HLL.out; omega) M (by rw [HM.out])).mono ?_
  rintro e w9 ⟨rfl, d9, rfl⟩
  go_wp2_with fail
  refine (len_r (A7'.out.dr d9).b.wr (by have := HLL.out; omega) M (by rw [HM.out])).mono ?_
  rintro e w10 ⟨rfl, d10, rfl⟩
  have A10 := Lib.hid (A7'.out.dr (d9 + d10))
  clear A7'
  go_wp2_with fail
  refine (known_any _).mono ?_
  rintro e w11 ⟨rfl, hb11⟩
  have HB11 := Lib.hid (below_on A10.out.a.bel (Nat.le_refl _) hb11)
  clear hb11 A10
  go_wp2
  go_ret
  exact ⟨rfl, HB11.out⟩

theorem walk (A : Option Addr) (ls : List (Nat × Int)) (cap : Nat) (q n f : Int) (w : World) (hR : RdP w A ls) (hW : WfP ls) (_hc : ls.length ≤ cap) (wq : (Lit.int .u64 q).wf = true) (_wn : (Lit.int .i64 n).wf = true) (_wf : (Lit.int .i64 f).wf = true) :
    Calls Try.prog 6 #[.slice A ls.length cap, .int .u64 q, .int .i64 n, .int .i64 f] w fun e w' => e = .returned (.bool true) ∧ Below w.heap.size w w' := by
  have hq := bounds_u64 wq
  obtain ⟨q, rfl⟩ := Int.eq_ofNat_of_zero_le hq.1
  by_cases h0 : 60 < ls.length
  · exact walk_N A _ cap q n f w h0
  by_cases h1 : n < 0
  · exact walk_n0 A _ cap q n f w (by omega) h1
  by_cases h2 : 64 < n
  · exact walk_n64 A _ cap q n f w (by omega) (by omega) h2
  by_cases h3 : f < 0
  · exact walk_f0 A _ cap q n f w (by omega) (by omega) (by omega) h3
  by_cases h4 : n < f
  · exact walk_fn A _ cap q n f w (by omega) (by omega) (by omega) (by omega) h4
  obtain ⟨n, rfl⟩ := Int.eq_ofNat_of_zero_le (show 0 ≤ n by omega)
  obtain ⟨f, rfl⟩ := Int.eq_ofNat_of_zero_le (show 0 ≤ f by omega)
  by_cases h5 : n < 64
  · exact walk_a A ls _ cap q n f w rfl (by omega) hR hW (by omega) (by omega) (by omega) h5
  by_cases h6 : f < 64
  · exact walk_b A ls _ cap q n f w rfl (by omega) hR hW (by omega) (by omega) (by omega) (by omega) h6
  · exact walk_c A ls _ cap q n f w rfl (by omega) hR hW (by omega) (by omega) (by omega) (by omega) (by omega)

set_option maxRecDepth 100000 in
theorem lifted (os : Os) (started : os.Started) (H : Type) (enc : TypeId × Value → H) :
    ReturnsInHanded {} Try.checked os 6 .any (Rows.bitoutPartsSpec.pre6 enc Try.prog Try.f6 Rows.bitoutPartsRow.domain false) (Rows.bitoutPartsSpec.post enc Try.prog Try.f6 false true false false) := by
  refine returnsInHanded_of_change_sized (C := Try.checked) ownB started (by kernel_rfl) Try.func6
    (ChangeSpec.witness6 (enc := enc) (C := Try.checked) false ⟨#[], #[.slice none 0 0, .int .u64 0, .int .i64 0, .int .i64 0], []⟩ 8 (by kernel_rfl) (by kernel_rfl) (by kernel_rfl) (by kernel_rfl)) ?_
  intro W base args ds gs before hval0 hW _ hsz0 _
  have hsz : (DataW.weightsEach Try.prog (Try.f6.params.toList ++ Rows.bitoutPartsSpec.plain.varTypes Try.prog) (ds ++ gs)).all (· ≤ reachBytes) = true := hsz0
  clear hsz0
  have hval : ∀ (j : Nat) t v, Try.f6.params[j]? = some t → args[j]? = some v → Value.okWide Try.prog W .any base t v := hval0
  have hW' := hW
  obtain ⟨p, q, hA0, hV, rfl, hfz, hnd⟩ := hW
  have hA : DataW.TrodAll enc Try.prog W 0 (fun _ => true) true Try.f6.params.toList args.toList ds p := hA0
  rw [Try.params6] at hA hval hsz
  obtain ⟨v0, vs0, d0, ds0, p0, q0, hargs, rfl, rfl, h0, r0⟩ := trodAll_cons hA
  obtain ⟨v1, vs1, d1, ds1, p1, q1, rfl, rfl, rfl, h1, r1⟩ := trodAll_cons r0
  obtain ⟨v2, vs2, d2, ds2, p2, q2, rfl, rfl, rfl, h2, r2⟩ := trodAll_cons r1
  obtain ⟨v3, vs3, d3, ds3, p3, q3, rfl, rfl, rfl, h3, r3⟩ := trodAll_cons r2
  obtain ⟨rfl, rfl, rfl⟩ := trodAll_nil r3
  obtain rfl : args = #[v0, v1, v2, v3] := by cases args; simp_all
  obtain ⟨rfl, rfl⟩ := trodVars_none hV
  obtain ⟨a0, len0, cap0, rfl⟩ := okWide_slice Try.underlying22 (hval 0 22 v0 rfl rfl)
  have k0 := h0
  have lt0 : ∀ x ∈ p0, x.block < W.heap.size := by obtain ⟨m, hm⟩ := k0; exact DataW.trod_lt m _ _ _ hm
  obtain ⟨l0, rfl, hc0, rc0, wf0⟩ := open_puts h0
  obtain ⟨a1, rfl, rfl, rfl, w1⟩ := open_int Try.underlying40 (hval 1 40 v1 rfl rfl) h1
  obtain ⟨a2, rfl, rfl, rfl, w2⟩ := open_int Try.underlying3 (hval 2 3 v2 rfl rfl) h2
  obtain ⟨a3, rfl, rfl, rfl, w3⟩ := open_int Try.underlying3 (hval 3 3 v3 rfl rfl) h3
  clear hA0 hval0
  refine (walk a0 l0 cap0 a1 a2 a3 W rc0 wf0 hc0 w1 w2 w3).mono fun e W' ⟨he, bel⟩ => ?_
  subst he
  exact ⟨_, rfl, _, _, _, [], _, [], hW', trodAll_mk1 (shut_bool Try.underlying4 _), (trodAll_cons_mk (Below.trod laidOut (by kernel_rfl) (of_decide_eq_true (by kernel_rfl)) k0 bel lt0) (trodAll_cons_mk (shut_int Try.underlying40 w1) (trodAll_cons_mk (shut_int Try.underlying3 w2) (trodAll_cons_mk (shut_int Try.underlying3 w3) trodAll_mk0)))), rfl, bel.frame _, fun h => by cases h⟩

theorem proved : Rows.BitoutPartsSaid :=
  OpenClaim.holds_of_wide 6 Try.f6 rfl rfl rfl rfl rfl rfl rfl ⟨rfl, rfl, rfl, rfl, rfl⟩ rfl rfl rfl rfl rfl (by kernel_rfl) Try.func6 (by kernel_rfl)
    (of_decide_eq_true (by kernel_rfl)) (by unfold Func.isWrapper; rw [if_neg (by decide +kernel)]; exact ⟨rfl, rfl⟩)
    (fun os started H enc _ => lifted os started H enc)

#print axioms proved

end Go.Proofs.Ytaedfbceaolbcaa.bitoutParts
