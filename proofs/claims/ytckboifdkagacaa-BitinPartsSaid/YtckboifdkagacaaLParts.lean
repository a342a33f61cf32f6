/-
  Proved: the law BitinParts returns true for all bytes and all m and n: reading m bits and then n bits is equivalent to reading m + n bits. No condition.
-/
import Derived.Test.YtckboifdkagacaaUni
namespace Go.Proofs.Ytckboifdkagacaa.bitinParts
open Go.ChangeShapes Go.WideShapes Go.ChangeAt Go.RowKit

theorem or_join {X Y a b : Nat} (hX : X < 2 ^ a) (hY : Y < 2 ^ b) (hab : a + b ≤ 64) :
    bits BinOp.or IntKind.u64 (X : Int) (IntKind.u64.wrap ((Y : Int) * 2 ^ a)) = ((X + 2 ^ a * Y : Nat) : Int) ∧ bits BinOp.or IntKind.u64 (IntKind.u64.wrap ((Y : Int) * 2 ^ a)) (X : Int) = ((X + 2 ^ a * Y : Nat) : Int) := by
  rw [shl_small hY (by omega), Nat.mul_comm Y]
  have h1 : 2 ^ a * Y < 2 ^ a * 2 ^ b := (Nat.mul_lt_mul_left (Nat.two_pow_pos a)).2 hY
  have h2 : 2 ^ a * 2 ^ b ≤ 18446744073709551616 := by
    rw [← Nat.pow_add]
    exact Nat.pow_le_pow_right (n := 2) (by decide) hab
  have h3 : 2 ^ a ≤ 18446744073709551616 := Nat.pow_le_pow_right (n := 2) (by decide) (show a ≤ 64 by omega)
  refine ⟨?_, ?_⟩
  · rw [u64_or_nat _ _ (by omega) (by omega), Nat.or_comm, ← Nat.two_pow_add_eq_or_of_lt hX, Nat.add_comm]
  · rw [u64_or_nat _ _ (by omega) (by omega), ← Nat.two_pow_add_eq_or_of_lt hX, Nat.add_comm]

theorem cases_f (a b M : Nat) (h : a + b ≤ 64) : (chk a M 3 = 0 ∧ chk b (M - fpos a 0 M) 3 = 0 ∧ chk ((a : Int) + (b : Int)) M 3 = 0 ∧ a + b ≤ M ∧ fpos a 0 M = a) ∨ (chk a M 3 = 0 ∧ chk b (M - fpos a 0 M) 3 = 3 ∧ chk ((a : Int) + (b : Int)) M 3 = 3) ∨ (chk a M 3 = 3 ∧ chk ((a : Int) + (b : Int)) M 3 = 3) := by
  by_cases h1 : a ≤ M
  · have e1 : chk a M 3 = 0 := by simp [chk]; omega
    have e2 : fpos a 0 M = a := by simp [fpos, e1]
    rw [e2]
    by_cases h2 : a + b ≤ M
    · refine .inl ⟨e1, by simp [chk]; omega, by simp [chk]; omega, h2, rfl⟩
    · refine .inr (.inl ⟨e1, ?_, ?_⟩)
      · rw [chk, if_neg (by omega), if_pos (by omega)]
      · rw [chk, if_neg (by omega), if_pos (by omega)]
  · refine .inr (.inr ⟨?_, ?_⟩)
    · rw [chk, if_neg (by omega), if_pos (by omega)]
    · rw [chk, if_neg (by omega), if_pos (by omega)]

theorem cases_b (a b M : Nat) (h : a + b ≤ 64) : (chk a M 14 = 0 ∧ chk b (bpos a M) 14 = 0 ∧ chk ((a : Int) + (b : Int)) M 14 = 0 ∧ a + b ≤ M ∧ bpos a M = M - a) ∨ (chk a M 14 = 0 ∧ chk b (bpos a M) 14 = 14 ∧ chk ((a : Int) + (b : Int)) M 14 = 14) ∨ (chk a M 14 = 14 ∧ chk ((a : Int) + (b : Int)) M 14 = 14) := by
  by_cases h1 : a ≤ M
  · have e1 : chk a M 14 = 0 := by simp [chk]; omega
    have e2 : bpos a M = M - a := by simp [bpos, e1]
    rw [e2]
    by_cases h2 : a + b ≤ M
    · refine .inl ⟨e1, by simp [chk]; omega, by simp [chk]; omega, h2, rfl⟩
    · refine .inr (.inl ⟨e1, ?_, ?_⟩)
      · rw [chk, if_neg (by omega), if_pos (by omega)]
      · rw [chk, if_neg (by omega), if_pos (by omega)]
  · refine .inr (.inr ⟨?_, ?_⟩)
    · rw [chk, if_neg (by omega), if_pos (by omega)]
    · rw [chk, if_neg (by omega), if_pos (by omega)]

theorem chk_cases {n : Int} (k : Nat) (sh : Int) (h : 0 ≤ n) (h2 : n ≤ 64) : chk n k sh = 0 ∨ chk n k sh = sh := by
  rw [chk, if_neg (by omega)]
  split
  · exact .inr rfl
  · exact .inl rfl

theorem chk_arg {n : Int} (k : Nat) (sh : Int) (h : n < 0 ∨ 64 < n) : chk n k sh = 2 := by rw [chk, if_pos h]

/-- m + n wraps round. -/
theorem cases_o (m n S : Int) (k : Nat) (K : Nat) (sh : Int) (hS : S < 0) (hm : 0 ≤ m) (h : 64 < m ∨ 64 < n) :
    (chk m k sh = 0 ∧ chk n K sh = 2 ∧ chk S k sh = 2) ∨ (chk m k sh = 2 ∧ chk S k sh = 2) ∨ (chk m k sh = sh ∧ chk S k sh = 2) := by
  by_cases h1 : 64 < m
  · exact .inr (.inl ⟨chk_arg _ _ (.inr h1), chk_arg _ _ (.inl hS)⟩)
  · rcases chk_cases k sh hm (by omega) with h2 | h2
    · exact .inl ⟨h2, chk_arg _ _ (.inr (by omega)), chk_arg _ _ (.inl hS)⟩
    · exact .inr (.inr ⟨h2, chk_arg _ _ (.inl hS)⟩)


set_option maxRecDepth 100000 in
set_option maxHeartbeats 4000000 in
theorem walk_ok (A : Option Addr) (D : List UInt8) (N cap : Nat) (w : World) (hN : D.length = N) (hN2 : N ≤ 200) (hR : Rd w A D) (a b : Nat) (hab : a + b ≤ 64) :
    Calls Try.prog 6 #[.slice A N cap, .int .i64 (a : Int), .int .i64 (b : Int)] w fun e w' => e = .returned (.bool true) ∧ Below w.heap.size w w' := by
  have HN := Lib.hid hN
  have HR := Lib.hid hR
  have hd : decide ((200 : Int) < (N : Int)) = false := decide_eq_false (by omega)
  have hd1 : decide ((a : Int) < 0) = false := decide_eq_false (by omega)
  have hd2 : decide ((b : Int) < 0) = false := decide_eq_false (by omega)
  have hd3 : decide ((64 : Int) < (a : Int) + (b : Int)) = false := decide_eq_false (by omega)
  clear hN hR
  go_enter Try.func6, Try.ntmps6
  go_wp2_with fail
  refine (newf_any _ _ D N cap HN.out (by omega) HR.out).mono ?_
  rintro q w1 ⟨x, rfl, A1, c1, h1⟩
  have F1 := Lib.hid h1
  have R1 := Lib.hid (HR.out.below h1.bel)
  clear h1
  go_wp2_with fail
  refine (newf_any _ _ D N cap HN.out (by omega) R1.out).mono ?_
  rintro q w2 ⟨y, rfl, A2, c2, h2⟩
  have F2 := Lib.hid (F1.out.on h2.bel)
  have S2 := Lib.hid (Sep.new F1.out.sp h2)
  have G2 := Lib.hid (Rr.from F1.out.bel h2)
  clear h2 F1 R1
  obtain ⟨M, hM⟩ : ∃ M, 8 * N = M := ⟨_, rfl⟩
  rw [hM] at F2 G2
  have HM : Hid (M = 8 * D.length) := Lib.hid (by rw [HN.out]; exact hM.symm)
  clear hM
  obtain ⟨re, hre⟩ : ∃ r, chk (a : Int) (M - 0) 3 = r := ⟨_, rfl⟩
  obtain ⟨Vx, hVx⟩ : ∃ V, fval D (a : Int) 0 M = V := ⟨_, rfl⟩
  obtain ⟨s1, hs1⟩ : ∃ s, fpos (a : Int) 0 M = s := ⟨_, rfl⟩
  obtain ⟨rh, hrh⟩ : ∃ r, chk (b : Int) (M - s1) 3 = r := ⟨_, rfl⟩
  obtain ⟨Vy, hVy⟩ : ∃ V, fval D (b : Int) s1 M = V := ⟨_, rfl⟩
  obtain ⟨s2, hs2⟩ : ∃ s, fpos (b : Int) s1 M = s := ⟨_, rfl⟩
  obtain ⟨ri, hri⟩ : ∃ r, chk ((a : Int) + (b : Int)) (M - 0) 3 = r := ⟨_, rfl⟩
  obtain ⟨Vz, hVz⟩ : ∃ V, fval D ((a : Int) + (b : Int)) 0 M = V := ⟨_, rfl⟩
  obtain ⟨s3, hs3⟩ : ∃ s, fpos ((a : Int) + (b : Int)) 0 M = s := ⟨_, rfl⟩
  have E1 := Lib.hid (And.intro hre (And.intro hVx hs1))
  have E2 := Lib.hid (And.intro hrh (And.intro hVy hs2))
  have E3 := Lib.hid (And.intro hri (And.intro hVz hs3))
  clear hre hVx hs1 hrh hVy hs2 hri hVz hs3
  go_wp2_with fail
  refine (ftake_u F2.out (Nat.zero_le _) (Nat.le_of_eq HM.out) (by rw [HN.out]; omega) (a : Int) re E1.out.1 Vx E1.out.2.1 s1 E1.out.2.2).mono ?_
  rintro q w3 ⟨rfl, hr, hg⟩
  have F3 := Lib.hid hr
  have G3 := Lib.hid (G2.out.other S2.out.symm F2.out.ge hg)
  have L3 : Hid (s1 ≤ M) := Lib.hid (by have := fpos_le (a : Int) 0 M (Nat.zero_le _); rw [E1.out.2.2] at this; exact this.2)
  clear F2 G2 hr hg
  go_wp2_with fail
  refine (ftake_u F3.out L3.out (Nat.le_of_eq HM.out) (by rw [HN.out]; omega) (b : Int) rh E2.out.1 Vy E2.out.2.1 s2 E2.out.2.2).mono ?_
  rintro q w4 ⟨rfl, hr, hg⟩
  have G4 := Lib.hid (G3.out.other S2.out.symm F3.out.ge hg)
  clear F3 G3 hr hg
  go_wp2_with fail
  refine (ftake_u G4.out (Nat.zero_le _) (Nat.le_of_eq HM.out) (by rw [HN.out]; omega) ((a : Int) + (b : Int)) ri E3.out.1 Vz E3.out.2.1 s3 E3.out.2.2).mono ?_
  rintro q w5 ⟨rfl, hr, hg⟩
  have B5 := Lib.hid hr.bel
  clear G4 hr hg
  go_upto_region 9 with fail
  go_cut [94] (fun t wx => t = .bool false ∧ wx = w5)
  case first =>
    rcases cases_f a b M hab with ⟨h1, h2, h3, h4, h5⟩ | ⟨h1, h2, h3⟩ | ⟨h1, h3⟩
    · obtain rfl : re = 0 := by rw [← E1.out.1]; exact h1
      obtain rfl : rh = 0 := by rw [← E2.out.1, ← E1.out.2.2]; exact h2
      obtain rfl : ri = 0 := by rw [← E3.out.1]; exact h3
      have hx : Vx = cut D 0 a := by rw [← E1.out.2.1, fval, if_pos (show chk (a : Int) (M - 0) 3 = 0 from h1)]; rfl
      have hs : s1 = a := by rw [← E1.out.2.2]; exact h5
      have hy : Vy = cut D a b := by rw [← E2.out.2.1, fval, hs, if_pos (by rw [← h5]; exact h2)]; rfl
      have hz : Vz = cut D 0 (a + b) := by rw [← E3.out.2.1, fval, if_pos (show chk ((a : Int) + (b : Int)) (M - 0) 3 = 0 from h3)]; rfl
      have hor := (or_join (X := Vx) (Y := Vy) (a := a) (b := b) (by rw [hx]; exact cut_lt _ _ _) (by rw [hy]; exact cut_lt _ _ _) hab).1
      have hzz : Vx + 2 ^ a * Vy = Vz := by rw [hx, hy, hz, cut_add D 0 a b (by rw [← HM.out]; omega), Nat.zero_add]
      rw [hzz] at hor
      have HOR := Lib.hid hor
      clear h1 h2 h3 hx hs hy hz hor hzz h4 h5
      go_wp2_with fail
      go_meet
      exact ⟨congrArg Value.bool (by rw [HOR.out]; simp), rfl⟩
    · obtain rfl : re = 0 := by rw [← E1.out.1]; exact h1
      obtain rfl : rh = 3 := by rw [← E2.out.1, ← E1.out.2.2]; exact h2
      obtain rfl : ri = 3 := by rw [← E3.out.1]; exact h3
      clear h1 h2 h3
      go_wp2_with fail
      go_meet
      exact ⟨rfl, rfl⟩
    · obtain rfl : re = 3 := by rw [← E1.out.1]; exact h1
      obtain rfl : ri = 3 := by rw [← E3.out.1]; exact h3
      clear h1 h3
      go_wp2_with fail
      go_meet
      exact ⟨rfl, rfl⟩
  case rest =>
    obtain ⟨rfl, rfl⟩ := hcut
    have R5 := Lib.hid (HR.out.below B5.out)
    clear E1 E2 E3 L3
    rcases he : endOf D with _ | e
    · have HE := Lib.hid he
      clear he
      go_wp2_with fail
      refine (newb_n _ _ D N cap HN.out (by omega) R5.out HE.out).mono ?_
      rintro q w6 ⟨rfl, rfl⟩
      go_wp2_with fail
      refine (newb_n _ _ D N cap HN.out (by omega) R5.out HE.out).mono ?_
      rintro q w6 ⟨rfl, rfl⟩
      go_wp2_with fail
      refine (known_any _).mono ?_
      rintro q wk ⟨rfl, hb⟩
      have HB := Lib.hid (below_on B5.out (Nat.le_refl _) hb)
      clear hb
      go_wp2
      go_ret
      exact ⟨rfl, HB.out⟩
    · have HE := Lib.hid he
      have LE : Hid (e ≤ 8 * D.length) := Lib.hid (by obtain ⟨_, _, _, _, _, h⟩ := endOf_some he; omega)
      clear he
      go_wp2_with fail
      refine (newb_s _ _ D N cap HN.out (by omega) R5.out e HE.out).mono ?_
      rintro q w6 ⟨x, rfl, A1, c1, h1⟩
      have F6 := Lib.hid (Rr.from B5.out h1)
      have R6 := Lib.hid (R5.out.below h1.bel)
      clear h1 B5 R5
      go_wp2_with fail
      refine (newb_s _ _ D N cap HN.out (by omega) R6.out e HE.out).mono ?_
      rintro q w7 ⟨y, rfl, A2, c2, h2⟩
      have F7 := Lib.hid (F6.out.on h2.bel)
      have S7 := Lib.hid (Sep.new F6.out.sp h2)
      have G7 := Lib.hid (Rr.from F6.out.bel h2)
      clear h2 F6 R6
      obtain ⟨rp, hrp⟩ : ∃ r, chk (a : Int) e 14 = r := ⟨_, rfl⟩
      obtain ⟨Vu, hVu⟩ : ∃ V, bval D (a : Int) e = V := ⟨_, rfl⟩
      obtain ⟨e1, he1⟩ : ∃ s, bpos (a : Int) e = s := ⟨_, rfl⟩
      obtain ⟨rq, hrq⟩ : ∃ r, chk (b : Int) e1 14 = r := ⟨_, rfl⟩
      obtain ⟨Vv, hVv⟩ : ∃ V, bval D (b : Int) e1 = V := ⟨_, rfl⟩
      obtain ⟨e2, he2⟩ : ∃ s, bpos (b : Int) e1 = s := ⟨_, rfl⟩
      obtain ⟨rr, hrr⟩ : ∃ r, chk ((a : Int) + (b : Int)) e 14 = r := ⟨_, rfl⟩
      obtain ⟨Vt, hVt⟩ : ∃ V, bval D ((a : Int) + (b : Int)) e = V := ⟨_, rfl⟩
      obtain ⟨e3, he3⟩ : ∃ s, bpos ((a : Int) + (b : Int)) e = s := ⟨_, rfl⟩
      have E1 := Lib.hid (And.intro hrp (And.intro hVu he1))
      have E2 := Lib.hid (And.intro hrq (And.intro hVv he2))
      have E3 := Lib.hid (And.intro hrr (And.intro hVt he3))
      have L1 : Hid (e1 ≤ 8 * D.length) := Lib.hid (by have := bpos_le (a : Int) e; have := LE.out; rw [he1] at *; omega)
      clear hrp hVu he1 hrq hVv he2 hrr hVt he3
      go_wp2_with fail
      refine (btake_u F7.out LE.out (by rw [HN.out]; omega) (a : Int) rp E1.out.1 Vu E1.out.2.1 e1 E1.out.2.2).mono ?_
      rintro q w8 ⟨rfl, hr, hg⟩
      have F8 := Lib.hid hr
      have G8 := Lib.hid (G7.out.other S7.out.symm F7.out.ge hg)
      clear F7 G7 hr hg
      go_wp2_with fail
      refine (btake_u F8.out L1.out (by rw [HN.out]; omega) (b : Int) rq E2.out.1 Vv E2.out.2.1 e2 E2.out.2.2).mono ?_
      rintro q w9 ⟨rfl, hr, hg⟩
      have G9 := Lib.hid (G8.out.other S7.out.symm F8.out.ge hg)
      clear F8 G8 hr hg
      go_wp2_with fail
      refine (btake_u G9.out LE.out (by rw [HN.out]; omega) ((a : Int) + (b : Int)) rr E3.out.1 Vt E3.out.2.1 e3 E3.out.2.2).mono ?_
      rintro q w10 ⟨rfl, hr, hg⟩
      have B10 := Lib.hid hr.bel
      clear G9 hr hg
      rcases cases_b a b e hab with ⟨h1, h2, h3, h4, h5⟩ | ⟨h1, h2, h3⟩ | ⟨h1, h3⟩
      · obtain rfl : rp = 0 := by rw [← E1.out.1]; exact h1
        obtain rfl : rq = 0 := by rw [← E2.out.1, ← E1.out.2.2]; exact h2
        obtain rfl : rr = 0 := by rw [← E3.out.1]; exact h3
        have hx : Vu = cut D (e - a) a := by rw [← E1.out.2.1, bval, if_pos h1]; rfl
        have hs : e1 = e - a := by rw [← E1.out.2.2]; exact h5
        have hy : Vv = cut D (e - a - b) b := by rw [← E2.out.2.1, bval, hs, if_pos (by rw [← h5]; exact h2)]; rfl
        have hz : Vt = cut D (e - (a + b)) (a + b) := by rw [← E3.out.2.1, bval, if_pos h3]; rfl
        have hor := (or_join (X := Vv) (Y := Vu) (a := b) (b := a) (by rw [hy]; exact cut_lt _ _ _) (by rw [hx]; exact cut_lt _ _ _) (by omega)).2
        have hzz : Vv + 2 ^ b * Vu = Vt := by
          rw [hx, hy, hz, Nat.add_comm a b, show e - (b + a) = e - a - b by omega, cut_add D (e - a - b) b a (by have := LE.out; omega), show e - a - b + b = e - a by omega]
        rw [hzz] at hor
        clear h1 h2 h3 hx hs hy hz hzz h4 h5
        go_wp2_with fail
        refine (known_any _).mono ?_
        rintro q wk ⟨rfl, hb⟩
        have HB := Lib.hid (below_on B10.out (Nat.le_refl _) hb)
        clear hb
        go_wp2
        go_ret
        exact ⟨rfl, HB.out⟩
      · obtain rfl : rp = 0 := by rw [← E1.out.1]; exact h1
        obtain rfl : rq = 14 := by rw [← E2.out.1, ← E1.out.2.2]; exact h2
        obtain rfl : rr = 14 := by rw [← E3.out.1]; exact h3
        clear h1 h2 h3
        go_wp2_with fail
        refine (known_any _).mono ?_
        rintro q wk ⟨rfl, hb⟩
        have HB := Lib.hid (below_on B10.out (Nat.le_refl _) hb)
        clear hb
        go_wp2
        go_ret
        exact ⟨rfl, HB.out⟩
      · obtain rfl : rp = 14 := by rw [← E1.out.1]; exact h1
        obtain rfl : rr = 14 := by rw [← E3.out.1]; exact h3
        clear h1 h3
        go_wp2_with fail
        refine (known_any _).mono ?_
        rintro q wk ⟨rfl, hb⟩
        have HB := Lib.hid (below_on B10.out (Nat.le_refl _) hb)
        clear hb
        go_wp2
        go_ret
        exact ⟨rfl, HB.out⟩

set_option maxRecDepth 100000 in
set_option maxHeartbeats 4000000 in
theorem walk_over (A : Option Addr) (D : List UInt8) (N cap : Nat) (w : World) (hN : D.length = N) (hN2 : N ≤ 200) (hR : Rd w A D) (m n S : Int) (hS : S < 0) (hm : 0 ≤ m) (hn : 0 ≤ n) (hmn : 64 < m ∨ 64 < n) (hw : wrap64 (m + n) = S) :
    Calls Try.prog 6 #[.slice A N cap, .int .i64 m, .int .i64 n] w fun e w' => e = .returned (.bool true) ∧ Below w.heap.size w w' := by
  have HN := Lib.hid hN
  have HR := Lib.hid hR
  have hd : decide ((200 : Int) < (N : Int)) = false := decide_eq_false (by omega)
  have hd1 : decide (m < 0) = false := decide_eq_false (by omega)
  have hd2 : decide (n < 0) = false := decide_eq_false (by omega)
  have hd3 : decide ((64 : Int) < S) = false := decide_eq_false (by omega)
  clear hN hR
  go_enter Try.func6, Try.ntmps6
  go_wp2_with fail
  refine (newf_any _ _ D N cap HN.out (by omega) HR.out).mono ?_
  rintro q w1 ⟨x, rfl, A1, c1, h1⟩
  have F1 := Lib.hid h1
  have R1 := Lib.hid (HR.out.below h1.bel)
  clear h1
  go_wp2_with fail
  refine (newf_any _ _ D N cap HN.out (by omega) R1.out).mono ?_
  rintro q w2 ⟨y, rfl, A2, c2, h2⟩
  have F2 := Lib.hid (F1.out.on h2.bel)
  have S2 := Lib.hid (Sep.new F1.out.sp h2)
  have G2 := Lib.hid (Rr.from F1.out.bel h2)
  clear h2 F1 R1
  obtain ⟨M, hM⟩ : ∃ M, 8 * N = M := ⟨_, rfl⟩
  rw [hM] at F2 G2
  have HM : Hid (M = 8 * D.length) := Lib.hid (by rw [HN.out]; exact hM.symm)
  clear hM
  obtain ⟨re, hre⟩ : ∃ r, chk m (M - 0) 3 = r := ⟨_, rfl⟩
  obtain ⟨Vx, hVx⟩ : ∃ V, fval D m 0 M = V := ⟨_, rfl⟩
  obtain ⟨s1, hs1⟩ : ∃ s, fpos m 0 M = s := ⟨_, rfl⟩
  obtain ⟨rh, hrh⟩ : ∃ r, chk n (M - s1) 3 = r := ⟨_, rfl⟩
  obtain ⟨Vy, hVy⟩ : ∃ V, fval D n s1 M = V := ⟨_, rfl⟩
  obtain ⟨s2, hs2⟩ : ∃ s, fpos n s1 M = s := ⟨_, rfl⟩
  obtain ⟨ri, hri⟩ : ∃ r, chk S (M - 0) 3 = r := ⟨_, rfl⟩
  obtain ⟨Vz, hVz⟩ : ∃ V, fval D S 0 M = V := ⟨_, rfl⟩
  obtain ⟨s3, hs3⟩ : ∃ s, fpos S 0 M = s := ⟨_, rfl⟩
  have E1 := Lib.hid (And.intro hre (And.intro hVx hs1))
  have E2 := Lib.hid (And.intro hrh (And.intro hVy hs2))
  have E3 := Lib.hid (And.intro hri (And.intro hVz hs3))
  clear hre hVx hs1 hrh hVy hs2 hri hVz hs3
  go_wp2_with fail
  refine (ftake_u F2.out (Nat.zero_le _) (Nat.le_of_eq HM.out) (by rw [HN.out]; omega) m re E1.out.1 Vx E1.out.2.1 s1 E1.out.2.2).mono ?_
  rintro q w3 ⟨rfl, hr, hg⟩
  have F3 := Lib.hid hr
  have G3 := Lib.hid (G2.out.other S2.out.symm F2.out.ge hg)
  have L3 : Hid (s1 ≤ M) := Lib.hid (by have := fpos_le m 0 M (Nat.zero_le _); rw [E1.out.2.2] at this; exact this.2)
  clear F2 G2 hr hg
  go_wp2_with fail
  refine (ftake_u F3.out L3.out (Nat.le_of_eq HM.out) (by rw [HN.out]; omega) n rh E2.out.1 Vy E2.out.2.1 s2 E2.out.2.2).mono ?_
  rintro q w4 ⟨rfl, hr, hg⟩
  have G4 := Lib.hid (G3.out.other S2.out.symm F3.out.ge hg)
  clear F3 G3 hr hg
  go_wp2_with fail
  refine (ftake_u G4.out (Nat.zero_le _) (Nat.le_of_eq HM.out) (by rw [HN.out]; omega) S ri E3.out.1 Vz E3.out.2.1 s3 E3.out.2.2).mono ?_
  rintro q w5 ⟨rfl, hr, hg⟩
  have B5 := Lib.hid hr.bel
  clear G4 hr hg
  go_upto_region 9 with fail
  go_cut [94] (fun t wx => t = .bool false ∧ wx = w5)
  case first =>
    rcases cases_o m n S (M - 0) (M - s1) 3 hS hm hmn with ⟨h1, h2, h3⟩ | ⟨h1, h3⟩ | ⟨h1, h3⟩
    · obtain rfl : re = 0 := by rw [← E1.out.1]; exact h1
      obtain rfl : rh = 2 := by rw [← E2.out.1]; exact h2
      obtain rfl : ri = 2 := by rw [← E3.out.1]; exact h3
      clear h1 h2 h3
      go_wp2_with fail
      go_meet
      exact ⟨rfl, rfl⟩
    · obtain rfl : re = 2 := by rw [← E1.out.1]; exact h1
      obtain rfl : ri = 2 := by rw [← E3.out.1]; exact h3
      clear h1 h3
      go_wp2_with fail
      go_meet
      exact ⟨rfl, rfl⟩
    · obtain rfl : re = 3 := by rw [← E1.out.1]; exact h1
      obtain rfl : ri = 2 := by rw [← E3.out.1]; exact h3
      clear h1 h3
      go_wp2_with fail
      go_meet
      exact ⟨rfl, rfl⟩
  case rest =>
    obtain ⟨rfl, rfl⟩ := hcut
    have R5 := Lib.hid (HR.out.below B5.out)
    clear E1 E2 E3 L3
    rcases he : endOf D with _ | e
    · have HE := Lib.hid he
      clear he
      go_wp2_with fail
      refine (newb_n _ _ D N cap HN.out (by omega) R5.out HE.out).mono ?_
      rintro q w6 ⟨rfl, rfl⟩
      go_wp2_with fail
      refine (newb_n _ _ D N cap HN.out (by omega) R5.out HE.out).mono ?_
      rintro q w6 ⟨rfl, rfl⟩
      go_wp2_with fail
      refine (known_any _).mono ?_
      rintro q wk ⟨rfl, hb⟩
      have HB := Lib.hid (below_on B5.out (Nat.le_refl _) hb)
      clear hb
      go_wp2
      go_ret
      exact ⟨rfl, HB.out⟩
    · have HE := Lib.hid he
      have LE : Hid (e ≤ 8 * D.length) := Lib.hid (by obtain ⟨_, _, _, _, _, h⟩ := endOf_some he; omega)
      clear he
      go_wp2_with fail
      refine (newb_s _ _ D N cap HN.out (by omega) R5.out e HE.out).mono ?_
      rintro q w6 ⟨x, rfl, A1, c1, h1⟩
      have F6 := Lib.hid (Rr.from B5.out h1)
      have R6 := Lib.hid (R5.out.below h1.bel)
      clear h1 B5 R5
      go_wp2_with fail
      refine (newb_s _ _ D N cap HN.out (by omega) R6.out e HE.out).mono ?_
      rintro q w7 ⟨y, rfl, A2, c2, h2⟩
      have F7 := Lib.hid (F6.out.on h2.bel)
      have S7 := Lib.hid (Sep.new F6.out.sp h2)
      have G7 := Lib.hid (Rr.from F6.out.bel h2)
      clear h2 F6 R6
      obtain ⟨rp, hrp⟩ : ∃ r, chk m e 14 = r := ⟨_, rfl⟩
      obtain ⟨Vu, hVu⟩ : ∃ V, bval D m e = V := ⟨_, rfl⟩
      obtain ⟨e1, he1⟩ : ∃ s, bpos m e = s := ⟨_, rfl⟩
      obtain ⟨rq, hrq⟩ : ∃ r, chk n e1 14 = r := ⟨_, rfl⟩
      obtain ⟨Vv, hVv⟩ : ∃ V, bval D n e1 = V := ⟨_, rfl⟩
      obtain ⟨e2, he2⟩ : ∃ s, bpos n e1 = s := ⟨_, rfl⟩
      obtain ⟨rr, hrr⟩ : ∃ r, chk S e 14 = r := ⟨_, rfl⟩
      obtain ⟨Vt, hVt⟩ : ∃ V, bval D S e = V := ⟨_, rfl⟩
      obtain ⟨e3, he3⟩ : ∃ s, bpos S e = s := ⟨_, rfl⟩
      have E1 := Lib.hid (And.intro hrp (And.intro hVu he1))
      have E2 := Lib.hid (And.intro hrq (And.intro hVv he2))
      have E3 := Lib.hid (And.intro hrr (And.intro hVt he3))
      have L1 : Hid (e1 ≤ 8 * D.length) := Lib.hid (by have := bpos_le m e; have := LE.out; rw [he1] at *; omega)
      clear hrp hVu he1 hrq hVv he2 hrr hVt he3
      go_wp2_with fail
      refine (btake_u F7.out LE.out (by rw [HN.out]; omega) m rp E1.out.1 Vu E1.out.2.1 e1 E1.out.2.2).mono ?_
      rintro q w8 ⟨rfl, hr, hg⟩
      have F8 := Lib.hid hr
      have G8 := Lib.hid (G7.out.other S7.out.symm F7.out.ge hg)
      clear F7 G7 hr hg
      go_wp2_with fail
      refine (btake_u F8.out L1.out (by rw [HN.out]; omega) n rq E2.out.1 Vv E2.out.2.1 e2 E2.out.2.2).mono ?_
      rintro q w9 ⟨rfl, hr, hg⟩
      have G9 := Lib.hid (G8.out.other S7.out.symm F8.out.ge hg)
      clear F8 G8 hr hg
      go_wp2_with fail
      refine (btake_u G9.out LE.out (by rw [HN.out]; omega) S rr E3.out.1 Vt E3.out.2.1 e3 E3.out.2.2).mono ?_
      rintro q w10 ⟨rfl, hr, hg⟩
      have B10 := Lib.hid hr.bel
      clear G9 hr hg
      rcases cases_o m n S e e1 14 hS hm hmn with ⟨h1, h2, h3⟩ | ⟨h1, h3⟩ | ⟨h1, h3⟩
      · obtain rfl : rp = 0 := by rw [← E1.out.1]; exact h1
        obtain rfl : rq = 2 := by rw [← E2.out.1]; exact h2
        obtain rfl : rr = 2 := by rw [← E3.out.1]; exact h3
        clear h1 h2 h3
        go_wp2_with fail
        refine (known_any _).mono ?_
        rintro q wk ⟨rfl, hb⟩
        have HB := Lib.hid (below_on B10.out (Nat.le_refl _) hb)
        clear hb
        go_wp2
        go_ret
        exact ⟨rfl, HB.out⟩
      · obtain rfl : rp = 2 := by rw [← E1.out.1]; exact h1
        obtain rfl : rr = 2 := by rw [← E3.out.1]; exact h3
        clear h1 h3
        go_wp2_with fail
        refine (known_any _).mono ?_
        rintro q wk ⟨rfl, hb⟩
        have HB := Lib.hid (below_on B10.out (Nat.le_refl _) hb)
        clear hb
        go_wp2
        go_ret
        exact ⟨rfl, HB.out⟩
      · obtain rfl : rp = 14 := by rw [← E1.out.1]; exact h1
        obtain rfl : rr = 2 := by rw [← E3.out.1]; exact h3
        clear h1 h3
        go_wp2_with fail
        refine (known_any _).mono ?_
        rintro q wk ⟨rfl, hb⟩
        have HB := Lib.hid (below_on B10.out (Nat.le_refl _) hb)
        clear hb
        go_wp2
        go_ret
        exact ⟨rfl, HB.out⟩

set_option maxHeartbeats 1000000 in
theorem walk_big (A : Option Addr) (N cap : Nat) (m n : Int) (w : World) (hN : 200 < N) :
    Calls Try.prog 6 #[.slice A N cap, .int .i64 m, .int .i64 n] w fun e w' => e = .returned (.bool true) ∧ Below w.heap.size w w' := by
  have hd : decide ((200 : Int) < (N : Int)) = true := decide_eq_true (by omega)
  go_enter Try.func6, Try.ntmps6
  go_wp2_with fail
  refine (known_any _).mono ?_
  rintro e w1 ⟨rfl, hb1⟩
  have HB1 := Lib.hid hb1
  clear hb1
  go_wp2
  go_ret
  exact ⟨rfl, HB1.out⟩

set_option maxHeartbeats 1000000 in
theorem walk_m (A : Option Addr) (N cap : Nat) (m n : Int) (w : World) (hN : N ≤ 200) (hm : m < 0) :
    Calls Try.prog 6 #[.slice A N cap, .int .i64 m, .int .i64 n] w fun e w' => e = .returned (.bool true) ∧ Below w.heap.size w w' := by
  have hd : decide ((200 : Int) < (N : Int)) = false := decide_eq_false (by omega)
  have hd1 : decide (m < 0) = true := decide_eq_true hm
  go_enter Try.func6, Try.ntmps6
  go_wp2_with fail
  refine (known_any _).mono ?_
  rintro e w1 ⟨rfl, hb1⟩
  have HB1 := Lib.hid hb1
  clear hb1
  go_wp2
  go_ret
  exact ⟨rfl, HB1.out⟩

set_option maxHeartbeats 1000000 in
theorem walk_n (A : Option Addr) (N cap : Nat) (m n : Int) (w : World) (hN : N ≤ 200) (hm : 0 ≤ m) (hn : n < 0) :
    Calls Try.prog 6 #[.slice A N cap, .int .i64 m, .int .i64 n] w fun e w' => e = .returned (.bool true) ∧ Below w.heap.size w w' := by
  have hd : decide ((200 : Int) < (N : Int)) = false := decide_eq_false (by omega)
  have hd1 : decide (m < 0) = false := decide_eq_false (by omega)
  have hd2 : decide (n < 0) = true := decide_eq_true hn
  go_enter Try.func6, Try.ntmps6
  go_wp2_with fail
  refine (known_any _).mono ?_
  rintro e w1 ⟨rfl, hb1⟩
  have HB1 := Lib.hid hb1
  clear hb1
  go_wp2
  go_ret
  exact ⟨rfl, HB1.out⟩

set_option maxHeartbeats 1000000 in
theorem walk_s (A : Option Addr) (N cap : Nat) (m n : Int) (w : World) (hN : N ≤ 200) (hm : 0 ≤ m) (hn : 0 ≤ n) (hs : 64 < m + n) (hb : m + n ≤ 9223372036854775807) :
    Calls Try.prog 6 #[.slice A N cap, .int .i64 m, .int .i64 n] w fun e w' => e = .returned (.bool true) ∧ Below w.heap.size w w' := by
  have hd : decide ((200 : Int) < (N : Int)) = false := decide_eq_false (by omega)
  have hd1 : decide (m < 0) = false := decide_eq_false (by omega)
  have hd2 : decide (n < 0) = false := decide_eq_false (by omega)
  have hd3 : decide (64 < m + n) = true := decide_eq_true hs
  go_enter Try.func6, Try.ntmps6
  go_wp2_with fail
  refine (known_any _).mono ?_
  rintro e w1 ⟨rfl, hb1⟩
  have HB1 := Lib.hid hb1
  clear hb1
  go_wp2
  go_ret
  exact ⟨rfl, HB1.out⟩

theorem walk (A : Option Addr) (D : List UInt8) (cap : Nat) (m n : Int) (w : World) (hR : Rd w A D) (_hs : D.length ≤ 140737488351232) (_hc : D.length ≤ cap) (wm : (Lit.int .i64 m).wf = true) (wn : (Lit.int .i64 n).wf = true) :
    Calls Try.prog 6 #[.slice A D.length cap, .int .i64 m, .int .i64 n] w fun e w' => e = .returned (.bool true) ∧ Below w.heap.size w w' := by
  have bm := bounds_i64 wm
  have bn := bounds_i64 wn
  by_cases h0 : 200 < D.length
  · exact walk_big A _ cap m n w h0
  by_cases h1 : m < 0
  · exact walk_m A _ cap m n w (by omega) h1
  by_cases h2 : n < 0
  · exact walk_n A _ cap m n w (by omega) (by omega) h2
  by_cases h3 : m + n ≤ 64
  · obtain ⟨a, rfl⟩ := Int.eq_ofNat_of_zero_le (show 0 ≤ m by omega)
    obtain ⟨b, rfl⟩ := Int.eq_ofNat_of_zero_le (show 0 ≤ n by omega)
    exact walk_ok A D _ cap w rfl (by omega) hR a b (by omega)
  by_cases h4 : m + n ≤ 9223372036854775807
  · exact walk_s A _ cap m n w (by omega) (by omega) (by omega) (by omega) h4
  · exact walk_over A D _ cap w rfl (by omega) hR m n (m + n - 18446744073709551616) (by omega) (by omega) (by omega) (by omega) (by unfold wrap64; omega)

set_option maxRecDepth 100000 in
theorem lifted (os : Os) (started : os.Started) (H : Type) (enc : TypeId × Value → H) :
    ReturnsInHanded {} Try.checked os 6 .any (Rows.bitinPartsSpec.pre6 enc Try.prog Try.f6 Rows.bitinPartsRow.domain false) (Rows.bitinPartsSpec.post enc Try.prog Try.f6 false true false false) := by
  refine returnsInHanded_of_change_sized (C := Try.checked) ownB started (by kernel_rfl) Try.func6
    (ChangeSpec.witness6 (enc := enc) (C := Try.checked) false ⟨#[], #[.slice none 0 0, .int .i64 0, .int .i64 0], []⟩ 8 (by kernel_rfl) (by kernel_rfl) (by kernel_rfl) (by kernel_rfl)) ?_
  intro W base args ds gs before hval0 hW _ hsz0 _
  have hsz : (DataW.weightsEach Try.prog (Try.f6.params.toList ++ Rows.bitinPartsSpec.plain.varTypes Try.prog) (ds ++ gs)).all (· ≤ reachBytes) = true := hsz0
  clear hsz0
  have hval : ∀ (j : Nat) t v, Try.f6.params[j]? = some t → args[j]? = some v → Value.okWide Try.prog W .any base t v := hval0
  have hW' := hW
  obtain ⟨p, q, hA0, hV, rfl, hfz, hnd⟩ := hW
  have hA : DataW.TrodAll enc Try.prog W 0 (fun _ => true) true Try.f6.params.toList args.toList ds p := hA0
  rw [Try.params6] at hA hval hsz
  obtain ⟨v0, vs0, d0, ds0, p0, q0, hargs, rfl, rfl, h0, r0⟩ := trodAll_cons hA
  obtain ⟨v1, vs1, d1, ds1, p1, q1, rfl, rfl, rfl, h1, r1⟩ := trodAll_cons r0
  obtain ⟨v2, vs2, d2, ds2, p2, q2, rfl, rfl, rfl, h2, r2⟩ := trodAll_cons r1
  obtain ⟨rfl, rfl, rfl⟩ := trodAll_nil r2
  obtain rfl : args = #[v0, v1, v2] := by cases args; simp_all
  obtain ⟨rfl, rfl⟩ := trodVars_none hV
  obtain ⟨a0, len0, cap0, rfl⟩ := okWide_slice Try.underlying22 (hval 0 22 v0 rfl rfl)
  have k0 := h0
  have lt0 : ∀ x ∈ p0, x.block < W.heap.size := by obtain ⟨m, hm⟩ := k0; exact DataW.trod_lt m _ _ _ hm
  obtain ⟨l0, rfl, hc0, rd0, hd0⟩ := open_bytes h0
  have hs0 : l0.length ≤ 140737488351232 := by
    rcases hd0 with ⟨h, _⟩ | ⟨es, sp, rfl, h⟩
    · omega
    · have := sized_slice hsz (j := 0) (t := 22) (e := 5) rfl rfl Try.underlying22
      rw [bytes_byte] at this
      simp only [reachBytes] at this
      omega
  obtain ⟨a1, rfl, rfl, rfl, w1⟩ := open_int Try.underlying3 (hval 1 3 v1 rfl rfl) h1
  obtain ⟨a2, rfl, rfl, rfl, w2⟩ := open_int Try.underlying3 (hval 2 3 v2 rfl rfl) h2
  clear hA0 hval0
  refine (walk a0 l0 cap0 a1 a2 W rd0 hs0 hc0 w1 w2).mono fun e W' ⟨he, bel⟩ => ?_
  subst he
  exact ⟨_, rfl, _, _, _, [], _, [], hW', trodAll_mk1 (shut_bool Try.underlying4 _), (trodAll_cons_mk (Below.trod laidOut (by kernel_rfl) (of_decide_eq_true (by kernel_rfl)) k0 bel lt0) (trodAll_cons_mk (shut_int Try.underlying3 w1) (trodAll_cons_mk (shut_int Try.underlying3 w2) trodAll_mk0))), rfl, bel.frame _, fun h => by cases h⟩

theorem proved : Rows.BitinPartsSaid :=
  OpenClaim.holds_of_wide 6 Try.f6 rfl rfl rfl rfl rfl rfl rfl ⟨rfl, rfl, rfl, rfl, rfl⟩ rfl rfl rfl rfl rfl (by kernel_rfl) Try.func6 (by kernel_rfl)
    (of_decide_eq_true (by kernel_rfl)) (by unfold Func.isWrapper; rw [if_neg (by decide +kernel)]; exact ⟨rfl, rfl⟩)
    (fun os started H enc _ => lifted os started H enc)

#print axioms proved

end Go.Proofs.Ytckboifdkagacaa.bitinParts
