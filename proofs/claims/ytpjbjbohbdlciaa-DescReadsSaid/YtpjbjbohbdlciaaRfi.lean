/-
  What the reference's Whole and Get do: the table that dcd says, or the error. Conditions: those that each theorem states.
-/
import Derived.Test.YtpjbjbohbdlciaaRfh
import Derived.Test.YtpjbjbohbdlciaaKno
namespace Go.Proofs.Ytpjbjbohbdlciaa
open Go.RowKit Go.Shelf
open Bt (unp unp_len val Rf)

theorem whole_u {w : World} {y g s : Nat} {D : List UInt8} (h : Rs3 w y g (unp D) s) (hD : D.length ≤ 1000) :
    Calls Try.prog 47 #[.pointer (some ⟨y, 0, none⟩)] w fun e w' => ∃ (k : Nat) (er : Int), e = .returned (.tuple #[.int .i64 (k : Int), .int .i64 er]) ∧
      ((tk (unp D) s (8 * ((s + 7) / 8) - s) = 0 ∧ k = (s + 7) / 8 ∧ er = 0) ∨ (tk (unp D) s (8 * ((s + 7) / 8) - s) ≠ 0 ∧ er = 14)) ∧ k ≤ 1000 ∧ w.grownBy w' (some y) := by
  obtain ⟨⟨h1, h0⟩, A, c, h2⟩ := h
  have hl := unp_len D
  by_cases hz : tk (unp D) s (8 * ((s + 7) / 8) - s) = 0
  · refine (Bt.whole_good h2 (by omega) ((s + 7) / 8) (8 * ((s + 7) / 8) - s) rfl (by omega) (by rw [List.length_drop]; omega) hz).mono ?_
    rintro e w' ⟨rfl, _, hg⟩
    exact ⟨_, 0, rfl, .inl ⟨hz, rfl, rfl⟩, by omega, hg⟩
  · refine (Bt.whole_bad h2 (by omega) (8 * ((s + 7) / 8) - s) (by omega) (fun i hi => by omega) (by rw [List.length_drop]; omega) hz).mono ?_
    rintro e w' ⟨rfl, rfl⟩
    exact ⟨0, 14, rfl, .inr ⟨hz, rfl⟩, by decide, ⟨rfl, rfl, rfl, Nat.le_refl _, fun i _ _ => rfl⟩⟩

/-- A table is stored over another. -/
theorem tb_put {W : World} {b : Nat} {z : Int} {A : Option Addr} {n c : Nat} (h : Tb W b z A n c) (z' : Int) (A' : Option Addr) (n' c' : Nat) : ∃ w1 w2, W.setCell ⟨b, 0, none⟩ (.int .i64 z') = w1 ∧ w1.setCell ⟨b, 1, none⟩ (.slice A' n' c') = w2 ∧
    (W.cell? ⟨b, 0, none⟩ = some (.int .i64 z) ∧ W.frozen? ⟨b, 0, none⟩ = false ∧ w1.cell? ⟨b, 1, none⟩ = some (.slice A n c) ∧ w1.frozen? ⟨b, 1, none⟩ = false) ∧ Tb w2 b z' A' n' c' ∧ Chg (fun k => k = b) W w2 := by
  have h1 := h.set0 z'
  have h2 := h1.set1 A' n' c'
  exact ⟨_, _, rfl, rfl, ⟨h.c0, h.free 0, h1.c1, h1.free 1⟩, h2, ((Chg.refl (fun k => k = b) W).set ⟨b, 0, none⟩ rfl _).set ⟨b, 1, none⟩ rfl _⟩

theorem bslice_0 (A : Option Addr) (N c : Nat) (W : World) : (Instr.slice 26 (.slice A N c) (some (.int .i64 0)) none none).run Try.prog W = .ok (.slice A N c) W := by
  rw [run_slice_l _ _ _ _ _ und_u8 _ _ (by omega) (by omega), elem_u8, size_u8]
  simp [Result.andThen, sliced]
  intro _
  cases A with
  | none => rfl
  | some a => simp [Addr.add]

theorem rmade_rs {w w' : World} {l : List Bool} {y : Nat} (h : Bt.RMade w l y w') : ∃ g, Rs3 w' y g l 0 ∧ w.heap.size ≤ y ∧ Below w.heap.size w w' := by
  obtain ⟨g, A, c, hr, hb, hy, hg⟩ := h
  cases A with
  | none => exact ⟨y, ⟨⟨Nat.zero_le _, hr.lt⟩, none, c, ⟨hr.blk, hr.rd, hr.cap, fun ad e => by cases e⟩⟩, hy, hb⟩
  | some a => exact ⟨g, ⟨⟨Nat.zero_le _, (hr.ne a rfl).2.2⟩, some a, c, hr⟩, hy, hb⟩

/-- What Get leaves. -/
def RGp (w : World) (R : Nat × Nat × List Int × Nat) (e : Ending) (w' : World) : Prop :=
  ∃ (A1 : Option Addr) (n1 c1 : Nat) (M : Int), e = .returned (.tuple #[tb (R.2.1 : Int) A1 n1 c1, .int .i64 M, .int .i64 (R.1 : Int)]) ∧ (R.1 = 0 → M = (R.2.2.2 : Int)) ∧ Below w.heap.size w w' ∧ w'.ownsRow w.heap.size 3 1 (.slice A1 n1 c1) n1 (R.2.2.1.map iv)

set_option maxRecDepth 100000 in
set_option maxHeartbeats 1000000 in
theorem rget_any (w : World) (A : Option Addr) (D : List UInt8) (N cap : Nat) (hN : D.length = N) (hs : N ≤ 500) (hR : Bt.Rd w A D) (sy lg : Int) (R : Nat × Nat × List Int × Nat) (hRR : dcd (unp D) sy lg = R) :
    Calls Try.prog 21 #[.slice A N cap, .int .i64 0, .int .i64 sy, .int .i64 lg] w (RGp w R) := by
  have hBl := unp_len D
  obtain ⟨s1, hs1⟩ : ∃ s1, min sy 256 = s1 := ⟨_, rfl⟩
  have t1 := Tb.new w 0 none 0 0
  have b1 : Below w.heap.size w (w.alloc (.cells #[.int .i64 0, .slice none 0 0] 24)) := (Below.refl _ w).alloc (Nat.le_refl _) _
  have SZ1 : Hid ((w.alloc (.cells #[.int .i64 0, .slice none 0 0] 24)).heap.size = w.heap.size + 1) := Lib.hid (World.size_alloc _ _)
  obtain ⟨w1, hw1⟩ : ∃ w1, w.alloc (.cells #[.int .i64 0, .slice none 0 0] 24) = w1 := ⟨_, rfl⟩
  rw [hw1] at t1 b1 SZ1
  have FW := Lib.hid (Bt.rforward_any w1 A D N cap hN hs (Bt.Rv.below hR b1))
  have sl := fun W => bslice_0 A N cap W
  have H4 : Hid (∀ W y g, Rs3 W y g (unp D) 0 → Calls Try.prog 45 #[.pointer (some ⟨y, 0, none⟩), .int .i64 4] W fun e w' => ∃ (V s' : Nat) (er : Int), e = .returned (.tuple #[.int .u64 (V : Int), .int .i64 er]) ∧
      ((0 + 4 ≤ (unp D).length ∧ V = tk (unp D) 0 4 ∧ s' = 0 + 4 ∧ er = 0) ∨ ((unp D).length < 0 + 4 ∧ V = 0 ∧ s' = 0 ∧ er = 3)) ∧ Rs3 w' y g (unp D) s' ∧ W.grownBy w' (some y)) := Lib.hid (fun W y g hW => first_u hW (by omega) 4 (by decide))
  have T1 := Lib.hid t1
  have B1 := Lib.hid b1
  have HBL : Hid ((unp D).length ≤ 10000 ∧ D.length ≤ 1000) := Lib.hid (by omega)
  have HRR : Hid (R = dfin (unp D) (dcp (unp D) s1 (min lg 9))) := Lib.hid (by rw [← hRR, dcd, hs1])
  have HS1 : Hid (s1 ≤ 256) := Lib.hid (by omega)
  have wrS : min sy 256 = s1 := hs1
  clear t1 b1 hR hRR hN hs hBl hs1
  go_enter Try.func21, Try.ntmps21
  go_upto_region 3 with (first
    | (go_at_call 44; refine FW.out.mono ?_; rintro e w2 ⟨y, rfl, hm⟩; obtain ⟨g, hr2, hyw, hb2⟩ := rmade_rs hm; have R2 := Lib.hid hr2; have HY : Hid (w.heap.size < y) := Lib.hid (by (have := SZ1.out; omega)); have B2 := Lib.hid (below_on B1.out (Nat.le_refl _) hb2); have T2 := Lib.hid (T1.out.below hb2); clear hm hr2 hyw hb2)
    | (go_at_call 45; refine (H4.out _ _ _ R2.out).mono ?_; rintro e w3 ⟨V, s4, er, rfl, hv, hr3, hg3⟩; have HV := Lib.hid hv; have R3 := Lib.hid hr3; have B3 : Hid (Below w.heap.size w w3) := Lib.hid (B2.out.grown hg3 B2.out.size (fun j ej => by (cases ej; have := HY.out; omega))); have T3 := Lib.hid (T2.out.same (hg3.block _ T2.out.lt (fun e => by (cases e; have := HY.out; omega)))); clear hv hr3 hg3))
  have hV : V ≤ 15 := by
    rcases HV.out with ⟨_, rfl, _⟩ | ⟨_, rfl, _⟩
    · exact Nat.le_of_lt_succ (tk_lt (unp D) 0 4)
    · decide
  by_cases he : er = 0
  · subst he
    have HV1 : Hid (4 ≤ (unp D).length ∧ V = tk (unp D) 0 4 ∧ s4 = 4) := Lib.hid (by
      rcases HV.out with ⟨h1, h2, h3, _⟩ | ⟨_, _, _, h4⟩
      · exact ⟨h1, h2, h3⟩
      · exact absurd h4 (by decide))
    obtain ⟨y1, hy1⟩ : ∃ y1, V + 1 = y1 := ⟨_, rfl⟩
    have hy1i : (V : Int) + 1 = (y1 : Int) := by omega
    have HY1 := Lib.hid hy1
    clear HV FW H4 hy1
    by_cases hb1 : lg < (y1 : Int)
    · have hd1 : decide (lg < (y1 : Int)) = true := decide_eq_true hb1
      have HE : Hid (R = (13, 0, [], 0)) := Lib.hid (by
        obtain ⟨k1, k2, k3⟩ := HV1.out
        rw [HRR.out, dcp, if_neg (by omega), ← k2, HY1.out, if_pos (by omega)]; rfl)
      obtain ⟨wa, wb, ha, hb, ⟨q0, q1, q2, q3⟩, tbb, hcg⟩ := tb_put T3.out 0 none 0 0
      have TB := Lib.hid tbb
      have HC := Lib.hid hcg
      have B7 : Hid (Below w.heap.size w wb) := Lib.hid (B3.out.trans (hcg.new B3.out.size (fun k hk => by rw [hk]; exact Nat.le_refl _)))
      clear tbb hcg
      go_wp2
      refine bodyPost_ret (results_cell3 rfl rfl TB.out.load) rfl ?_
      rw [HE.out]
      exact ⟨none, 0, 0, _, rfl, fun h => absurd h (by decide), B7.out, World.ownsRow_nil _ _ _ _⟩
    · have hd1 : decide (lg < (y1 : Int)) = false := decide_eq_false hb1
      by_cases hb2 : 8 < V
      · have hd2 : decide ((8 : Int) < (V : Int)) = true := decide_eq_true (by omega)
        have HE : Hid (R = (13, 0, [], 0)) := Lib.hid (by
          obtain ⟨k1, k2, k3⟩ := HV1.out
          have k4 := HY1.out
          rw [HRR.out, dcp, if_neg (by omega), ← k2, HY1.out, if_pos (by omega)]; rfl)
        obtain ⟨wa, wb, ha, hb, ⟨q0, q1, q2, q3⟩, tbb, hcg⟩ := tb_put T3.out 0 none 0 0
        have TB := Lib.hid tbb
        have HC := Lib.hid hcg
        have B7 : Hid (Below w.heap.size w wb) := Lib.hid (B3.out.trans (hcg.new B3.out.size (fun k hk => by rw [hk]; exact Nat.le_refl _)))
        clear tbb hcg
        go_wp2
        refine bodyPost_ret (results_cell3 rfl rfl TB.out.load) rfl ?_
        rw [HE.out]
        exact ⟨none, 0, 0, _, rfl, fun h => absurd h (by decide), B7.out, World.ownsRow_nil _ _ _ _⟩
      · have hd2 : decide ((8 : Int) < (V : Int)) = false := decide_eq_false (by omega)
        have hy19 : y1 ≤ 9 := by have := HY1.out; omega
        obtain ⟨P, hP⟩ : ∃ P, 2 ^ y1 = P := ⟨_, rfl⟩
        have hP5 : P ≤ 512 := by rw [← hP]; exact pow_le hy19
        obtain ⟨Rz, hRz⟩ : ∃ Rz, dec (unp D) s1 P [] s4 false = Rz := ⟨_, rfl⟩
        have SZ := Lib.hid (fun W => size_nat W y1 P (by omega) hP)
        have NM := Lib.hid (rnorms_any R3.out HBL.out.1 P hP5 s1 HS1.out Rz hRz)
        have HE : Hid (R = dfin (unp D) Rz ∧ y1 = tk (unp D) 0 4 + 1) := Lib.hid (by
          obtain ⟨k1, k2, k3⟩ := HV1.out
          have k4 := HY1.out
          rw [HRR.out, dcp, if_neg (by omega), ← k2, k4, if_neg (by omega), hP, ← k3, hRz]
          exact ⟨rfl, rfl⟩)
        clear hP hRz
        go_upto_region 8 with (first
          | (go_at_call 34; refine (SZ.out _).mono ?_; rintro e w3 ⟨rfl, rfl⟩)
          | (go_at_call 46; refine NM.out.mono ?_; rintro e w5 ⟨A5, n5, c5, er5, rfl, hg5, hc5⟩; have HC5 := Lib.hid hc5; have B5 : Hid (Below w.heap.size w w5) := Lib.hid (B3.out.grown hg5 B3.out.size (fun j ej => by (cases ej; have := HY.out; omega))); have T5 := Lib.hid (T3.out.same (hg5.block _ T3.out.lt (fun e => by (cases e; have := HY.out; omega)))); clear hg5 hc5))
        by_cases he5 : er5 = 0
        · subst he5
          obtain ⟨out, s5, hrz, hr5, ho5⟩ : ∃ out s5, Rz = .ok out s5 ∧ Rs3 w5 y g (unp D) s5 ∧ w5.ownsRow w3.heap.size 3 1 (.slice A5 n5 c5) n5 (out.map iv) := by
            rcases HC5.out with ⟨out, s5, h1, _, h3, h4⟩ | ⟨k, _, h1, h2⟩
            · exact ⟨out, s5, h1, h3, h4⟩
            · exact absurd (by omega) h2
          have HRZ := Lib.hid hrz
          have WH := Lib.hid (whole_u hr5 HBL.out.2)
          have O5 := Lib.hid ho5
          clear HC5 hrz hr5 ho5 NM
          go_upto_region 11 with (go_at_call 47; refine WH.out.mono ?_; rintro e w6 ⟨k, er6, rfl, hk, hk1, hg6⟩; have HK := Lib.hid hk; have B6 : Hid (Below w.heap.size w w6) := Lib.hid (B5.out.grown hg6 B5.out.size (fun j ej => by (cases ej; have := HY.out; omega))); have T6 := Lib.hid (T5.out.same (hg6.block _ T5.out.lt (fun e => by (cases e; have := HY.out; omega)))); have O6 := Lib.hid (own_grown O5.out hg6 R3.out.lt); clear hk hg6)
          by_cases he6 : er6 = 0
          · subst he6
            have HZ : Hid (R = (0, y1, out, k)) := Lib.hid (by
              obtain ⟨k1, k2⟩ := HE.out
              rcases HK.out with ⟨d1, d2, _⟩ | ⟨_, d3⟩
              · rw [k1, HRZ.out, dfin, if_pos d1, ← k2, d2]
              · exact absurd d3 (by decide))
            clear HK HE WH
            obtain ⟨wa, wb, ha, hb, ⟨q0, q1, q2, q3⟩, tbb, hcg⟩ := tb_put T6.out (y1 : Int) A5 n5 c5
            have TB := Lib.hid tbb
            have HC := Lib.hid hcg
            have B7 : Hid (Below w.heap.size w wb) := Lib.hid (B6.out.trans (hcg.new B6.out.size (fun k hk => by rw [hk]; exact Nat.le_refl _)))
            clear tbb hcg
            go_wp2
            refine bodyPost_ret (results_cell3 rfl rfl TB.out.load) rfl ?_
            rw [HZ.out]
            refine ⟨A5, n5, c5, _, rfl, fun _ => rfl, B7.out, ?_⟩
            have h3 := B3.out.size
            refine own_chg HC.out (Bt.own_base O6.out h3) (fun j ej => ?_)
            have h1 := (O6.out.lt j ej).1
            have h2 := T3.out.lt
            omega
          · have hne6 : (er6 != 0) = true := by simpa using he6
            have HZ : Hid (R = (14, 0, [], 0) ∧ er6 = 14) := Lib.hid (by
              obtain ⟨k1, k2⟩ := HE.out
              rcases HK.out with ⟨_, _, d1⟩ | ⟨d1, d2⟩
              · exact absurd d1 he6
              · exact ⟨by rw [k1, HRZ.out, dfin, if_neg d1], d2⟩)
            clear HK HE WH he6
            obtain ⟨wa, wb, ha, hb, ⟨q0, q1, q2, q3⟩, tbb, hcg⟩ := tb_put T6.out 0 none 0 0
            have TB := Lib.hid tbb
            have HC := Lib.hid hcg
            have B7 : Hid (Below w.heap.size w wb) := Lib.hid (B6.out.trans (hcg.new B6.out.size (fun k hk => by rw [hk]; exact Nat.le_refl _)))
            clear tbb hcg
            go_wp2
            refine bodyPost_ret (results_cell3 rfl rfl TB.out.load) rfl ?_
            rw [HZ.out.1, HZ.out.2]
            exact ⟨none, 0, 0, _, rfl, fun h => absurd h (by decide), B7.out, World.ownsRow_nil _ _ _ _⟩
        · have hne5 : (er5 != 0) = true := by simpa using he5
          have HZ : Hid (∃ q : Nat, R = (q, 0, [], 0) ∧ er5 = (q : Int) ∧ q ≠ 0) := Lib.hid (by
            rcases HC5.out with ⟨_, _, _, h1, _⟩ | ⟨q, h1, h2, h3⟩
            · exact absurd h1 he5
            · exact ⟨q, by rw [HE.out.1, h1]; rfl, h2, h3⟩)
          clear HC5 HE NM he5
          obtain ⟨wa, wb, ha, hb, ⟨q0, q1, q2, q3⟩, tbb, hcg⟩ := tb_put T5.out 0 none 0 0
          have TB := Lib.hid tbb
          have HC := Lib.hid hcg
          have B7 : Hid (Below w.heap.size w wb) := Lib.hid (B5.out.trans (hcg.new B5.out.size (fun k hk => by rw [hk]; exact Nat.le_refl _)))
          clear tbb hcg
          go_wp2
          refine bodyPost_ret (results_cell3 rfl rfl TB.out.load) rfl ?_
          obtain ⟨q, h1, h2, h3⟩ := HZ.out
          rw [h1, h2]
          exact ⟨none, 0, 0, _, rfl, fun h => absurd h h3, B7.out, World.ownsRow_nil _ _ _ _⟩
  · have hne : (er != 0) = true := by simpa using he
    have HZ : Hid (R = (3, 0, [], 0) ∧ er = 3) := Lib.hid (by
      rcases HV.out with ⟨_, _, _, h1⟩ | ⟨h1, _, _, h2⟩
      · exact absurd h1 he
      · exact ⟨by rw [HRR.out, dcp, if_pos (by omega)]; rfl, h2⟩)
    clear HV FW H4 he
    obtain ⟨wa, wb, ha, hb, ⟨q0, q1, q2, q3⟩, tbb, hcg⟩ := tb_put T3.out 0 none 0 0
    have TB := Lib.hid tbb
    have HC := Lib.hid hcg
    have B7 : Hid (Below w.heap.size w wb) := Lib.hid (B3.out.trans (hcg.new B3.out.size (fun k hk => by rw [hk]; exact Nat.le_refl _)))
    clear tbb hcg
    go_wp2
    refine bodyPost_ret (results_cell3 rfl rfl TB.out.load) rfl ?_
    rw [HZ.out.1, HZ.out.2]
    exact ⟨none, 0, 0, _, rfl, fun h => absurd h (by decide), B7.out, World.ownsRow_nil _ _ _ _⟩

end Go.Proofs.Ytpjbjbohbdlciaa
