/-
  Proved: the law CellsOwn returns true for all tables and symbols: what Build and SingleSymbol return is new memory, and the table is not changed. No condition.
-/
import Derived.Test.YtfgjeiheekohdaaPut
import Derived.Deep.RegionHeld3
import Derived.Deep.RegionLaw
import Derived.Deep.CutRange
import Derived.BigQuiet
import Derived.Deep.QuietTactic
namespace Go.Proofs.Ytfgjeiheekohdaa.cellsOwn
open Go.ChangeShapes Go.WideShapes Go.ChangeAt Go.RowKit

set_option maxRecDepth 100000 in
set_option maxHeartbeats 4000000 in
theorem walk_long (y : Int) (A : Option Addr) (N cap : Nat) (z : Int) (w : World) (h : 300 < N) :
    Calls Try.prog 10 #[tb y A N cap, .int .i64 z] w fun e w' => e = .returned (.bool true) ∧ Below w.heap.size w w' := by
  have hd : decide ((300 : Int) < (N : Int)) = true := decide_eq_true (by omega)
  have b1 : Below w.heap.size w (w.alloc (.cells #[.int .i64 y, .slice A N cap] 24)) := (Below.refl _ w).alloc (Nat.le_refl _) _
  have t1 := Tb.new w y A N cap
  obtain ⟨w1, hw1⟩ : ∃ w1, w.alloc (.cells #[.int .i64 y, .slice A N cap] 24) = w1 := ⟨_, rfl⟩
  rw [hw1] at b1 t1
  have c0 := t1.c0
  have c1 := t1.c1
  have KN := Lib.hid (known_any w1)
  have B0 := Lib.hid b1
  clear b1 t1
  go_enter Try.func10, Try.ntmps10
  go_wp2_with (go_at_call 11; refine KN.out.mono ?_; rintro e w2 ⟨rfl, hb2⟩; have B1 := Lib.hid (below_on B0.out (Nat.le_refl _) hb2); clear hb2)
  go_ret
  exact ⟨rfl, B1.out⟩

/-- The copy of the table: block tk holds it, its norms are a row of the call's own. -/
def Own (w : World) (y : Int) (l : List Int) (N tk : Nat) (A : Option Addr) (c : Nat) (W : World) : Prop :=
  Tb W tk y A N c ∧ Ri W A l ∧ Below w.heap.size w W
theorem copy_one {w : World} {y : Int} {l : List Int} {N : Nat} {w5 : World} {A5 : Option Addr} {c5 : Nat} (ho : w5.ownsRow w.heap.size 3 1 (.slice A5 N c5) N (l.map iv)) (hb : Below w.heap.size w w5) :
    Own w y l N w5.heap.size A5 c5 (w5.alloc (.cells #[.int .i64 y, .slice A5 N c5] 24)) :=
  ⟨Tb.new w5 y A5 N c5, (Rv.of_own ho).below ((Below.refl _ w5).alloc (Nat.le_refl _) _), hb.alloc hb.size _⟩
theorem copy_two {w : World} {y : Int} {l : List Int} {N : Nat} {w5 : World} {A5 : Option Addr} {c5 tk : Nat} (ho : w5.ownsRow (tk + 1) 3 1 (.slice A5 N c5) N (l.map iv)) (hb : Below w.heap.size w w5) (ht : w.heap.size = tk) (t1 : Tb w5 tk 0 none 0 0) :
    Own w y l N tk A5 c5 ((w5.setCell ⟨tk, 0, none⟩ (.int .i64 y)).setCell ⟨tk, 1, none⟩ (.slice A5 N c5)) := by
  refine ⟨(t1.set0 y).set1 A5 N c5, ?_, ?_⟩
  · refine Rv.same (Rv.of_own ho) fun ad e => ?_
    have := (own_addr ho ad e).1
    rw [Below.heap_setCell _ _ _ _ (by show ad.block ≠ tk; omega), Below.heap_setCell _ _ _ _ (by show ad.block ≠ tk; omega)]
  · exact (hb.setCell (p := ⟨tk, 0, none⟩) (by show w.heap.size ≤ tk; omega) _).setCell (p := ⟨tk, 1, none⟩) (by show w.heap.size ≤ tk; omega) _
/-- What SingleSymbol returns at any symbol. -/
def OutT (z : Int) (w : World) (e : Ending) (w' : World) : Prop :=
  ∃ A n c e0, e = .returned (.tuple #[tb 0 A n c, .int .i64 e0]) ∧ n ≤ 256 ∧ (∃ xs, w'.ownsRow w.heap.size 3 1 (.slice A n c) n xs) ∧ (0 ≤ z → z ≤ 255 → Ri w' A (one z.toNat) ∧ (one z.toNat).length = n) ∧ Below w.heap.size w w'
theorem single_u (w : World) (z : Int) : Calls Try.prog 21 #[.int .i64 z] w (OutT z w) := by
  by_cases h : z < 0 ∨ 255 < z
  · refine (single_bad w z h).mono ?_
    rintro e w' ⟨rfl, hb⟩
    exact ⟨none, 0, 0, 2, rfl, by omega, ⟨[], own_nil _ _⟩, fun h1 h2 => by omega, hb⟩
  · obtain ⟨x, rfl⟩ : ∃ x : Nat, z = (x : Int) := ⟨z.toNat, by omega⟩
    refine (single_ok w x (by omega)).mono ?_
    rintro e w' ⟨g, rfl, ho, hb⟩
    exact ⟨_, _, _, 0, rfl, by omega, ⟨_, ho⟩, fun _ _ => by rw [Int.toNat_natCast]; exact ⟨Rv.of_own ho, one_len x⟩, hb⟩

set_option maxRecDepth 100000 in
set_option maxHeartbeats 4000000 in
theorem walk_short (y : Int) (A : Option Addr) (l : List Int) (N cap : Nat) (z : Int) (w : World) (hN : l.length = N) (h : N ≤ 300) (hR : Ri w A l) :
    Calls Try.prog 10 #[tb y A N cap, .int .i64 z] w fun e w' => e = .returned (.bool true) ∧ Below w.heap.size w w' := by
  have hd : decide ((300 : Int) < (N : Int)) = false := decide_eq_false (by omega)
  have b1 : Below w.heap.size w (w.alloc (.cells #[.int .i64 y, .slice A N cap] 24)) := (Below.refl _ w).alloc (Nat.le_refl _) _
  have t1 := Tb.new w y A N cap
  obtain ⟨w1, hw1⟩ : ∃ w1, w.alloc (.cells #[.int .i64 y, .slice A N cap] 24) = w1 := ⟨_, rfl⟩
  rw [hw1] at b1 t1
  have c0 := t1.c0
  have c1 := t1.c1
  have hR1 := hR.below b1
  have B0 := Lib.hid b1
  have T1 := Lib.hid t1
  have R1 := Lib.hid hR1
  have HN := Lib.hid hN
  obtain ⟨k, hk⟩ : ∃ k, w1.heap.size = k := ⟨_, rfl⟩
  have HK := Lib.hid hk
  have RA : Hid (Rv w1.drew A (l.map iv)) := Lib.hid (Rv.same hR1 (fun _ _ => rfl))
  have RB : Hid (Rv (w1.alloc (.cells #[.int .i64 0, .slice none 0 0] 24)).drew A (l.map iv)) := Lib.hid (Rv.same (hR1.below ((Below.refl _ w1).alloc (Nat.le_refl _) (.cells #[.int .i64 0, .slice none 0 0] 24))) (fun _ _ => rfl))
  have SB : Hid (k + 1 ≤ (w1.alloc (.cells #[.int .i64 0, .slice none 0 0] 24)).drew.heap.size) := Lib.hid (by show k + 1 ≤ (w1.alloc (.cells #[.int .i64 0, .slice none 0 0] 24)).heap.size; rw [World.size_alloc, hk]; exact Nat.le_refl _)
  have TB : Hid (∀ w5, (w1.alloc (.cells #[.int .i64 0, .slice none 0 0] 24)).drew.grownBy w5 none → Tb w5 k 0 none 0 0 ∧ Below w1.heap.size w1 w5) := Lib.hid (fun w5 hg => by
    have t0 := Tb.new w1 0 none 0 0
    rw [hk] at t0
    refine ⟨(hg.block k t0.lt (fun e => by cases e)).trans t0, hg.os, hg.tape, hg.output, Nat.le_trans (by simp) hg.size, fun i hi => ?_⟩
    refine (hg.block i (by simp; omega) (fun e => by cases e)).trans ?_
    exact Below.heap_alloc _ _ _ hi)
  have qa := t1.below ((Below.refl _ w1).alloc (Nat.le_refl _) (.cells #[.int .i64 0, .slice none 0 0] 24))
  have ca0 := qa.c0
  have ca1 := qa.c1
  clear b1 t1 hR hR1 hN qa
  go_enter Try.func10, Try.ntmps10
  go_wp2
  go_cut [5] from 23 to 28 (fun t wx => ∃ tk A5 c5, t = .pointer (some ⟨tk, 0, none⟩) ∧ Hid (Own w1 y l N tk A5 c5 wx))
  case first =>
    go_region_law (first
      | (refine step_append_vals Try.underlying22 int_info rfl rfl (.const (.slice none 0 0)) (.tmp 26) rfl w1.heap.size (.slice none 0 0) 0 [] (by simp [Act.eval]) (own_nil _ _) A (l.map iv) (iv_one l) N cap (by rw [List.length_map]; exact HN.out) (by simp [Act.eval]) RA.out (by omega) (by omega) (Nat.le_refl _) ?_; intro v5 w5 ho5 hg5 _; rw [Nat.zero_add, List.nil_append] at ho5; obtain ⟨A5, c5, rfl, _⟩ := own_form ho5; have O5 := Lib.hid ho5; have B5 : Hid (Below w1.heap.size w1 w5) := Lib.hid ⟨hg5.os, hg5.tape, hg5.output, hg5.size, fun i hi => hg5.block i hi (fun e => by cases e)⟩; have qb := T1.out.below B5.out; have cb0 := qb.c0; have cb1 := qb.c1; have qc := qb.below ((Below.refl _ w5).alloc (Nat.le_refl _) (.cells #[.int .i64 0, .slice none 0 0] 24)); have cc0 := qc.c0; have cc1 := qc.c1; clear ho5 hg5 qb qc)
      | (refine step_append_vals Try.underlying22 int_info rfl rfl (.const (.slice none 0 0)) (.tmp 26) rfl (k + 1) (.slice none 0 0) 0 [] (by simp [Act.eval]) (own_nil _ _) A (l.map iv) (iv_one l) N cap (by rw [List.length_map]; exact HN.out) (by simp [Act.eval]) RB.out (by omega) (by omega) SB.out ?_; intro v5 w5 ho5 hg5 _; rw [Nat.zero_add, List.nil_append] at ho5; obtain ⟨A5, c5, rfl, _⟩ := own_form ho5; have O5 := Lib.hid ho5; obtain ⟨t5, b5⟩ := TB.out w5 hg5; have s0 := t5.c0; have s1 := t5.c1; have s2 := t5.free 0; have s3 := t5.free 1; obtain ⟨Wa, hWa⟩ : ∃ Wa, w5.setCell ⟨k, 0, none⟩ (.int .i64 y) = Wa := ⟨_, rfl⟩; have ta : Tb Wa k y none 0 0 := (by rw [← hWa]; exact t5.set0 y); have s4 := ta.c1; have s5 := ta.free 1; have T5 := Lib.hid t5; have B5 := Lib.hid b5; have qb := T1.out.below b5; have cb0 := qb.c0; have cb1 := qb.c1; clear ho5 hg5 t5 ta b5 qb))
    all_goals (go_wp2_with fail; go_meet; first | exact ⟨_, A5, c5, rfl, Lib.hid (copy_one O5.out B5.out)⟩ | exact ⟨k, A5, c5, rfl, Lib.hid (by rw [← hWa]; exact copy_two O5.out B5.out HK.out T5.out)⟩)
  case rest =>
    obtain ⟨tk, A5, c5, rfl, HOW⟩ := hcut
    obtain ⟨hT5, hR5, hB5⟩ := HOW.out
    have T5 := Lib.hid hT5
    have R5 := Lib.hid hR5
    have B5 := Lib.hid hB5
    have p0 := hT5.c0
    have p1 := hT5.c1
    obtain ⟨X, hX⟩ : ∃ X, cex y l = X := ⟨_, rfl⟩
    obtain ⟨e0, he0⟩ : ∃ e0, err (vt y l 256 9) = e0 := ⟨_, rfl⟩
    have BU : Hid (∀ W, Below wc.heap.size wc W → Calls Try.prog 12 #[tb y A5 N c5] W (OutC W.heap.size W X e0)) := Lib.hid (fun W hb => by rw [← hX, ← he0]; exact build_u W y A5 l N c5 HN.out (by omega) (R5.out.below hb))
    have OF : Hid (∀ W, Below wc.heap.size wc W → Calls Try.prog 13 #[tb y A N cap] W (OutC W.heap.size W X e0)) := Lib.hid (fun W hb => by rw [← hX, ← he0]; exact ofc_u W y A l N cap HN.out (by omega) ((R1.out.below B5.out).below hb))
    have NS : Hid (∀ W, Below wc.heap.size wc W → Calls Try.prog 22 #[tb y A5 N c5, tb y A N cap] W fun e w' => e = .returned (.bool true) ∧ Below W.heap.size W w') := Lib.hid (fun W hb => by
      have := rsame_any W y y A5 A l l N c5 N cap HN.out HN.out (by omega) (R5.out.below hb) ((R1.out.below B5.out).below hb)
      rwa [show sam y y l l = true by simp [sam]] at this)
    have SA : Hid (∀ W B B' A2 r c A3 r3 c3, r ≤ 512 → W.ownsRow B 45 3 (.slice A2 r c) r (flat3 X) → W.ownsRow B' 45 3 (.slice A3 r3 c3) r3 (flat3 X) → Calls Try.prog 14 #[.slice A2 r c, .slice A3 r3 c3] W fun e w' => e = .returned (.bool true) ∧ Below W.heap.size W w') := Lib.hid (fun W B B' A2 r c A3 r3 c3 hr h1 h2 => by
      have := csame_any W A2 A3 X X r c r3 c3 B B' (by omega) h1 h2
      rwa [decide_eq_true rfl] at this)
    have HT1 := Lib.hid (T1.out.below B5.out)
    clear HOW hT5 hR5 hB5 hX he0 RA RB SB TB T1 c0 c1 ca0 ca1 R1 HK hk
    go_wp2_with (go_at_call 12; refine (BU.out wc (Below.refl _ _)).mono ?_; rintro e w6 ⟨A6, r6, c6, rfl, hq6, hr6, ho6, hb6⟩; clear hq6; have O6 : Hid (∃ C, w6.ownsRow wc.heap.size 45 3 (.slice A6 r6 c6) r6 (flat3 C)) := Lib.hid ⟨X, ho6⟩; have B6 := Lib.hid hb6; clear ho6 hb6)
    clear p0 p1
    go_loopw [8] (fun u wr => ∃ i : Nat, i ≤ r6 ∧ u = .int .i64 (i : Int) ∧ Hid (∃ C, wr.ownsRow wc.heap.size 45 3 (.slice A6 r6 c6) r6 (flat3 C)) ∧ Hid (Below wc.heap.size wc wr)) (fun u _ => r6 - (intOf u).toNat)
    case atStart => exact ⟨0, Nat.zero_le _, rfl, O6, B6⟩
    case round =>
      obtain ⟨i, hi, rfl, HO, HB⟩ := hrel
      clear O6 B6
      by_cases hlt : i < r6
      · obtain ⟨C, ho⟩ := HO.out
        obtain ⟨g, rfl⟩ := ro_some (by omega) ho
        have hg2 : wc.heap.size ≤ g := own_ge ho rfl
        obtain ⟨u0, u1, u2, a0, f0, a1, f1, a2, f2⟩ := row_for ho hlt 77 0
        have S9 : Hid ((((wr.setCell ⟨g, i * 3, none⟩ (nw 77)).setCell ⟨g, i * 3 + 1, none⟩ (nw 0)).setCell ⟨g, i * 3 + 2, none⟩ (nw 0)).ownsRow wc.heap.size 45 3 (.slice (some ⟨g, 0, none⟩) r6 c6) r6 (flat3 (C.set i (77, 0, 0))) ∧ Below wc.heap.size wc (((wr.setCell ⟨g, i * 3, none⟩ (nw 77)).setCell ⟨g, i * 3 + 1, none⟩ (nw 0)).setCell ⟨g, i * 3 + 2, none⟩ (nw 0))) := Lib.hid ⟨row_put ho i (77, 0, 0), ((HB.out.setCell (p := ⟨g, i * 3, none⟩) hg2 _).setCell (p := ⟨g, i * 3 + 1, none⟩) hg2 _).setCell (p := ⟨g, i * 3 + 2, none⟩) hg2 _⟩
        simp only [nw] at a0 a1 a2 f0 f1 f2 S9
        obtain ⟨Wa, hWa⟩ : ∃ Wa, wr.setCell ⟨g, i * 3, none⟩ (.int .i64 77) = Wa := ⟨_, rfl⟩
        have eWa : wr.setCell ⟨g, i * 3, none⟩ (.int .i64 ((77 : Nat) : Int)) = Wa := hWa
        rw [eWa] at a1 f1 a2 f2 S9
        obtain ⟨Wb, hWb⟩ : ∃ Wb, Wa.setCell ⟨g, i * 3 + 1, none⟩ (.int .i64 0) = Wb := ⟨_, rfl⟩
        have eWb : Wa.setCell ⟨g, i * 3 + 1, none⟩ (.int .i64 ((0 : Nat) : Int)) = Wb := hWb
        rw [eWb] at a2 f2 S9
        clear ho HO HB eWa eWb
        go_wp2
        exact ⟨⟨i + 1, by omega, by simp, Lib.hid ⟨_, S9.out.1⟩, Lib.hid S9.out.2⟩, by simp [intOf]; omega⟩
      · clear HO
        go_wp2_with (go_at_call 21; refine (single_u wr z).mono ?_; rintro e w7 ⟨A7, n7, c7, e7, rfl, hn7, ho7, _, hb7⟩; obtain ⟨w8, wa, wb, h1, m0, f0, h2, m1, f1, h3, hT, hB⟩ := put_tab w7 0 A7 n7 c7; have O7 : Hid (∃ xs, wb.ownsRow wc.heap.size 3 1 (.slice A7 n7 c7) n7 xs) := Lib.hid (by obtain ⟨xs, ho⟩ := ho7; exact ⟨xs, own_base (own_below ho hB) HB.out.size⟩); have L7 : Hid (∀ g, A7 = some ⟨g, 0, none⟩ → g < w7.heap.size) := Lib.hid (fun g e => by obtain ⟨xs, ho⟩ := ho7; subst e; exact own_lt ho rfl); have T7 := Lib.hid hT; have K7 : Hid (wc.heap.size ≤ w7.heap.size) := Lib.hid (Nat.le_trans HB.out.size hb7.size); have B7 := Lib.hid (below_on (below_on HB.out (Nat.le_refl _) hb7) (Nat.le_refl _) hB); clear hT hB ho7 hb7)
        go_loopw [11] (fun u wr => ∃ i : Nat, i ≤ n7 ∧ u = .int .i64 (i : Int) ∧ Hid (∃ xs, wr.ownsRow wc.heap.size 3 1 (.slice A7 n7 c7) n7 xs) ∧ Hid (Tb wr w7.heap.size 0 A7 n7 c7) ∧ Hid (Below wc.heap.size wc wr)) (fun u _ => n7 - (intOf u).toNat)
        case atStart => exact ⟨0, Nat.zero_le _, rfl, O7, T7, B7⟩
        case round =>
          obtain ⟨j, hj, rfl, HO, HT, HB⟩ := hrel
          clear m0 m1 f0 f1 h1 h2 h3
          have s1 := HT.out.c1
          by_cases hlt2 : j < n7
          · obtain ⟨us, ho⟩ := HO.out
            obtain ⟨g, rfl⟩ := own_some (by omega) ho
            have hg1 : g < w7.heap.size := L7.out g rfl
            have hg2 : wc.heap.size ≤ g := own_ge ho rfl
            have hul : us.length = n7 := by have := ho.1; omega
            obtain ⟨u, hu⟩ : ∃ u, us[j]? = some u := ⟨_, List.getElem?_eq_getElem (by omega)⟩
            have cu : wr.cell? ⟨g, j, none⟩ = some u := by rw [ho.cellAt j (by omega)]; exact hu
            have fu := ho.frozenAt j
            have HO2 : Hid (∃ xs, (wr.setCell ⟨g, j, none⟩ (.int .i64 77)).ownsRow wc.heap.size 3 1 (.slice (some ⟨g, 0, none⟩) n7 c7) n7 xs) := Lib.hid ⟨_, (ho.stored j _).1⟩
            have HT2 : Hid (Tb (wr.setCell ⟨g, j, none⟩ (.int .i64 77)) w7.heap.size 0 (some ⟨g, 0, none⟩) n7 c7) := Lib.hid (HT.out.same (Below.heap_setCell _ ⟨g, j, none⟩ _ _ (by show w7.heap.size ≠ g; omega)))
            have HB2 : Hid (Below wc.heap.size wc (wr.setCell ⟨g, j, none⟩ (.int .i64 77))) := Lib.hid (HB.out.setCell (p := ⟨g, j, none⟩) hg2 _)
            clear ho hu HO HB HT
            go_wp2
            exact ⟨⟨j + 1, by omega, by simp, HO2, HT2, HB2⟩, by simp [intOf]; omega⟩
          · clear HO
            go_wp2_with (first
              | (go_at_call 21; refine (single_u wr z).mono ?_; rintro e w8 ⟨A8, n8, c8, e8, rfl, hn8, _, hs8, hb8⟩; obtain ⟨w9, wa, wb, h1, m0, f0, h2, m1, f1, h3, hT, hB⟩ := put_tab w8 0 A8 n8 c8; have S8 : Hid (0 ≤ z → z ≤ 255 → Ri wb A8 (one z.toNat) ∧ (one z.toNat).length = n8) := Lib.hid (fun q1 q2 => ⟨(hs8 q1 q2).1.below hB, (hs8 q1 q2).2⟩); have T8 := Lib.hid hT; have B8 := Lib.hid (below_on (below_on HB.out (Nat.le_refl _) hb8) (Nat.le_refl _) hB); have qo := T5.out.below B8.out; have o0 := qo.c0; have o1 := qo.c1; clear hT hB hs8 hb8 qo)
              | (go_at_call 12; refine (BU.out wb B8.out).mono ?_; rintro e w10 ⟨A10, r10, c10, rfl, hq10, hr10, ho10, hb10⟩; clear hq10; have O10 := Lib.hid ho10; have T10 := Lib.hid (T8.out.below hb10); have S10 : Hid (0 ≤ z → z ≤ 255 → Ri w10 A8 (one z.toNat) ∧ (one z.toNat).length = n8) := Lib.hid (fun q1 q2 => ⟨(S8.out q1 q2).1.below hb10, (S8.out q1 q2).2⟩); have B10 := Lib.hid (below_on B8.out (Nat.le_refl _) hb10); have qo := HT1.out.below B10.out; have x0 := qo.c0; have x1 := qo.c1; clear ho10 hb10 qo)
              | (go_at_call 13; refine (OF.out w10 B10.out).mono ?_; rintro e w11 ⟨A11, r11, c11, rfl, hq11, hr11, ho11, hb11⟩; clear hq11; have O11 := Lib.hid ho11; have P11 := Lib.hid (ro_below O10.out hb11); have T11 := Lib.hid (T10.out.below hb11); have S11 : Hid (0 ≤ z → z ≤ 255 → Ri w11 A8 (one z.toNat) ∧ (one z.toNat).length = n8) := Lib.hid (fun q1 q2 => ⟨(S10.out q1 q2).1.below hb11, (S10.out q1 q2).2⟩); have B11 := Lib.hid (below_on B10.out (Nat.le_refl _) hb11); clear ho11 hb11))
            clear m0 m1 f0 f1 h1 h2 h3 o0 o1 x0 x1 s1
            have TL : Hid (∀ W, Below w11.heap.size w11 W → Tb W tk y A5 N c5 ∧ Tb W w.heap.size y A N cap ∧ Below wc.heap.size wc W) := Lib.hid (fun W hb => ⟨(T5.out.below B11.out).below hb, (HT1.out.below B11.out).below hb, below_on B11.out (Nat.le_refl _) hb⟩)
            by_cases hz : 0 ≤ z ∧ z ≤ 255
            · obtain ⟨x, rfl⟩ : ∃ x : Nat, z = (x : Int) := ⟨z.toNat, by omega⟩
              have hx : x ≤ 255 := by omega
              have hs := S11.out hz.1 hz.2
              rw [Int.toNat_natCast] at hs
              have R12 : Hid (Ri w11.drew A8 (one x) ∧ (one x).length = n8) := Lib.hid ⟨Rv.same hs.1 (fun _ _ => rfl), hs.2⟩
              have t12 : Tb w11.drew w8.heap.size 0 A8 n8 c8 := T11.out.same rfl
              have n0 := t12.c0
              have n1 := t12.c1
              have T12 := Lib.hid t12
              have ON : Hid (∀ W, Calls Try.prog 23 #[.int .i64 (x : Int)] W fun e w' => ∃ A c, e = .returned (tb 0 A n8 c) ∧ Ri w' A (one x) ∧ Below W.heap.size W w') := Lib.hid (fun W => by
                have := rone_any W x hx
                rw [← one_len x, R12.out.2] at this
                refine this.mono ?_
                rintro e w' ⟨A, c, rfl, ho, hb⟩
                exact ⟨A, c, rfl, Rv.of_own ho, hb⟩)
              have SM : Hid (∀ W A c, Ri W A8 (one x) → Ri W A (one x) → Calls Try.prog 22 #[tb 0 A8 n8 c8, tb 0 A n8 c] W fun e w' => e = .returned (.bool true) ∧ Below W.heap.size W w') := Lib.hid (fun W A c r1 r2 => by
                have := rsame_any W 0 0 A8 A (one x) (one x) n8 c8 n8 c R12.out.2 R12.out.2 (by omega) r1 r2
                rwa [show sam 0 0 (one x) (one x) = true by simp [sam]] at this)
              have g1 : decide (0 ≤ (x : Int)) = true := decide_eq_true (by omega)
              have g2 : decide ((x : Int) ≤ 255) = true := decide_eq_true (by omega)
              have BD : Hid (Below w11.heap.size w11 w11.drew) := Lib.hid (Below.refl _ w11).drew
              clear hz hs t12
              go_wp2
              go_region_held3 (fun W => W.cell? ⟨w8.heap.size, 0, none⟩ = some (.int .i64 0) ∧ W.cell? ⟨w8.heap.size, 1, none⟩ = some (.slice A8 n8 c8)) (first | exact ⟨n0, n1⟩ | exact ⟨a0, a1⟩ | exact ⟨b0, b1⟩) (first
                | (go_at_call 23; refine (ON.out _).mono ?_; rintro e w13 ⟨A13, c13, rfl, hr13, hb13⟩; have t13 := T12.out.below hb13; have T13 := Lib.hid t13; have a0 := t13.c0; have a1 := t13.c1; have R13 := Lib.hid (R12.out.1.below hb13); have R13' := Lib.hid hr13; have B13 := Lib.hid (below_on BD.out (Nat.le_refl _) hb13); clear t13 hb13 hr13)
                | (go_at_call 22; refine (SM.out w13 A13 c13 R13.out R13'.out).mono ?_; rintro e w14 ⟨rfl, hb14⟩; have t14 := T13.out.below hb14; have b0 := t14.c0; have b1 := t14.c1; have B14 := Lib.hid (below_on B13.out (Nat.le_refl _) hb14); clear t14 hb14))
              all_goals
                obtain ⟨t1, t2, BW⟩ := TL.out w14 B14.out
                have v0 := t1.c0
                have v1 := t1.c1
                have v2 := t2.c0
                have v3 := t2.c1
                have BQ := Lib.hid BW
                have PA := Lib.hid (ro_below P11.out B14.out)
                have PB := Lib.hid (ro_below O11.out B14.out)
                clear t1 t2 BW n0 n1 a0 a1 b0 b1
                go_wp2_with (first
                  | (go_at_call 22; refine (NS.out _ BQ.out).mono ?_; rintro e w20 ⟨rfl, hb20⟩; have O20 := Lib.hid (ro_below PB.out hb20); have P20 := Lib.hid (ro_below PA.out hb20); have B20 := Lib.hid (below_on BQ.out (Nat.le_refl _) hb20); clear hb20)
                  | (go_at_call 14; refine (SA.out w20 _ _ A10 r10 c10 A11 r11 c11 hr10 P20.out O20.out).mono ?_; rintro e w21 ⟨rfl, hb21⟩; have B21 := Lib.hid (below_on B20.out (Nat.le_refl _) hb21); clear hb21)
                  | (go_at_call 11; refine (known_any w21).mono ?_; rintro e w22 ⟨rfl, hb22⟩; have B22 := Lib.hid (below_on B0.out (Nat.le_refl _) (below_on B5.out (Nat.le_refl _) (below_on B21.out (Nat.le_refl _) hb22))); clear hb22))
                go_ret
                exact ⟨rfl, B22.out⟩
            · obtain ⟨w14, hw14⟩ : ∃ w14, w11.drew = w14 := ⟨_, rfl⟩
              have B14 : Hid (∀ nq, Below w11.heap.size w11 (w11.drewN nq)) := Lib.hid (fun nq => below_drewN' (Below.refl _ w11) nq)
              rcases Int.lt_or_le z 0 with hz0 | hz0
              · have g1 : decide (0 ≤ z) = false := decide_eq_false (by omega)
                have g3 : ¬ 0 ≤ z := by omega
                clear hz hw14
                go_wp2
                go_quiet (fail)
                obtain ⟨t1, t2, BW⟩ := TL.out _ (B14.out nq)
                have v0 := t1.c0
                have v1 := t1.c1
                have v2 := t2.c0
                have v3 := t2.c1
                have BQ := Lib.hid BW
                have PA := Lib.hid (ro_below P11.out (B14.out nq))
                have PB := Lib.hid (ro_below O11.out (B14.out nq))
                clear t1 t2 BW
                obtain ⟨w15, hw15⟩ : ∃ w15, w11.drewN nq = w15 := ⟨_, rfl⟩
                rw [hw15] at v0 v1 v2 v3 BQ PA PB
                try rw [hw15]
                clear hw15
                go_wp2_with (first
                  | (go_at_call 22; refine (NS.out _ BQ.out).mono ?_; rintro e w20 ⟨rfl, hb20⟩; have O20 := Lib.hid (ro_below PB.out hb20); have P20 := Lib.hid (ro_below PA.out hb20); have B20 := Lib.hid (below_on BQ.out (Nat.le_refl _) hb20); clear hb20)
                  | (go_at_call 14; refine (SA.out w20 _ _ A10 r10 c10 A11 r11 c11 hr10 P20.out O20.out).mono ?_; rintro e w21 ⟨rfl, hb21⟩; have B21 := Lib.hid (below_on B20.out (Nat.le_refl _) hb21); clear hb21)
                  | (go_at_call 11; refine (known_any w21).mono ?_; rintro e w22 ⟨rfl, hb22⟩; have B22 := Lib.hid (below_on B0.out (Nat.le_refl _) (below_on B5.out (Nat.le_refl _) (below_on B21.out (Nat.le_refl _) hb22))); clear hb22))
                go_ret
                exact ⟨rfl, B22.out⟩
              · have g1 : decide (0 ≤ z) = true := decide_eq_true hz0
                have g2 : decide (z ≤ 255) = false := decide_eq_false (by omega)
                have g3 : ¬ z ≤ 255 := by omega
                clear hz hw14
                go_wp2
                go_quiet (fail)
                obtain ⟨t1, t2, BW⟩ := TL.out _ (B14.out nq)
                have v0 := t1.c0
                have v1 := t1.c1
                have v2 := t2.c0
                have v3 := t2.c1
                have BQ := Lib.hid BW
                have PA := Lib.hid (ro_below P11.out (B14.out nq))
                have PB := Lib.hid (ro_below O11.out (B14.out nq))
                clear t1 t2 BW
                obtain ⟨w15, hw15⟩ : ∃ w15, w11.drewN nq = w15 := ⟨_, rfl⟩
                rw [hw15] at v0 v1 v2 v3 BQ PA PB
                try rw [hw15]
                clear hw15
                go_wp2_with (first
                  | (go_at_call 22; refine (NS.out _ BQ.out).mono ?_; rintro e w20 ⟨rfl, hb20⟩; have O20 := Lib.hid (ro_below PB.out hb20); have P20 := Lib.hid (ro_below PA.out hb20); have B20 := Lib.hid (below_on BQ.out (Nat.le_refl _) hb20); clear hb20)
                  | (go_at_call 14; refine (SA.out w20 _ _ A10 r10 c10 A11 r11 c11 hr10 P20.out O20.out).mono ?_; rintro e w21 ⟨rfl, hb21⟩; have B21 := Lib.hid (below_on B20.out (Nat.le_refl _) hb21); clear hb21)
                  | (go_at_call 11; refine (known_any w21).mono ?_; rintro e w22 ⟨rfl, hb22⟩; have B22 := Lib.hid (below_on B0.out (Nat.le_refl _) (below_on B5.out (Nat.le_refl _) (below_on B21.out (Nat.le_refl _) hb22))); clear hb22))
                go_ret
                exact ⟨rfl, B22.out⟩

theorem walk (y : Int) (A : Option Addr) (l : List Int) (cap : Nat) (z : Int) (w : World) (hR : Ri w A l) (_ : ∀ z ∈ l, -9223372036854775808 ≤ z ∧ z ≤ 9223372036854775807) (_ : l.length ≤ cap) (_ : (Lit.int .i64 z).wf = true) :
    Calls Try.prog 10 #[tb y A l.length cap, .int .i64 z] w fun e w' => e = .returned (.bool true) ∧ Below w.heap.size w w' := by
  by_cases h : 300 < l.length
  · exact walk_long y A _ cap z w h
  · exact walk_short y A l _ cap z w rfl (by omega) hR

set_option maxRecDepth 100000 in
theorem lifted (os : Os) (started : os.Started) (H : Type) (enc : TypeId × Value → H) :
    ReturnsInHanded {} Try.checked os 10 .any (Rows.cellsOwnSpec.pre6 enc Try.prog Try.f10 Rows.cellsOwnRow.domain false) (Rows.cellsOwnSpec.post enc Try.prog Try.f10 false true false false) := by
  refine returnsInHanded_of_change_sized (C := Try.checked) ownB started (by kernel_rfl) Try.func10
    (ChangeSpec.witness6 (enc := enc) (C := Try.checked) false ⟨#[], #[.agg #[.int .i64 0, .slice none 0 0], .int .i64 0], []⟩ 8 (by kernel_rfl) (by kernel_rfl) (by kernel_rfl) (by kernel_rfl)) ?_
  intro W base args ds gs before hval0 hW _ hsz0 _
  have hsz : (DataW.weightsEach Try.prog (Try.f10.params.toList ++ Rows.cellsOwnSpec.plain.varTypes Try.prog) (ds ++ gs)).all (· ≤ reachBytes) = true := hsz0
  clear hsz0
  have hval : ∀ (j : Nat) t v, Try.f10.params[j]? = some t → args[j]? = some v → Value.okWide Try.prog W .any base t v := hval0
  have hW' := hW
  obtain ⟨p, q, hA0, hV, rfl, hfz, hnd⟩ := hW
  have hA : DataW.TrodAll enc Try.prog W 0 (fun _ => true) true Try.f10.params.toList args.toList ds p := hA0
  rw [Try.params10] at hA hval hsz
  obtain ⟨v0, vs0, d0, ds0, p0, q0, hargs, rfl, rfl, h0, r0⟩ := trodAll_cons hA
  obtain ⟨v1, vs1, d1, ds1, p1, q1, rfl, rfl, rfl, h1, r1⟩ := trodAll_cons r0
  obtain ⟨rfl, rfl, rfl⟩ := trodAll_nil r1
  obtain rfl : args = #[v0, v1] := by cases args; simp_all
  obtain ⟨rfl, rfl⟩ := trodVars_none hV
  obtain ⟨cs0, rfl, hcs0⟩ := okWide_struct Try.underlying24 (hval 0 24 v0 rfl rfl)
  have k0 := h0
  have lt0 : ∀ x ∈ p0, x.block < W.heap.size := by obtain ⟨m, hm⟩ := k0; exact DataW.trod_lt m _ _ _ hm
  obtain ⟨y0, a0, len0, cap0, l0, rfl, rfl, hc0, ri0, wi0⟩ := open_tab hcs0 h0
  obtain ⟨a1, rfl, rfl, rfl, w1⟩ := open_int Try.underlying3 (hval 1 3 v1 rfl rfl) h1
  clear hA0 hval0
  refine (walk y0 a0 l0 cap0 a1 W ri0 wi0 hc0 w1).mono fun e W' ⟨he, bel⟩ => ?_
  subst he
  exact ⟨_, rfl, _, _, _, [], _, [], hW', trodAll_mk1 (shut_bool Try.underlying4 _), (trodAll_cons_mk (Below.trod laidOut (by kernel_rfl) (of_decide_eq_true (by kernel_rfl)) k0 bel lt0) (trodAll_cons_mk (shut_int Try.underlying3 w1) trodAll_mk0)), rfl, bel.frame _, fun h => by cases h⟩

theorem proved : Rows.CellsOwnSaid :=
  OpenClaim.holds_of_wide 10 Try.f10 rfl rfl rfl rfl rfl rfl rfl ⟨rfl, rfl, rfl, rfl, rfl⟩ rfl rfl rfl rfl rfl (by kernel_rfl) Try.func10 (by kernel_rfl)
    (of_decide_eq_true (by kernel_rfl)) (by unfold Func.isWrapper; rw [if_neg (by decide +kernel)]; exact ⟨rfl, rfl⟩)
    (fun os started H enc _ => lifted os started H enc)

#print axioms proved

end Go.Proofs.Ytfgjeiheekohdaa.cellsOwn
