/-
  Proved: the law FlowOwn returns true for all tables and symbols: Encode and Decode neither change their arguments nor return memory that they share. No condition.
-/
import Derived.BigQuiet
import Derived.Deep.QuietTactic
import Derived.Deep.RegionHeld3
import Derived.Deep.RegionLaw
import Derived.Deep.CutRange
import Derived.Test.YtgokbpnikgbfgaaSi
namespace Go.Proofs.Ytgokbpnikgbfgaa.flowOwn
open Go.ChangeShapes Go.WideShapes Go.ChangeAt Go.RowKit

set_option maxRecDepth 100000 in
set_option maxHeartbeats 1000000 in
theorem walk_a (y : Int) (A : Option Addr) (N cap : Nat) (M : Option Addr) (nm cm : Nat) (w : World) (h : 300 < N) :
    Calls Try.prog 11 #[tb y A N cap, .slice M nm cm] w fun e w' => e = .returned (.bool true) ∧ Below w.heap.size w w' := by
  have k1 : decide ((300 : Int) < (N : Int)) = true := decide_eq_true (by omega)
  obtain ⟨w1, hw1⟩ : ∃ w1, w.alloc (.cells #[.int .i64 y, .slice A N cap] 24) = w1 := ⟨_, rfl⟩
  obtain ⟨b1, t1⟩ := box_of hw1
  have c0 := t1.c0
  have c1 := t1.c1
  have B1 := Lib.hid b1
  have T1 := Lib.hid t1
  clear b1 t1
  go_enter Try.func11, Try.ntmps11
  go_wp2_with (first
    | (go_at_call 12; refine (known_any _).mono ?_; rintro e w9 ⟨rfl, hb9⟩; have B9 := Lib.hid (below_on B1.out (Nat.le_refl _) hb9); clear hb9))
  go_ret
  exact ⟨rfl, B9.out⟩

set_option maxRecDepth 100000 in
set_option maxHeartbeats 1000000 in
theorem walk_b (y : Int) (A : Option Addr) (N cap : Nat) (M : Option Addr) (nm cm : Nat) (w : World) (h : N ≤ 300) (h2 : 300 < nm) :
    Calls Try.prog 11 #[tb y A N cap, .slice M nm cm] w fun e w' => e = .returned (.bool true) ∧ Below w.heap.size w w' := by
  have k1 : decide ((300 : Int) < (N : Int)) = false := decide_eq_false (by omega)
  have k2 : decide ((300 : Int) < (nm : Int)) = true := decide_eq_true (by omega)
  obtain ⟨w1, hw1⟩ : ∃ w1, w.alloc (.cells #[.int .i64 y, .slice A N cap] 24) = w1 := ⟨_, rfl⟩
  obtain ⟨b1, t1⟩ := box_of hw1
  have c0 := t1.c0
  have c1 := t1.c1
  have B1 := Lib.hid b1
  have T1 := Lib.hid t1
  clear b1 t1
  go_enter Try.func11, Try.ntmps11
  go_wp2_with (first
    | (go_at_call 12; refine (known_any _).mono ?_; rintro e w9 ⟨rfl, hb9⟩; have B9 := Lib.hid (below_on B1.out (Nat.le_refl _) hb9); clear hb9))
  go_ret
  exact ⟨rfl, B9.out⟩

set_option maxRecDepth 100000 in
set_option maxHeartbeats 2000000 in
theorem walk_ok (y : Int) (A : Option Addr) (l : List Int) (N cap : Nat) (M : Option Addr) (m : List Int) (nm cm : Nat) (w : World) (hN : l.length = N) (_ : N ≤ cap) (hR : Ri w A l) (hM : m.length = nm) (_ : nm ≤ cm) (hRM : Ri w M m) (h : N ≤ 300) (h2 : nm ≤ 300) :
    Calls Try.prog 11 #[tb y A N cap, .slice M nm cm] w fun e w' => e = .returned (.bool true) ∧ Below w.heap.size w w' := by
  have k1 : decide ((300 : Int) < (N : Int)) = false := decide_eq_false (by omega)
  have k2 : decide ((300 : Int) < (nm : Int)) = false := decide_eq_false (by omega)
  obtain ⟨w1, hw1⟩ : ∃ w1, w.alloc (.cells #[.int .i64 y, .slice A N cap] 24) = w1 := ⟨_, rfl⟩
  obtain ⟨b1, t1⟩ := box_of hw1
  have c0 := t1.c0
  have c1 := t1.c1
  have B1 := Lib.hid b1
  have T1 := Lib.hid t1
  obtain ⟨⟨q, X0⟩, hEQ⟩ : ∃ R, feR y l m = R := ⟨_, rfl⟩
  have hXl : X0.length ≤ 500 := by have := feR_len y l m (by omega); rw [hEQ] at this; exact this
  obtain ⟨⟨q2, o⟩, hDQ⟩ : ∃ R, fdR y l X0 (nm : Int) = R := ⟨_, rfl⟩
  have hol : (ns o).length ≤ 300 := by have := fdR_len y l X0 nm; rw [hDQ] at this; rw [ns_len]; exact Nat.le_trans this h2
  have HN := Lib.hid hN
  have HM := Lib.hid hM
  have HR1 := Lib.hid (hR.below b1)
  have HRM := Lib.hid (hRM.below b1)
  have HEQ := Lib.hid hEQ
  have HDQ := Lib.hid hDQ
  have HXL := Lib.hid hXl
  have HOL := Lib.hid hol
  clear b1 t1 hR hRM hN hM hEQ hDQ hXl hol
  go_enter Try.func11, Try.ntmps11
  go_upto_region 3 with fail
  obtain ⟨x, hx⟩ : ∃ x, w1.heap.size = x := ⟨_, rfl⟩
  have HX := Lib.hid hx
  have RA : Hid (Rv w1.drew A (l.map iv)) := Lib.hid (Rv.same HR1.out (fun _ _ => rfl))
  have RB : Hid (Rv (w1.alloc (.cells #[.int .i64 0, .slice none 0 0] 24)).drew A (l.map iv)) := Lib.hid (Rv.same (HR1.out.below (below_new w1 (.cells #[.int .i64 0, .slice none 0 0] 24))) (fun _ _ => rfl))
  have SB : Hid (x + 1 ≤ (w1.alloc (.cells #[.int .i64 0, .slice none 0 0] 24)).drew.heap.size) := Lib.hid (by show x + 1 ≤ (w1.alloc (.cells #[.int .i64 0, .slice none 0 0] 24)).heap.size; rw [World.size_alloc, hx]; exact Nat.le_refl _)
  have TB : Hid (∀ w6, (w1.alloc (.cells #[.int .i64 0, .slice none 0 0] 24)).drew.grownBy w6 none → Tb w6 x 0 none 0 0 ∧ Below w1.heap.size w1 w6) := Lib.hid (fun w6 hg => by
    have t0 := Tb.new w1 0 none 0 0
    rw [hx] at t0
    refine ⟨(hg.block x t0.lt (fun e => by cases e)).trans t0, hg.os, hg.tape, hg.output, Nat.le_trans (by simp) hg.size, fun i hi => ?_⟩
    refine (hg.block i (by simp; omega) (fun e => by cases e)).trans ?_
    exact Below.heap_alloc _ _ _ hi)
  have qa := T1.out.below (below_new w1 (.cells #[.int .i64 0, .slice none 0 0] 24))
  have ca0 := qa.c0
  have ca1 := qa.c1
  have pa0 : w1.drew.cell? ⟨w.heap.size, 0, none⟩ = some (.int .i64 y) := c0
  have pa1 : w1.drew.cell? ⟨w.heap.size, 1, none⟩ = some (.slice A N cap) := c1
  clear qa
  go_cut [5] from 26 to 31 (fun t wx => ∃ tk A6 c6, t = .pointer (some ⟨tk, 0, none⟩) ∧ Hid (Own w1 y l N tk A6 c6 wx))
  case first =>
    go_region_law (first
      | (refine step_append_vals Try.underlying22 int_info rfl rfl (.const (.slice none 0 0)) (.tmp 29) rfl w1.heap.size (.slice none 0 0) 0 [] (by simp [Act.eval]) (World.ownsRow_nil _ _ _ _) A (l.map iv) (iv_one l) N cap (by rw [List.length_map]; exact HN.out) (by simp [Act.eval]) RA.out (by omega) (by omega) (Nat.le_refl _) ?_; intro v6 w6 ho6 hg6 _; rw [Nat.zero_add, List.nil_append] at ho6; obtain ⟨A6, c6, rfl, _⟩ := own_form ho6; have O6 := Lib.hid ho6; have B6 : Hid (Below w1.heap.size w1 w6) := Lib.hid ⟨hg6.os, hg6.tape, hg6.output, hg6.size, fun i hi => hg6.block i hi (fun e => by cases e)⟩; have qb := T1.out.below B6.out; have cb0 := qb.c0; have cb1 := qb.c1; have qc := qb.below (below_new w6 (.cells #[.int .i64 0, .slice none 0 0] 24)); have cc0 := qc.c0; have cc1 := qc.c1; clear ho6 hg6 qb qc)
      | (refine step_append_vals Try.underlying22 int_info rfl rfl (.const (.slice none 0 0)) (.tmp 29) rfl (x + 1) (.slice none 0 0) 0 [] (by simp [Act.eval]) (World.ownsRow_nil _ _ _ _) A (l.map iv) (iv_one l) N cap (by rw [List.length_map]; exact HN.out) (by simp [Act.eval]) RB.out (by omega) (by omega) SB.out ?_; intro v6 w6 ho6 hg6 _; rw [Nat.zero_add, List.nil_append] at ho6; obtain ⟨A6, c6, rfl, _⟩ := own_form ho6; have O6 := Lib.hid ho6; obtain ⟨t6, b6⟩ := TB.out w6 hg6; have s0 := t6.c0; have s1 := t6.c1; have s2 := t6.free 0; have s3 := t6.free 1; obtain ⟨Wa, hWa⟩ : ∃ Wa, w6.setCell ⟨x, 0, none⟩ (.int .i64 y) = Wa := ⟨_, rfl⟩; have ta : Tb Wa x y none 0 0 := (by rw [← hWa]; exact t6.set0 y); have s4 := ta.c1; have s5 := ta.free 1; have T6 := Lib.hid t6; have B6 := Lib.hid b6; have qb := T1.out.below b6; have cb0 := qb.c0; have cb1 := qb.c1; clear ho6 hg6 t6 ta b6 qb))
    all_goals (go_wp2_with fail; go_meet; first | exact ⟨_, A6, c6, rfl, Lib.hid (copy_one O6.out B6.out)⟩ | exact ⟨x, A6, c6, rfl, Lib.hid (by rw [← hWa]; exact copy_two O6.out B6.out HX.out T6.out)⟩)
  case rest =>
    obtain ⟨tk, A6, c6, rfl, HOW⟩ := hcut
    obtain ⟨hT6, hR6, hB6, hc6⟩ := HOW.out
    have T6 := Lib.hid hT6
    have R6 := Lib.hid hR6
    have C6 := Lib.hid hc6
    have TX := Lib.hid (T1.out.below hB6)
    have RX := Lib.hid (HR1.out.below hB6)
    have RMX := Lib.hid (HRM.out.below hB6)
    have p0 := hT6.c0
    have p1 := hT6.c1
    have BF := Lib.hid (below_on B1.out (Nat.le_refl _) hB6)
    have EN : Hid (∀ W G c, Below wc.heap.size wc W → nm ≤ c → Ri W G m → Calls Try.prog 16 #[tb y A6 N c6, .slice G nm c] W (Eres W (q, X0))) := Lib.hid (fun W G c hb hgc hr => by
      have := fenc_any W y A6 l N c6 HN.out (by omega) C6.out (R6.out.below hb) G m nm c HM.out (by omega) hgc hr
      rwa [HEQ.out] at this)
    have DE : Hid (∀ W G nb c, Below wc.heap.size wc W → X0.length = nb → Bt.Rd W G X0 → Calls Try.prog 13 #[tb y A6 N c6, .slice G nb c, .int .i64 (nm : Int)] W (Fres W (q2, o))) := Lib.hid (fun W G nb c hb hl hr => by
      have := fdec_any W y A6 l N c6 HN.out (by omega) (R6.out.below hb) G X0 nb c hl (by have := HXL.out; omega) hr (nm : Int)
      rwa [HDQ.out] at this)
    have NS : Hid (∀ W, Below wc.heap.size wc W → Calls Try.prog 22 #[tb y A6 N c6, tb y A N cap] W fun e w' => e = .returned (.bool true) ∧ Below W.heap.size W w') := Lib.hid (fun W hb => by
      have := rsame_any W y y A6 A l l N c6 N cap HN.out HN.out (by omega) (R6.out.below hb) (RX.out.below hb)
      rwa [show sam y y l l = true by simp [sam]] at this)
    have PS : Hid (∀ W G c, Below wc.heap.size wc W → Ri W G m → Calls Try.prog 15 #[.slice G nm c, .slice M nm cm] W fun e w' => e = .returned (.bool true) ∧ Below W.heap.size W w') := Lib.hid (fun W G c hb hr => by
      have := sameI_any W G M m m nm c nm cm HM.out HM.out (by omega) hr (RMX.out.below hb)
      rwa [decide_eq_true rfl] at this)
    clear HOW hT6 hR6 hB6 hc6 RA RB SB TB c0 c1 ca0 ca1 pa0 pa1 HX hx
    go_upto_region 5 with (at_builtin; refine wpList_append_vals Try.underlying22 int_info rfl rfl _ _ rfl wc.heap.size (.slice none 0 0) 0 [] rfl (World.ownsRow_nil _ _ _ _) M (m.map iv) (iv_one m) nm cm (by rw [List.length_map]; exact HM.out) rfl (RMX.out) (by omega) (by omega) (Nat.le_refl _) ?_;  intro v7 w7 ho7 hg7 _; rw [Nat.zero_add, List.nil_append] at ho7; obtain ⟨A7, c7, rfl, hc7⟩ := own_form ho7; have B7 : Hid (Below wc.heap.size wc w7) := Lib.hid ((Below.refl wc.heap.size wc).grown hg7 (Nat.le_refl _) (fun j ej => by cases ej)); have R7 : Hid (Ri w7 A7 m) := Lib.hid (Rv.of_own ho7); have C7 := Lib.hid hc7; have t7 := T6.out.below B7.out; have e70 := t7.c0; have e71 := t7.c1; clear ho7 hg7 t7 hc7)
    go_upto_region 6 with (go_at_call 16; refine (EN.out _ _ _ B7.out C7.out R7.out).mono ?_; intro e w8 hf; obtain ⟨AX, nX, cX, rfl, hb8, hr8, hl8, _, ho8⟩ := hf.out; have B78 := Lib.hid hb8; have B8 := Lib.hid (below_on B7.out (Nat.le_refl _) hb8); have X8 := Lib.hid hr8; have LX := Lib.hid hl8; have OX := Lib.hid ho8; have hX5 : nX ≤ 500 := (by rw [← hl8]; exact HXL.out); clear hf hb8 hr8 hl8 ho8 e70 e71)
    go_upto_region 7 with (at_builtin; refine wpList_append_vals Try.underlying25 Bt.byte_info rfl rfl _ _ rfl w8.heap.size (.slice none 0 0) 0 [] rfl (World.ownsRow_nil _ _ _ _) AX (X0.map Bt.byt) (Bt.byt_one X0) nX cX (by rw [List.length_map]; exact LX.out) rfl (X8.out) (by omega) (by omega) (Nat.le_refl _) ?_;  intro v9 w9 ho9 hg9 _; rw [Nat.zero_add, List.nil_append] at ho9; obtain ⟨AC, cC, rfl, _⟩ := own_form ho9; have B89 : Hid (Below w8.heap.size w8 w9) := Lib.hid ((Below.refl w8.heap.size w8).grown hg9 (Nat.le_refl _) (fun j ej => by cases ej)); have B9' := Lib.hid (below_on B8.out (Nat.le_refl _) B89.out); have X9 := Lib.hid (Bt.Rv.below X8.out B89.out); have OC := Lib.hid ho9; have t9 := T6.out.below B9'.out; have e90 := t9.c0; have e91 := t9.c1; clear ho9 hg9 t9)
    go_upto_region 8 with (go_at_call 13; refine (DE.out _ _ _ _ B9'.out LX.out X9.out).mono ?_; intro e w10 hf; obtain ⟨AS, nS, cS, rfl, hb10, _, hl10, _, ho10⟩ := hf.out; have B910 := Lib.hid hb10; have OS := Lib.hid ho10; have hS3 : nS ≤ 300 := (by rw [← hl10]; exact HOL.out); clear hf hb10 hl10 ho10 e90 e91)
    have OS0 : Hid (∃ xs, w10.ownsRow w9.heap.size 3 1 (.slice AS nS cS) nS xs) := Lib.hid ⟨_, OS.out⟩
    go_wp2_with fail
    go_loopw [12] (fun u wr => ∃ i : Nat, i ≤ nS ∧ u = .int .i64 (i : Int) ∧ Hid (∃ xs, wr.ownsRow w9.heap.size 3 1 (.slice AS nS cS) nS xs) ∧ Hid (Below w9.heap.size w9 wr)) (fun u _ => nS - (intOf u).toNat)
    case atStart => exact ⟨0, Nat.zero_le _, rfl, OS0, B910⟩
    case round =>
      obtain ⟨i, hi, rfl, HO, HB⟩ := hrel
      by_cases hlt : i < nS
      · obtain ⟨us, ho⟩ := HO.out
        obtain ⟨g, rfl⟩ := own_some (by omega) ho
        have hg2 : w9.heap.size ≤ g := own_ge ho rfl
        have hul : us.length = nS := by have := ho.1; omega
        obtain ⟨u, hu⟩ : ∃ u, us[i]? = some u := ⟨_, List.getElem?_eq_getElem (by omega)⟩
        have cu : wr.cell? ⟨g, i, none⟩ = some u := by rw [ho.cellAt i (by omega)]; exact hu
        have fu := ho.frozenAt i
        have HO2 : Hid (∃ xs, (wr.setCell ⟨g, i, none⟩ (.int .i64 77)).ownsRow w9.heap.size 3 1 (.slice (some ⟨g, 0, none⟩) nS cS) nS xs) := Lib.hid ⟨_, (ho.stored i _).1⟩
        have HB2 := Lib.hid (HB.out.setCell (p := ⟨g, i, none⟩) hg2 (.int .i64 77))
        clear ho HO hul hu hg2
        go_wp2
        exact ⟨⟨i + 1, by omega, by simp, HO2, HB2⟩, by simp [intOf]; omega⟩
      · clear HO OS0 B910 OS
        have BW := Lib.hid (below_on B9'.out (Nat.le_refl _) HB.out)
        have t11 := T6.out.below BW.out
        have e0 := t11.c0
        have e1 := t11.c1
        have u11 := TX.out.below BW.out
        have f0 := u11.c0
        have f1 := u11.c1
        have RL7 := Lib.hid ((R7.out.below B78.out).below B89.out)
        have OC9 := Lib.hid OC.out
        clear t11 u11
        go_upto_region 13 with (first
          | (go_at_call 22; refine (NS.out _ BW.out).mono ?_; rintro e w12 ⟨rfl, hb12⟩; have B912 := Lib.hid (below_on HB.out (Nat.le_refl _) hb12); have B12 := Lib.hid (below_on B9'.out (Nat.le_refl _) B912.out); have R12 := Lib.hid (RL7.out.below B912.out); clear hb12)
          | (go_at_call 15; refine (PS.out _ _ _ B12.out R12.out).mono ?_; rintro e w13 ⟨rfl, hb13⟩; have B913 := Lib.hid (below_on B912.out (Nat.le_refl _) hb13); have X13 := Lib.hid (Bt.Rv.below X9.out B913.out); have Y13 : Hid (Bt.Rd w13 AC X0) := Lib.hid (Bt.Rv.below (Bt.Rv.of_own OC9.out) B913.out); clear hb13)
          | (go_at_call 20; refine (Bt.same_n w13 _ _ X0 X0 _ _ LX.out LX.out _ _ X13.out Y13.out rfl).mono ?_; rintro e w13 ⟨rfl, rfl⟩))
        have Z12 : Hid (Chg (fun k => (Value.slice AX nX cX).ownBlock = some k) w13 w13) := Lib.hid (Chg.refl _ _)
        have OX0 : Hid (∃ xs, w13.ownsRow w7.heap.size 5 1 (.slice AX nX cX) nX xs) := Lib.hid ⟨_, own_below (own_below OX.out B89.out) B913.out⟩
        have HXB : Hid (∀ k, (Value.slice AX nX cX).ownBlock = some k → w7.heap.size ≤ k ∧ k < w8.heap.size) := Lib.hid (fun k ek => ⟨own_ge OX.out ek, own_lt OX.out ek⟩)
        have B713 := Lib.hid (below_on (below_on B78.out (Nat.le_refl _) B89.out) (Nat.le_refl _) B913.out)
        have OC13 := Lib.hid (own_below OC9.out B913.out)
        clear HB e0 e1 f0 f1
        go_wp2_with fail
        go_loopw [13] (fun u wr => ∃ i : Nat, i ≤ nX ∧ u = .int .i64 (i : Int) ∧ Hid (∃ xs, wr.ownsRow w7.heap.size 5 1 (.slice AX nX cX) nX xs) ∧ Hid (Chg (fun k => (Value.slice AX nX cX).ownBlock = some k) w13 wr)) (fun u _ => nX - (intOf u).toNat)
        case atStart => exact ⟨0, Nat.zero_le _, rfl, OX0, Z12⟩
        case round =>
          obtain ⟨i, hi, rfl, HO, HC⟩ := hrel
          by_cases hlt : i < nX
          · obtain ⟨us, ho⟩ := HO.out
            obtain ⟨g, rfl⟩ := own_some (by omega) ho
            have hul : us.length = nX := by have := ho.1; omega
            obtain ⟨u, hu⟩ : ∃ u, us[i]? = some u := ⟨_, List.getElem?_eq_getElem (by omega)⟩
            have cu : wr.cell? ⟨g, i, none⟩ = some u := by rw [ho.cellAt i (by omega)]; exact hu
            have fu := ho.frozenAt i
            have HO2 : Hid (∃ xs, (wr.setCell ⟨g, i, none⟩ (.int .u8 78)).ownsRow w7.heap.size 5 1 (.slice (some ⟨g, 0, none⟩) nX cX) nX xs) := Lib.hid ⟨_, (ho.stored i _).1⟩
            have HC2 : Hid (Chg (fun k => (Value.slice (some ⟨g, 0, none⟩) nX cX).ownBlock = some k) w13 (wr.setCell ⟨g, i, none⟩ (.int .u8 78))) := Lib.hid (HC.out.set ⟨g, i, none⟩ rfl _)
            clear ho HO HC hul hu
            go_wp2
            exact ⟨⟨i + 1, by omega, by simp, HO2, HC2⟩, by simp [intOf]; omega⟩
          · clear HO OX0 Z12
            have B7r : Hid (Below w7.heap.size w7 wr) := Lib.hid (B713.out.trans (HC.out.new B713.out.size (fun k ek => (HXB.out k ek).1)))
            have BR := Lib.hid (below_on B7.out (Nat.le_refl _) B7r.out)
            have RLr := Lib.hid (R7.out.below B7r.out)
            have YR : Hid (Bt.Rd wr AC X0) := Lib.hid (Bt.Rv.same (Bt.Rv.of_own OC13.out) (fun ad e => by
              have h5 := HC.out.block ad.block
              obtain ⟨h6, h7⟩ := own_addr OC13.out ad e
              exact h5 h7 (fun ek => by have := (HXB.out _ ek).2; omega)))
            have t14 := T6.out.below BR.out
            have g0 := t14.c0
            have g1 := t14.c1
            clear t14 HC
            go_wp2_with (first
              | (go_at_call 16; refine (EN.out _ _ _ BR.out C7.out RLr.out).mono ?_; intro e w14 hf; obtain ⟨AD, nD, cD, rfl, hb14, hr14, hl14, _, _⟩ := hf.out; have B14 := Lib.hid (below_on BR.out (Nat.le_refl _) hb14); have X14 := Lib.hid hr14; have LD := Lib.hid hl14; have Y14 := Lib.hid (Bt.Rv.below YR.out hb14); clear hf hb14 hr14 hl14)
              | (go_at_call 20; refine (Bt.same_n w14 _ _ X0 X0 _ _ LX.out LD.out _ _ Y14.out X14.out rfl).mono ?_; rintro e w14 ⟨rfl, rfl⟩)
              | (go_at_call 12; refine (known_any _).mono ?_; rintro e w19 ⟨rfl, hb19⟩; have B19 := Lib.hid (below_on BF.out (Nat.le_refl _) (below_on B14.out (Nat.le_refl _) hb19)); clear hb19))
            go_ret
            exact ⟨rfl, B19.out⟩

theorem walk (y : Int) (A : Option Addr) (l : List Int) (cap : Nat) (M : Option Addr) (m : List Int) (cm : Nat) (w : World) (hR : Ri w A l) (_ : ∀ z ∈ l, -9223372036854775808 ≤ z ∧ z ≤ 9223372036854775807) (hc : l.length ≤ cap) (hRM : Ri w M m) (_ : ∀ z ∈ m, -9223372036854775808 ≤ z ∧ z ≤ 9223372036854775807) (hcm : m.length ≤ cm) :
    Calls Try.prog 11 #[tb y A l.length cap, .slice M m.length cm] w fun e w' => e = .returned (.bool true) ∧ Below w.heap.size w w' := by
  by_cases h : 300 < l.length
  · exact walk_a y A _ cap M _ cm w h
  · by_cases h2 : 300 < m.length
    · exact walk_b y A _ cap M _ cm w (by omega) h2
    · exact walk_ok y A l _ cap M m _ cm w rfl hc hR rfl hcm hRM (by omega) (by omega)
set_option maxRecDepth 100000 in
theorem lifted (os : Os) (started : os.Started) (H : Type) (enc : TypeId × Value → H) :
    ReturnsInHanded {} Try.checked os 11 .any (Rows.flowOwnSpec.pre6 enc Try.prog Try.f11 Rows.flowOwnRow.domain false) (Rows.flowOwnSpec.post enc Try.prog Try.f11 false true false false) := by
  refine returnsInHanded_of_change_sized (C := Try.checked) ownB started (by kernel_rfl) Try.func11
    (ChangeSpec.witness6 (enc := enc) (C := Try.checked) false ⟨#[], #[.agg #[.int .i64 0, .slice none 0 0], .slice none 0 0], []⟩ 8 (by kernel_rfl) (by kernel_rfl) (by kernel_rfl) (by kernel_rfl)) ?_
  intro W base args ds gs before hval0 hW _ hsz0 _
  have hsz : (DataW.weightsEach Try.prog (Try.f11.params.toList ++ Rows.flowOwnSpec.plain.varTypes Try.prog) (ds ++ gs)).all (· ≤ reachBytes) = true := hsz0
  clear hsz0
  have hval : ∀ (j : Nat) t v, Try.f11.params[j]? = some t → args[j]? = some v → Value.okWide Try.prog W .any base t v := hval0
  have hW' := hW
  obtain ⟨p, q, hA0, hV, rfl, hfz, hnd⟩ := hW
  have hA : DataW.TrodAll enc Try.prog W 0 (fun _ => true) true Try.f11.params.toList args.toList ds p := hA0
  rw [Try.params11] at hA hval hsz
  obtain ⟨v0, vs0, d0, ds0, p0, q0, hargs, rfl, rfl, h0, r0⟩ := trodAll_cons hA
  obtain ⟨v1, vs1, d1, ds1, p1, q1, rfl, rfl, rfl, h1, r1⟩ := trodAll_cons r0
  obtain ⟨rfl, rfl, rfl⟩ := trodAll_nil r1
  obtain rfl : args = #[v0, v1] := by cases args; simp_all
  obtain ⟨rfl, rfl⟩ := trodVars_none hV
  obtain ⟨cs0, rfl, hcs0⟩ := okWide_struct Try.underlying24 (hval 0 24 v0 rfl rfl)
  have k0 := h0
  have lt0 : ∀ x ∈ p0, x.block < W.heap.size := by obtain ⟨m, hm⟩ := k0; exact DataW.trod_lt m _ _ _ hm
  obtain ⟨y0, a0, len0, cap0, l0, rfl, rfl, hc0, ri0, wi0⟩ := open_tab hcs0 h0
  obtain ⟨a1, len1, cap1, rfl⟩ := okWide_slice Try.underlying22 (hval 1 22 v1 rfl rfl)
  have k1 := h1
  have lt1 : ∀ x ∈ p1, x.block < W.heap.size := by obtain ⟨m, hm⟩ := k1; exact DataW.trod_lt m _ _ _ hm
  obtain ⟨l1, rfl, hc1, ri1, wi1⟩ := open_intl h1
  clear hA0 hval0
  refine (walk y0 a0 l0 cap0 a1 l1 cap1 W ri0 wi0 hc0 ri1 wi1 hc1).mono fun e W' ⟨he, bel⟩ => ?_
  subst he
  exact ⟨_, rfl, _, _, _, [], _, [], hW', trodAll_mk1 (shut_bool Try.underlying4 _), (trodAll_cons_mk (Below.trod laidOut (by kernel_rfl) (of_decide_eq_true (by kernel_rfl)) k0 bel lt0) (trodAll_cons_mk (Below.trod laidOut (by kernel_rfl) (of_decide_eq_true (by kernel_rfl)) k1 bel lt1) trodAll_mk0)), rfl, bel.frame _, fun h => by cases h⟩

theorem proved : Rows.FlowOwnSaid :=
  OpenClaim.holds_of_wide 11 Try.f11 rfl rfl rfl rfl rfl rfl rfl ⟨rfl, rfl, rfl, rfl, rfl⟩ rfl rfl rfl rfl rfl (by kernel_rfl) Try.func11 (by kernel_rfl)
    (of_decide_eq_true (by kernel_rfl)) (by unfold Func.isWrapper; rw [if_neg (by decide +kernel)]; exact ⟨rfl, rfl⟩)
    (fun os started H enc _ => lifted os started H enc)

#print axioms proved

end Go.Proofs.Ytgokbpnikgbfgaa.flowOwn
