/-
  Proved: the law DescNil returns true for all tables and bounds: no cursor and an empty one give their errors, and Encode neither changes the table nor returns memory that it shares. No condition.
-/
import Derived.BigQuiet
import Derived.Deep.QuietTactic
import Derived.Deep.RegionHeld3
import Derived.Deep.RegionLaw
import Derived.Deep.CutRange
import Derived.Test.YtpjbjbohbdlciaaFrm
import Derived.Test.YtpjbjbohbdlciaaRfe
import Derived.Test.YtpjbjbohbdlciaaQRfB
import Derived.Test.YtpjbjbohbdlciaaOnt
namespace Go.Proofs.Ytpjbjbohbdlciaa.descNil
open Go.ChangeShapes Go.WideShapes Go.ChangeAt Go.RowKit

set_option maxRecDepth 100000 in
set_option maxHeartbeats 1000000 in
theorem walk_long (y : Int) (A : Option Addr) (N cap : Nat) (sy lg : Int) (w : World) (h : 300 < N) :
    Calls Try.prog 11 #[tb y A N cap, .int .i64 sy, .int .i64 lg] w fun e w' => e = .returned (.bool true) ∧ Below w.heap.size w w' := by
  have hd : decide ((300 : Int) < (N : Int)) = true := decide_eq_true (by omega)
  have b1 := below_new w (.cells #[.int .i64 y, .slice A N cap] 24)
  have t1 := Tb.new w y A N cap
  obtain ⟨w1, hw1⟩ : ∃ w1, w.alloc (.cells #[.int .i64 y, .slice A N cap] 24) = w1 := ⟨_, rfl⟩
  rw [hw1] at b1 t1
  have c0 := t1.c0
  have c1 := t1.c1
  have B0 := Lib.hid b1
  clear b1 t1
  go_enter Try.func11, Try.ntmps11
  go_wp2_with (go_at_call 12; refine (known_any _).mono ?_; rintro e w9 ⟨rfl, hb9⟩; have B9 := Lib.hid (below_on B0.out (Nat.le_refl _) hb9); clear hb9)
  go_ret
  exact ⟨rfl, B9.out⟩

set_option maxRecDepth 100000 in
set_option maxHeartbeats 2000000 in
theorem walk_no (y : Int) (A : Option Addr) (l : List Int) (N cap : Nat) (sy lg : Int) (w : World) (hN : l.length = N) (h : N ≤ 300) (hR : Ri w A l) (hv : may y l = false) :
    Calls Try.prog 11 #[tb y A N cap, .int .i64 sy, .int .i64 lg] w fun e w' => e = .returned (.bool true) ∧ Below w.heap.size w w' := by
  have hd : decide ((300 : Int) < (N : Int)) = false := decide_eq_false (by omega)
  have b1 := below_new w (.cells #[.int .i64 y, .slice A N cap] 24)
  have t1 := Tb.new w y A N cap
  obtain ⟨w1, hw1⟩ : ∃ w1, w.alloc (.cells #[.int .i64 y, .slice A N cap] 24) = w1 := ⟨_, rfl⟩
  rw [hw1] at b1 t1
  have c0 := t1.c0
  have c1 := t1.c1
  have HV := Lib.hid hv
  clear hv
  have hR1 := hR.below b1
  have bz := below_new w1 (.cells #[.slice none 0 0, .int .i64 0] 53)
  have cz : Nm.Cur (w1.alloc (.cells #[.slice none 0 0, .int .i64 0] 53)) w1.heap.size none 0 [] 0 := ⟨World.alloc_heap_new w1 _, fun j v h => by simp at h, Nat.le_refl _, Nat.le_refl _, by simp⟩
  obtain ⟨k, hk⟩ : ∃ k, w1.heap.size = k := ⟨_, rfl⟩
  obtain ⟨wz, hwz⟩ : ∃ wz, w1.alloc (.cells #[.slice none 0 0, .int .i64 0] 53) = wz := ⟨_, rfl⟩
  rw [hwz] at bz cz
  rw [hk] at cz
  have DZ : Hid (∀ W c, Nm.Cur W c none 0 [] 0 → Calls Try.prog 20 #[.pointer (some ⟨c, 0, none⟩), .int .i64 sy, .int .i64 lg] W fun q w' => ∃ A7 n7 c7, q = .returned (.tuple #[tb 0 A7 n7 c7, .int .i64 3]) ∧ W.grownBy w' (some c)) := Lib.hid (fun W c hcu => (decode_any hcu (by decide) sy lg).mono (by
    rintro q w' ⟨A7, n7, c7, rfl, _, hg7, _⟩
    exact ⟨A7, n7, c7, rfl, hg7⟩))
  have NZ := Lib.hid (decode_nil wz sy lg)
  have tz := t1.below bz
  have a0 := tz.c0
  have a1 := tz.c1
  have B0 := Lib.hid b1
  have BZ := Lib.hid bz
  have CZ := Lib.hid cz
  have T1 := Lib.hid t1
  have HR1 := Lib.hid hR1
  have HN := Lib.hid hN
  have HK := Lib.hid hk
  clear b1 t1 hR hR1 hN bz cz tz
  go_enter Try.func11, Try.ntmps11
  go_wp2_with (first
    | (go_at_call 20; (with_reducible refine NZ.out.mono ?_); rintro q w2 ⟨rfl, hb2⟩; have B3 := Lib.hid (below_on (below_on BZ.out (Nat.le_refl _) hb2) (Nat.le_refl _) (below_new w2 (.cells #[.int .i64 0, .slice none 0 0] 24))); have C3 := Lib.hid ((CZ.out.below hb2).below (below_new w2 (.cells #[.int .i64 0, .slice none 0 0] 24))); have e3 := (Tb.below (T1.out.below (below_on BZ.out (Nat.le_refl _) hb2)) (below_new w2 (.cells #[.int .i64 0, .slice none 0 0] 24))).c0; clear hb2)
    | (go_at_call 20; refine (DZ.out _ k C3.out).mono ?_; rintro q w4 ⟨A7, n7, c7, rfl, hg7⟩; have B5 : Hid (Below w1.heap.size w1 (w4.alloc (.cells #[.int .i64 0, .slice A7 n7 c7] 24))) := Lib.hid (below_on (B3.out.grown hg7 B3.out.size (fun j ej => (by cases ej; exact Nat.le_of_eq HK.out))) (Nat.le_refl _) (below_new w4 _)); obtain ⟨w5, hw5⟩ : ∃ w5, w4.alloc (.cells #[.int .i64 0, .slice A7 n7 c7] 24) = w5 := ⟨_, rfl⟩; rw [hw5] at B5; have t5 := T1.out.below B5.out; have d0 := t5.c0; have d1 := t5.c1; clear hg7 t5))
  have R5 : Hid (Ri w5 A l) := Lib.hid (HR1.out.below B5.out)
  have T5 := Lib.hid (T1.out.below B5.out)
  obtain ⟨x, hx⟩ : ∃ x, w5.heap.size = x := ⟨_, rfl⟩
  have HX := Lib.hid hx
  have RA : Hid (Rv w5.drew A (l.map iv)) := Lib.hid (Rv.same R5.out (fun _ _ => rfl))
  have RB : Hid (Rv (w5.alloc (.cells #[.int .i64 0, .slice none 0 0] 24)).drew A (l.map iv)) := Lib.hid (Rv.same (R5.out.below (below_new w5 (.cells #[.int .i64 0, .slice none 0 0] 24))) (fun _ _ => rfl))
  have SB : Hid (x + 1 ≤ (w5.alloc (.cells #[.int .i64 0, .slice none 0 0] 24)).drew.heap.size) := Lib.hid (by show x + 1 ≤ (w5.alloc (.cells #[.int .i64 0, .slice none 0 0] 24)).heap.size; rw [World.size_alloc, hx]; exact Nat.le_refl _)
  have TB : Hid (∀ w6, (w5.alloc (.cells #[.int .i64 0, .slice none 0 0] 24)).drew.grownBy w6 none → Tb w6 x 0 none 0 0 ∧ Below w5.heap.size w5 w6) := Lib.hid (fun w6 hg => by
    have t0 := Tb.new w5 0 none 0 0
    rw [hx] at t0
    refine ⟨(hg.block x t0.lt (fun e => by cases e)).trans t0, hg.os, hg.tape, hg.output, Nat.le_trans (by simp) hg.size, fun i hi => ?_⟩
    refine (hg.block i (by simp; omega) (fun e => by cases e)).trans ?_
    exact Below.heap_alloc _ _ _ hi)
  have qa := T5.out.below (below_new w5 (.cells #[.int .i64 0, .slice none 0 0] 24))
  have ca0 := qa.c0
  have ca1 := qa.c1
  clear qa
  go_cut [12] from 35 to 40 (fun t wx => ∃ tk A6 c6, t = .pointer (some ⟨tk, 0, none⟩) ∧ Hid (Own w5 y l N tk A6 c6 wx))
  case first =>
    go_region_law (first
      | (refine step_append_vals Try.underlying22 int_info rfl rfl (.const (.slice none 0 0)) (.tmp 38) rfl w5.heap.size (.slice none 0 0) 0 [] (by simp [Act.eval]) (own_nil _ _) A (l.map iv) (iv_one l) N cap (by rw [List.length_map]; exact HN.out) (by simp [Act.eval]) RA.out (by omega) (by omega) (Nat.le_refl _) ?_; intro v6 w6 ho6 hg6 _; rw [Nat.zero_add, List.nil_append] at ho6; obtain ⟨A6, c6, rfl, _⟩ := own_form ho6; have O6 := Lib.hid ho6; have B6 : Hid (Below w5.heap.size w5 w6) := Lib.hid ⟨hg6.os, hg6.tape, hg6.output, hg6.size, fun i hi => hg6.block i hi (fun e => by cases e)⟩; have qb := T5.out.below B6.out; have cb0 := qb.c0; have cb1 := qb.c1; have qc := qb.below (below_new w6 (.cells #[.int .i64 0, .slice none 0 0] 24)); have cc0 := qc.c0; have cc1 := qc.c1; clear ho6 hg6 qb qc)
      | (refine step_append_vals Try.underlying22 int_info rfl rfl (.const (.slice none 0 0)) (.tmp 38) rfl (x + 1) (.slice none 0 0) 0 [] (by simp [Act.eval]) (own_nil _ _) A (l.map iv) (iv_one l) N cap (by rw [List.length_map]; exact HN.out) (by simp [Act.eval]) RB.out (by omega) (by omega) SB.out ?_; intro v6 w6 ho6 hg6 _; rw [Nat.zero_add, List.nil_append] at ho6; obtain ⟨A6, c6, rfl, _⟩ := own_form ho6; have O6 := Lib.hid ho6; obtain ⟨t6, b6⟩ := TB.out w6 hg6; have s0 := t6.c0; have s1 := t6.c1; have s2 := t6.free 0; have s3 := t6.free 1; obtain ⟨Wa, hWa⟩ : ∃ Wa, w6.setCell ⟨x, 0, none⟩ (.int .i64 y) = Wa := ⟨_, rfl⟩; have ta : Tb Wa x y none 0 0 := (by rw [← hWa]; exact t6.set0 y); have s4 := ta.c1; have s5 := ta.free 1; have T6 := Lib.hid t6; have B6 := Lib.hid b6; have qb := T5.out.below b6; have cb0 := qb.c0; have cb1 := qb.c1; clear ho6 hg6 t6 ta b6 qb))
    all_goals (go_wp2_with fail; go_meet; first | exact ⟨_, A6, c6, rfl, Lib.hid (copy_one O6.out B6.out)⟩ | exact ⟨x, A6, c6, rfl, Lib.hid (by rw [← hWa]; exact copy_two O6.out B6.out HX.out T6.out)⟩)
  case rest =>
    obtain ⟨tk, A6, c6, rfl, HOW⟩ := hcut
    obtain ⟨hT6, hR6, hB6, hc6⟩ := HOW.out
    have T6 := Lib.hid hT6
    have R6 := Lib.hid hR6
    have B6 := Lib.hid hB6
    have C6 := Lib.hid hc6
    have TX := Lib.hid (T5.out.below B6.out)
    have RX := Lib.hid (R5.out.below B6.out)
    have p0 := hT6.c0
    have p1 := hT6.c1
    have NS : Hid (∀ W, Below wc.heap.size wc W → Calls Try.prog 22 #[tb y A6 N c6, tb y A N cap] W fun e w' => e = .returned (.bool true) ∧ Below W.heap.size W w') := Lib.hid (fun W hb => by
      have := rsame_any W y y A6 A l l N c6 N cap HN.out HN.out (by omega) (R6.out.below hb) (RX.out.below hb)
      rwa [show sam y y l l = true by simp [sam]] at this)
    have BF := Lib.hid (below_on B0.out (Nat.le_refl _) (below_on B5.out (Nat.le_refl _) B6.out))
    obtain ⟨n0, hn0⟩ : ∃ n0, ([] : List UInt8).length = n0 := ⟨_, rfl⟩
    have HNX := Lib.hid hn0
    have hn4 : n0 ≤ 400 := by rw [← hn0]; decide
    have EN : Hid (∀ W, Below wc.heap.size wc W → Calls Try.prog 13 #[tb y A6 N c6] W (EncP W [] 13)) := Lib.hid (fun W hb => encode_no W y A6 l N c6 HN.out (by omega) (R6.out.below hb) HV.out)
    clear hn0
    clear HOW hT6 hR6 hB6 hc6 RA RB SB TB c0 c1 d0 d1 ca0 ca1 a0 a1 hx HX DZ NZ CZ
    go_wp2_with (go_at_call 13; refine (EN.out wc (Below.refl _ _)).mono ?_; rintro e w7 ⟨A8, n8, c8, rfl, hb8⟩; obtain rfl : n0 = n8 := (hb8.1.trans HNX.out).symm; have O7 : Hid (∃ xs, w7.ownsRow wc.heap.size 5 1 (.slice A8 n0 c8) n0 xs) := Lib.hid ⟨_, hb8.2.1⟩; have B7 := Lib.hid hb8.2.2; clear hb8)
    clear p0 p1
    go_loopw [15] (fun u wr => ∃ i : Nat, i ≤ n0 ∧ u = .int .i64 (i : Int) ∧ Hid (∃ xs, wr.ownsRow wc.heap.size 5 1 (.slice A8 n0 c8) n0 xs) ∧ Hid (Below wc.heap.size wc wr)) (fun u _ => n0 - (intOf u).toNat)
    case atStart => exact ⟨0, Nat.zero_le _, rfl, O7, B7⟩
    case round =>
      obtain ⟨i, hi, rfl, HO, HB⟩ := hrel
      clear O7 B7
      by_cases hlt : i < n0
      · obtain ⟨us, ho⟩ := HO.out
        obtain ⟨g, rfl⟩ := own_some (by omega) ho
        have hg2 : wc.heap.size ≤ g := own_ge ho rfl
        have hul : us.length = n0 := by have := ho.1; omega
        obtain ⟨u, hu⟩ : ∃ u, us[i]? = some u := ⟨_, List.getElem?_eq_getElem (by omega)⟩
        have cu : wr.cell? ⟨g, i, none⟩ = some u := by rw [ho.cellAt i (by omega)]; exact hu
        have fu := ho.frozenAt i
        have HO2 : Hid (∃ xs, (wr.setCell ⟨g, i, none⟩ (.int .u8 77)).ownsRow wc.heap.size 5 1 (.slice (some ⟨g, 0, none⟩) n0 c8) n0 xs) := Lib.hid ⟨_, (ho.stored i _).1⟩
        have HB2 := Lib.hid (HB.out.setCell (p := ⟨g, i, none⟩) hg2 (.int .u8 77))
        clear ho HO hul hu hg2
        go_wp2
        exact ⟨⟨i + 1, by omega, by simp, HO2, HB2⟩, by simp [intOf]; omega⟩
      · clear HO
        have tz1 := T6.out.below HB.out
        have p0 := tz1.c0
        have p1 := tz1.c1
        clear tz1
        go_wp2_with (first
          | (go_at_call 13; refine (EN.out wr HB.out).mono ?_; rintro e w9 ⟨A9, n9, c9, rfl, hb9⟩; obtain rfl : n0 = n9 := (hb9.1.trans HNX.out).symm; have Y9 := Lib.hid (bys_rd hb9); have B9 := Lib.hid (below_on HB.out (Nat.le_refl _) hb9.2.2); have tz9 := T6.out.below B9.out; have r0 := tz9.c0; have r1 := tz9.c1; have tx9 := TX.out.below B9.out; have x0 := tx9.c0; have x1 := tx9.c1; clear hb9 tz9 tx9)
          | (go_at_call 22; refine (NS.out _ B9.out).mono ?_; rintro e w10 ⟨rfl, hb10⟩; have B10 := Lib.hid (below_on B9.out (Nat.le_refl _) hb10); have Y10 := Lib.hid (Bt.Rv.below Y9.out hb10); have ty := TX.out.below B10.out; have y0 := ty.c0; have y1 := ty.c1; clear hb10 ty)
          | (go_at_call 12; refine (known_any _).mono ?_; rintro e w19 ⟨rfl, hb19⟩; have B19 := Lib.hid (below_on BF.out (Nat.le_refl _) (below_on B10.out (Nat.le_refl _) hb19)); clear hb19))
        go_ret
        exact ⟨rfl, B19.out⟩

set_option maxRecDepth 100000 in
set_option maxHeartbeats 2000000 in
theorem walk_yes (y : Nat) (A : Option Addr) (l : List Int) (N cap : Nat) (sy lg : Int) (w : World) (hN : l.length = N) (h : N ≤ 300) (hR : Ri w A l) (hv : Vt y l) (h1 : 1 ≤ y) :
    Calls Try.prog 11 #[tb (y : Int) A N cap, .int .i64 sy, .int .i64 lg] w fun e w' => e = .returned (.bool true) ∧ Below w.heap.size w w' := by
  have hd : decide ((300 : Int) < (N : Int)) = false := decide_eq_false (by omega)
  have b1 := below_new w (.cells #[.int .i64 (y : Int), .slice A N cap] 24)
  have t1 := Tb.new w (y : Int) A N cap
  obtain ⟨w1, hw1⟩ : ∃ w1, w.alloc (.cells #[.int .i64 (y : Int), .slice A N cap] 24) = w1 := ⟨_, rfl⟩
  rw [hw1] at b1 t1
  have c0 := t1.c0
  have c1 := t1.c1
  have HV := Lib.hid hv
  have H1 := Lib.hid h1
  clear hv h1
  have hR1 := hR.below b1
  have bz := below_new w1 (.cells #[.slice none 0 0, .int .i64 0] 53)
  have cz : Nm.Cur (w1.alloc (.cells #[.slice none 0 0, .int .i64 0] 53)) w1.heap.size none 0 [] 0 := ⟨World.alloc_heap_new w1 _, fun j v h => by simp at h, Nat.le_refl _, Nat.le_refl _, by simp⟩
  obtain ⟨k, hk⟩ : ∃ k, w1.heap.size = k := ⟨_, rfl⟩
  obtain ⟨wz, hwz⟩ : ∃ wz, w1.alloc (.cells #[.slice none 0 0, .int .i64 0] 53) = wz := ⟨_, rfl⟩
  rw [hwz] at bz cz
  rw [hk] at cz
  have DZ : Hid (∀ W c, Nm.Cur W c none 0 [] 0 → Calls Try.prog 20 #[.pointer (some ⟨c, 0, none⟩), .int .i64 sy, .int .i64 lg] W fun q w' => ∃ A7 n7 c7, q = .returned (.tuple #[tb 0 A7 n7 c7, .int .i64 3]) ∧ W.grownBy w' (some c)) := Lib.hid (fun W c hcu => (decode_any hcu (by decide) sy lg).mono (by
    rintro q w' ⟨A7, n7, c7, rfl, _, hg7, _⟩
    exact ⟨A7, n7, c7, rfl, hg7⟩))
  have NZ := Lib.hid (decode_nil wz sy lg)
  have tz := t1.below bz
  have a0 := tz.c0
  have a1 := tz.c1
  have B0 := Lib.hid b1
  have BZ := Lib.hid bz
  have CZ := Lib.hid cz
  have T1 := Lib.hid t1
  have HR1 := Lib.hid hR1
  have HN := Lib.hid hN
  have HK := Lib.hid hk
  clear b1 t1 hR hR1 hN bz cz tz
  go_enter Try.func11, Try.ntmps11
  go_wp2_with (first
    | (go_at_call 20; (with_reducible refine NZ.out.mono ?_); rintro q w2 ⟨rfl, hb2⟩; have B3 := Lib.hid (below_on (below_on BZ.out (Nat.le_refl _) hb2) (Nat.le_refl _) (below_new w2 (.cells #[.int .i64 0, .slice none 0 0] 24))); have C3 := Lib.hid ((CZ.out.below hb2).below (below_new w2 (.cells #[.int .i64 0, .slice none 0 0] 24))); have e3 := (Tb.below (T1.out.below (below_on BZ.out (Nat.le_refl _) hb2)) (below_new w2 (.cells #[.int .i64 0, .slice none 0 0] 24))).c0; clear hb2)
    | (go_at_call 20; refine (DZ.out _ k C3.out).mono ?_; rintro q w4 ⟨A7, n7, c7, rfl, hg7⟩; have B5 : Hid (Below w1.heap.size w1 (w4.alloc (.cells #[.int .i64 0, .slice A7 n7 c7] 24))) := Lib.hid (below_on (B3.out.grown hg7 B3.out.size (fun j ej => (by cases ej; exact Nat.le_of_eq HK.out))) (Nat.le_refl _) (below_new w4 _)); obtain ⟨w5, hw5⟩ : ∃ w5, w4.alloc (.cells #[.int .i64 0, .slice A7 n7 c7] 24) = w5 := ⟨_, rfl⟩; rw [hw5] at B5; have t5 := T1.out.below B5.out; have d0 := t5.c0; have d1 := t5.c1; clear hg7 t5))
  have R5 : Hid (Ri w5 A l) := Lib.hid (HR1.out.below B5.out)
  have T5 := Lib.hid (T1.out.below B5.out)
  obtain ⟨x, hx⟩ : ∃ x, w5.heap.size = x := ⟨_, rfl⟩
  have HX := Lib.hid hx
  have RA : Hid (Rv w5.drew A (l.map iv)) := Lib.hid (Rv.same R5.out (fun _ _ => rfl))
  have RB : Hid (Rv (w5.alloc (.cells #[.int .i64 0, .slice none 0 0] 24)).drew A (l.map iv)) := Lib.hid (Rv.same (R5.out.below (below_new w5 (.cells #[.int .i64 0, .slice none 0 0] 24))) (fun _ _ => rfl))
  have SB : Hid (x + 1 ≤ (w5.alloc (.cells #[.int .i64 0, .slice none 0 0] 24)).drew.heap.size) := Lib.hid (by show x + 1 ≤ (w5.alloc (.cells #[.int .i64 0, .slice none 0 0] 24)).heap.size; rw [World.size_alloc, hx]; exact Nat.le_refl _)
  have TB : Hid (∀ w6, (w5.alloc (.cells #[.int .i64 0, .slice none 0 0] 24)).drew.grownBy w6 none → Tb w6 x 0 none 0 0 ∧ Below w5.heap.size w5 w6) := Lib.hid (fun w6 hg => by
    have t0 := Tb.new w5 0 none 0 0
    rw [hx] at t0
    refine ⟨(hg.block x t0.lt (fun e => by cases e)).trans t0, hg.os, hg.tape, hg.output, Nat.le_trans (by simp) hg.size, fun i hi => ?_⟩
    refine (hg.block i (by simp; omega) (fun e => by cases e)).trans ?_
    exact Below.heap_alloc _ _ _ hi)
  have qa := T5.out.below (below_new w5 (.cells #[.int .i64 0, .slice none 0 0] 24))
  have ca0 := qa.c0
  have ca1 := qa.c1
  clear qa
  go_cut [12] from 35 to 40 (fun t wx => ∃ tk A6 c6, t = .pointer (some ⟨tk, 0, none⟩) ∧ Hid (Own w5 (y : Int) l N tk A6 c6 wx))
  case first =>
    go_region_law (first
      | (refine step_append_vals Try.underlying22 int_info rfl rfl (.const (.slice none 0 0)) (.tmp 38) rfl w5.heap.size (.slice none 0 0) 0 [] (by simp [Act.eval]) (own_nil _ _) A (l.map iv) (iv_one l) N cap (by rw [List.length_map]; exact HN.out) (by simp [Act.eval]) RA.out (by omega) (by omega) (Nat.le_refl _) ?_; intro v6 w6 ho6 hg6 _; rw [Nat.zero_add, List.nil_append] at ho6; obtain ⟨A6, c6, rfl, _⟩ := own_form ho6; have O6 := Lib.hid ho6; have B6 : Hid (Below w5.heap.size w5 w6) := Lib.hid ⟨hg6.os, hg6.tape, hg6.output, hg6.size, fun i hi => hg6.block i hi (fun e => by cases e)⟩; have qb := T5.out.below B6.out; have cb0 := qb.c0; have cb1 := qb.c1; have qc := qb.below (below_new w6 (.cells #[.int .i64 0, .slice none 0 0] 24)); have cc0 := qc.c0; have cc1 := qc.c1; clear ho6 hg6 qb qc)
      | (refine step_append_vals Try.underlying22 int_info rfl rfl (.const (.slice none 0 0)) (.tmp 38) rfl (x + 1) (.slice none 0 0) 0 [] (by simp [Act.eval]) (own_nil _ _) A (l.map iv) (iv_one l) N cap (by rw [List.length_map]; exact HN.out) (by simp [Act.eval]) RB.out (by omega) (by omega) SB.out ?_; intro v6 w6 ho6 hg6 _; rw [Nat.zero_add, List.nil_append] at ho6; obtain ⟨A6, c6, rfl, _⟩ := own_form ho6; have O6 := Lib.hid ho6; obtain ⟨t6, b6⟩ := TB.out w6 hg6; have s0 := t6.c0; have s1 := t6.c1; have s2 := t6.free 0; have s3 := t6.free 1; obtain ⟨Wa, hWa⟩ : ∃ Wa, w6.setCell ⟨x, 0, none⟩ (.int .i64 (y : Int)) = Wa := ⟨_, rfl⟩; have ta : Tb Wa x (y : Int) none 0 0 := (by rw [← hWa]; exact t6.set0 (y : Int)); have s4 := ta.c1; have s5 := ta.free 1; have T6 := Lib.hid t6; have B6 := Lib.hid b6; have qb := T5.out.below b6; have cb0 := qb.c0; have cb1 := qb.c1; clear ho6 hg6 t6 ta b6 qb))
    all_goals (go_wp2_with fail; go_meet; first | exact ⟨_, A6, c6, rfl, Lib.hid (copy_one O6.out B6.out)⟩ | exact ⟨x, A6, c6, rfl, Lib.hid (by rw [← hWa]; exact copy_two O6.out B6.out HX.out T6.out)⟩)
  case rest =>
    obtain ⟨tk, A6, c6, rfl, HOW⟩ := hcut
    obtain ⟨hT6, hR6, hB6, hc6⟩ := HOW.out
    have T6 := Lib.hid hT6
    have R6 := Lib.hid hR6
    have B6 := Lib.hid hB6
    have C6 := Lib.hid hc6
    have TX := Lib.hid (T5.out.below B6.out)
    have RX := Lib.hid (R5.out.below B6.out)
    have p0 := hT6.c0
    have p1 := hT6.c1
    have NS : Hid (∀ W, Below wc.heap.size wc W → Calls Try.prog 22 #[tb (y : Int) A6 N c6, tb (y : Int) A N cap] W fun e w' => e = .returned (.bool true) ∧ Below W.heap.size W w') := Lib.hid (fun W hb => by
      have := rsame_any W (y : Int) (y : Int) A6 A l l N c6 N cap HN.out HN.out (by omega) (R6.out.below hb) (RX.out.below hb)
      rwa [show sam (y : Int) (y : Int) l l = true by simp [sam]] at this)
    have BF := Lib.hid (below_on B0.out (Nat.le_refl _) (below_on B5.out (Nat.le_refl _) B6.out))
    have hdl := descr_len HV.out
    have hpl := Bt.pack_len (descr y l)
    obtain ⟨X0, hX0⟩ : ∃ X0, Bt.pack (descr y l) = X0 := ⟨_, rfl⟩
    rw [hX0] at hpl
    obtain ⟨n0, hn0⟩ : ∃ n0, X0.length = n0 := ⟨_, rfl⟩
    have HNX := Lib.hid hn0
    rw [hn0] at hpl
    have hn4 : n0 ≤ 400 := by omega
    obtain ⟨nn, hnn⟩ : ∃ nn, (descr y l).length = nn := ⟨_, rfl⟩
    have EN : Hid (∀ W, Below wc.heap.size wc W → Calls Try.prog 13 #[tb (y : Int) A6 N c6] W (EncP W X0 0)) := Lib.hid (fun W hb => by rw [← hX0]; exact encode_ok W y A6 l N c6 HN.out C6.out (R6.out.below hb) HV.out H1.out)
    have BT : Hid (∀ W, Below wc.heap.size wc W → Calls Try.prog 16 #[tb (y : Int) A N cap] W fun e w' => ∃ A1 c1, e = .returned (.slice A1 nn c1) ∧ w'.ownsRow W.heap.size 4 1 (.slice A1 nn c1) nn ((descr y l).map Value.bool) ∧ Below W.heap.size W w') := Lib.hid (fun W hb => rbits_any W y A l N cap HN.out HV.out H1.out (RX.out.below hb) nn hnn)
    have hnn5 : nn ≤ 3076 := by omega
    have RB2 : Hid (∀ W A4 c4, Rv W A4 ((descr y l).map Value.bool) → Calls Try.prog 18 #[.slice A4 nn c4] W fun e w' => ∃ A c, e = .returned (.slice A n0 c) ∧ Bt.Rd w' A X0 ∧ Below W.heap.size W w') := Lib.hid (fun W A4 c4 hr => (Bt.refBytes_any W A4 (descr y l) nn c4 hnn (by omega) hr).mono (by
      rintro e w' ⟨A, c, rfl, ho, hb⟩
      rw [hX0, hn0] at ho
      rw [hX0, hn0]
      exact ⟨A, c, rfl, Bt.Rv.of_own ho, hb⟩))
    clear hn0 hdl hpl hX0 hnn
    clear HOW hT6 hR6 hB6 hc6 RA RB SB TB c0 c1 d0 d1 ca0 ca1 a0 a1 hx HX DZ NZ CZ
    go_wp2_with (go_at_call 13; refine (EN.out wc (Below.refl _ _)).mono ?_; rintro e w7 ⟨A8, n8, c8, rfl, hb8⟩; obtain rfl : n0 = n8 := (hb8.1.trans HNX.out).symm; have O7 : Hid (∃ xs, w7.ownsRow wc.heap.size 5 1 (.slice A8 n0 c8) n0 xs) := Lib.hid ⟨_, hb8.2.1⟩; have B7 := Lib.hid hb8.2.2; clear hb8)
    clear p0 p1
    go_loopw [15] (fun u wr => ∃ i : Nat, i ≤ n0 ∧ u = .int .i64 (i : Int) ∧ Hid (∃ xs, wr.ownsRow wc.heap.size 5 1 (.slice A8 n0 c8) n0 xs) ∧ Hid (Below wc.heap.size wc wr)) (fun u _ => n0 - (intOf u).toNat)
    case atStart => exact ⟨0, Nat.zero_le _, rfl, O7, B7⟩
    case round =>
      obtain ⟨i, hi, rfl, HO, HB⟩ := hrel
      clear O7 B7
      by_cases hlt : i < n0
      · obtain ⟨us, ho⟩ := HO.out
        obtain ⟨g, rfl⟩ := own_some (by omega) ho
        have hg2 : wc.heap.size ≤ g := own_ge ho rfl
        have hul : us.length = n0 := by have := ho.1; omega
        obtain ⟨u, hu⟩ : ∃ u, us[i]? = some u := ⟨_, List.getElem?_eq_getElem (by omega)⟩
        have cu : wr.cell? ⟨g, i, none⟩ = some u := by rw [ho.cellAt i (by omega)]; exact hu
        have fu := ho.frozenAt i
        have HO2 : Hid (∃ xs, (wr.setCell ⟨g, i, none⟩ (.int .u8 77)).ownsRow wc.heap.size 5 1 (.slice (some ⟨g, 0, none⟩) n0 c8) n0 xs) := Lib.hid ⟨_, (ho.stored i _).1⟩
        have HB2 := Lib.hid (HB.out.setCell (p := ⟨g, i, none⟩) hg2 (.int .u8 77))
        clear ho HO hul hu hg2
        go_wp2
        exact ⟨⟨i + 1, by omega, by simp, HO2, HB2⟩, by simp [intOf]; omega⟩
      · clear HO
        have tz1 := T6.out.below HB.out
        have p0 := tz1.c0
        have p1 := tz1.c1
        clear tz1
        go_wp2_with (first
          | (go_at_call 13; refine (EN.out wr HB.out).mono ?_; rintro e w9 ⟨A9, n9, c9, rfl, hb9⟩; obtain rfl : n0 = n9 := (hb9.1.trans HNX.out).symm; have Y9 := Lib.hid (bys_rd hb9); have B9 := Lib.hid (below_on HB.out (Nat.le_refl _) hb9.2.2); have tz9 := T6.out.below B9.out; have r0 := tz9.c0; have r1 := tz9.c1; have tx9 := TX.out.below B9.out; have x0 := tx9.c0; have x1 := tx9.c1; clear hb9 tz9 tx9)
          | (go_at_call 22; refine (NS.out _ B9.out).mono ?_; rintro e w10 ⟨rfl, hb10⟩; have B10 := Lib.hid (below_on B9.out (Nat.le_refl _) hb10); have Y10 := Lib.hid (Bt.Rv.below Y9.out hb10); have ty := TX.out.below B10.out; have y0 := ty.c0; have y1 := ty.c1; clear hb10 ty)
          | (go_at_call 16; refine (BT.out _ B10.out).mono ?_; rintro e w11 ⟨A11, c11, rfl, ho11, hb11⟩; have R11 := Lib.hid (Rv.of_own ho11); have B11 := Lib.hid (below_on B10.out (Nat.le_refl _) hb11); have Y11 := Lib.hid (Bt.Rv.below Y10.out hb11); clear ho11 hb11)
          | (go_at_call 18; refine (RB2.out _ _ _ R11.out).mono ?_; rintro e w12 ⟨A12, c12, rfl, hr12, hb12⟩; have R12 := Lib.hid hr12; have B12 := Lib.hid (below_on B11.out (Nat.le_refl _) hb12); have Y12 := Lib.hid (Bt.Rv.below Y11.out hb12); clear hr12 hb12)
          | (go_at_call 17; refine (Bt.same_n w12 A9 A12 X0 X0 n0 n0 HNX.out HNX.out c9 c12 Y12.out R12.out rfl).mono ?_; rintro e wq ⟨rfl, rfl⟩)
          | (go_at_call 12; refine (known_any _).mono ?_; rintro e w19 ⟨rfl, hb19⟩; have B19 := Lib.hid (below_on BF.out (Nat.le_refl _) (below_on B12.out (Nat.le_refl _) hb19)); clear hb19))
        go_ret
        exact ⟨rfl, B19.out⟩

theorem walk (y : Int) (A : Option Addr) (l : List Int) (cap : Nat) (sy lg : Int) (w : World) (hR : Ri w A l) (_ : ∀ z ∈ l, -9223372036854775808 ≤ z ∧ z ≤ 9223372036854775807) (_ : l.length ≤ cap) (_ : (Lit.int IntKind.i64 sy).wf = true) (_ : (Lit.int IntKind.i64 lg).wf = true) :
    Calls Try.prog 11 #[tb y A l.length cap, .int .i64 sy, .int .i64 lg] w fun e w' => e = .returned (.bool true) ∧ Below w.heap.size w w' := by
  by_cases h : 300 < l.length
  · exact walk_long y A _ cap sy lg w h
  · cases hv : may y l with
    | false => exact walk_no y A l _ cap sy lg w rfl (by omega) hR hv
    | true =>
      obtain ⟨n, rfl, h1, hv2⟩ := may_iff.1 hv
      exact walk_yes n A l _ cap sy lg w rfl (by omega) hR hv2 h1
set_option maxRecDepth 100000 in
theorem lifted (os : Os) (started : os.Started) (H : Type) (enc : TypeId × Value → H) :
    ReturnsInHanded {} Try.checked os 11 .any (Rows.descNilSpec.pre6 enc Try.prog Try.f11 Rows.descNilRow.domain false) (Rows.descNilSpec.post enc Try.prog Try.f11 false true false false) := by
  refine returnsInHanded_of_change_sized (C := Try.checked) ownB started (by kernel_rfl) Try.func11
    (ChangeSpec.witness6 (enc := enc) (C := Try.checked) false ⟨#[], #[.agg #[.int .i64 0, .slice none 0 0], .int .i64 0, .int .i64 0], []⟩ 8 (by kernel_rfl) (by kernel_rfl) (by kernel_rfl) (by kernel_rfl)) ?_
  intro W base args ds gs before hval0 hW _ hsz0 _
  have hsz : (DataW.weightsEach Try.prog (Try.f11.params.toList ++ Rows.descNilSpec.plain.varTypes Try.prog) (ds ++ gs)).all (· ≤ reachBytes) = true := hsz0
  clear hsz0
  have hval : ∀ (j : Nat) t v, Try.f11.params[j]? = some t → args[j]? = some v → Value.okWide Try.prog W .any base t v := hval0
  have hW' := hW
  obtain ⟨p, q, hA0, hV, rfl, hfz, hnd⟩ := hW
  have hA : DataW.TrodAll enc Try.prog W 0 (fun _ => true) true Try.f11.params.toList args.toList ds p := hA0
  rw [Try.params11] at hA hval hsz
  obtain ⟨v0, vs0, d0, ds0, p0, q0, hargs, rfl, rfl, h0, r0⟩ := trodAll_cons hA
  obtain ⟨v1, vs1, d1, ds1, p1, q1, rfl, rfl, rfl, h1, r1⟩ := trodAll_cons r0
  obtain ⟨v2, vs2, d2, ds2, p2, q2, rfl, rfl, rfl, h2, r2⟩ := trodAll_cons r1
  obtain ⟨rfl, rfl, rfl⟩ := trodAll_nil r2
  obtain rfl : args = #[v0, v1, v2] := by cases args; simp_all
  obtain ⟨rfl, rfl⟩ := trodVars_none hV
  obtain ⟨cs0, rfl, hcs0⟩ := okWide_struct Try.underlying24 (hval 0 24 v0 rfl rfl)
  have k0 := h0
  have lt0 : ∀ x ∈ p0, x.block < W.heap.size := by obtain ⟨m, hm⟩ := k0; exact DataW.trod_lt m _ _ _ hm
  obtain ⟨y0, a0, len0, cap0, l0, rfl, rfl, hc0, ri0, wi0⟩ := open_tab hcs0 h0
  obtain ⟨a1, rfl, rfl, rfl, w1⟩ := open_int Try.underlying3 (hval 1 3 v1 rfl rfl) h1
  obtain ⟨a2, rfl, rfl, rfl, w2⟩ := open_int Try.underlying3 (hval 2 3 v2 rfl rfl) h2
  clear hA0 hval0
  refine (walk y0 a0 l0 cap0 a1 a2 W ri0 wi0 hc0 w1 w2).mono fun e W' ⟨he, bel⟩ => ?_
  subst he
  exact ⟨_, rfl, _, _, _, [], _, [], hW', trodAll_mk1 (shut_bool Try.underlying4 _), (trodAll_cons_mk (Below.trod laidOut (by kernel_rfl) (of_decide_eq_true (by kernel_rfl)) k0 bel lt0) (trodAll_cons_mk (shut_int Try.underlying3 w1) (trodAll_cons_mk (shut_int Try.underlying3 w2) trodAll_mk0))), rfl, bel.frame _, fun h => by cases h⟩

theorem proved : Rows.DescNilSaid :=
  OpenClaim.holds_of_wide 11 Try.f11 rfl rfl rfl rfl rfl rfl rfl ⟨rfl, rfl, rfl, rfl, rfl⟩ rfl rfl rfl rfl rfl (by kernel_rfl) Try.func11 (by kernel_rfl)
    (of_decide_eq_true (by kernel_rfl)) (by unfold Func.isWrapper; rw [if_neg (by decide +kernel)]; exact ⟨rfl, rfl⟩)
    (fun os started H enc _ => lifted os started H enc)

#print axioms proved

end Go.Proofs.Ytpjbjbohbdlciaa.descNil
