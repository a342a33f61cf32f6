/-
  Proved: the law SpreadOwn returns true for all tables and symbols: what Spread and Positions return is new memory, and the table is not changed. No condition.
-/
import Derived.Test.YtpiebkkaileocaaFrm
import Derived.Test.YtpiebkkaileocaaUni
namespace Go.Proofs.Ytpiebkkaileocaa.spreadOwn
open Go.ChangeShapes Go.WideShapes Go.ChangeAt Go.RowKit

set_option maxRecDepth 100000 in
set_option maxHeartbeats 4000000 in
theorem walk_long (y : Int) (A : Option Addr) (N cap : Nat) (z : Int) (w : World) (h : 300 < N) :
    Calls Try.prog 10 #[tb y A N cap, .int .i64 z] w fun e w' => e = .returned (.bool true) ∧ Below w.heap.size w w' := by
  have hd : decide ((300 : Int) < (N : Int)) = true := decide_eq_true (by omega)
  have b1 : Below w.heap.size w (w.alloc (.cells #[.int .i64 y, .slice A N cap] 24)) := (Below.refl _ w).alloc (Nat.le_refl _) _
  have t1 := Tb.new w y A N cap
  obtain ⟨w1, hw1⟩ : ∃ w1, w.alloc (.cells #[.int .i64 y, .slice A N cap] 24) = w1 := ⟨_, rfl⟩
  rw [hw1] at b1 t1
  have c0 := t1.c0
  have c1 := t1.c1
  have KN := Lib.hid (known_any w1)
  have B0 := Lib.hid b1
  clear b1 t1
  go_enter Try.func10, Try.ntmps10
  go_wp2_with (go_at_call 11; refine KN.out.mono ?_; rintro e w2 ⟨rfl, hb2⟩; have B1 := Lib.hid (below_on B0.out (Nat.le_refl _) hb2); clear hb2)
  go_ret
  exact ⟨rfl, B1.out⟩

/-- The copy of the table: block tk holds it, its norms are a row of the call's own. -/
def Own (w : World) (y : Int) (l : List Int) (N tk : Nat) (A : Option Addr) (c : Nat) (W : World) : Prop :=
  Tb W tk y A N c ∧ Ri W A l ∧ Below w.heap.size w W
theorem copy_one {w : World} {y : Int} {l : List Int} {N : Nat} {w5 : World} {A5 : Option Addr} {c5 : Nat} (ho : w5.ownsRow w.heap.size 3 1 (.slice A5 N c5) N (l.map iv)) (hb : Below w.heap.size w w5) :
    Own w y l N w5.heap.size A5 c5 (w5.alloc (.cells #[.int .i64 y, .slice A5 N c5] 24)) :=
  ⟨Tb.new w5 y A5 N c5, (Rv.of_own ho).below ((Below.refl _ w5).alloc (Nat.le_refl _) _), hb.alloc hb.size _⟩
theorem copy_two {w : World} {y : Int} {l : List Int} {N : Nat} {w5 : World} {A5 : Option Addr} {c5 tk : Nat} (ho : w5.ownsRow (tk + 1) 3 1 (.slice A5 N c5) N (l.map iv)) (hb : Below w.heap.size w w5) (ht : w.heap.size = tk) (t1 : Tb w5 tk 0 none 0 0) :
    Own w y l N tk A5 c5 ((w5.setCell ⟨tk, 0, none⟩ (.int .i64 y)).setCell ⟨tk, 1, none⟩ (.slice A5 N c5)) := by
  refine ⟨(t1.set0 y).set1 A5 N c5, ?_, ?_⟩
  · refine Rv.same (Rv.of_own ho) fun ad e => ?_
    have := (own_addr ho ad e).1
    rw [Below.heap_setCell _ _ _ _ (by show ad.block ≠ tk; omega), Below.heap_setCell _ _ _ _ (by show ad.block ≠ tk; omega)]
  · exact (hb.setCell (p := ⟨tk, 0, none⟩) (by show w.heap.size ≤ tk; omega) _).setCell (p := ⟨tk, 1, none⟩) (by show w.heap.size ≤ tk; omega) _

set_option maxRecDepth 100000 in
set_option maxHeartbeats 4000000 in
theorem walk_short (y : Int) (A : Option Addr) (l : List Int) (N cap : Nat) (z : Int) (w : World) (hN : l.length = N) (h : N ≤ 300) (hR : Ri w A l) :
    Calls Try.prog 10 #[tb y A N cap, .int .i64 z] w fun e w' => e = .returned (.bool true) ∧ Below w.heap.size w w' := by
  have hd : decide ((300 : Int) < (N : Int)) = false := decide_eq_false (by omega)
  have b1 : Below w.heap.size w (w.alloc (.cells #[.int .i64 y, .slice A N cap] 24)) := (Below.refl _ w).alloc (Nat.le_refl _) _
  have t1 := Tb.new w y A N cap
  obtain ⟨w1, hw1⟩ : ∃ w1, w.alloc (.cells #[.int .i64 y, .slice A N cap] 24) = w1 := ⟨_, rfl⟩
  rw [hw1] at b1 t1
  have c0 := t1.c0
  have c1 := t1.c1
  have hR1 := hR.below b1
  have B0 := Lib.hid b1
  have T1 := Lib.hid t1
  have R1 := Lib.hid hR1
  have HN := Lib.hid hN
  obtain ⟨k, hk⟩ : ∃ k, w1.heap.size = k := ⟨_, rfl⟩
  have HK := Lib.hid hk
  have RA : Hid (Rv w1.drew A (l.map iv)) := Lib.hid (Rv.same hR1 (fun _ _ => rfl))
  have RB : Hid (Rv (w1.alloc (.cells #[.int .i64 0, .slice none 0 0] 24)).drew A (l.map iv)) := Lib.hid (Rv.same (hR1.below ((Below.refl _ w1).alloc (Nat.le_refl _) (.cells #[.int .i64 0, .slice none 0 0] 24))) (fun _ _ => rfl))
  have SB : Hid (k + 1 ≤ (w1.alloc (.cells #[.int .i64 0, .slice none 0 0] 24)).drew.heap.size) := Lib.hid (by show k + 1 ≤ (w1.alloc (.cells #[.int .i64 0, .slice none 0 0] 24)).heap.size; rw [World.size_alloc, hk]; exact Nat.le_refl _)
  have TB : Hid (∀ w5, (w1.alloc (.cells #[.int .i64 0, .slice none 0 0] 24)).drew.grownBy w5 none → Tb w5 k 0 none 0 0 ∧ Below w1.heap.size w1 w5) := Lib.hid (fun w5 hg => by
    have t0 := Tb.new w1 0 none 0 0
    rw [hk] at t0
    refine ⟨(hg.block k t0.lt (fun e => by cases e)).trans t0, hg.os, hg.tape, hg.output, Nat.le_trans (by simp) hg.size, fun i hi => ?_⟩
    refine (hg.block i (by simp; omega) (fun e => by cases e)).trans ?_
    exact Below.heap_alloc _ _ _ hi)
  have qa := t1.below ((Below.refl _ w1).alloc (Nat.le_refl _) (.cells #[.int .i64 0, .slice none 0 0] 24))
  have ca0 := qa.c0
  have ca1 := qa.c1
  clear b1 t1 hR hR1 hN qa
  go_enter Try.func10, Try.ntmps10
  go_wp2
  go_cut [5] from 21 to 26 (fun t wx => ∃ tk A5 c5, t = .pointer (some ⟨tk, 0, none⟩) ∧ Hid (Own w1 y l N tk A5 c5 wx))
  case first =>
    go_region_law (first
      | (refine step_append_vals Try.underlying22 int_info rfl rfl (.const (.slice none 0 0)) (.tmp 24) rfl w1.heap.size (.slice none 0 0) 0 [] (by simp [Act.eval]) (own_nil _ _) A (l.map iv) (iv_one l) N cap (by rw [List.length_map]; exact HN.out) (by simp [Act.eval]) RA.out (by omega) (by omega) (Nat.le_refl _) ?_; intro v5 w5 ho5 hg5 _; rw [Nat.zero_add, List.nil_append] at ho5; obtain ⟨A5, c5, rfl, _⟩ := own_form ho5; have O5 := Lib.hid ho5; have B5 : Hid (Below w1.heap.size w1 w5) := Lib.hid ⟨hg5.os, hg5.tape, hg5.output, hg5.size, fun i hi => hg5.block i hi (fun e => by cases e)⟩; have qb := T1.out.below B5.out; have cb0 := qb.c0; have cb1 := qb.c1; have qc := qb.below ((Below.refl _ w5).alloc (Nat.le_refl _) (.cells #[.int .i64 0, .slice none 0 0] 24)); have cc0 := qc.c0; have cc1 := qc.c1; clear ho5 hg5 qb qc)
      | (refine step_append_vals Try.underlying22 int_info rfl rfl (.const (.slice none 0 0)) (.tmp 24) rfl (k + 1) (.slice none 0 0) 0 [] (by simp [Act.eval]) (own_nil _ _) A (l.map iv) (iv_one l) N cap (by rw [List.length_map]; exact HN.out) (by simp [Act.eval]) RB.out (by omega) (by omega) SB.out ?_; intro v5 w5 ho5 hg5 _; rw [Nat.zero_add, List.nil_append] at ho5; obtain ⟨A5, c5, rfl, _⟩ := own_form ho5; have O5 := Lib.hid ho5; obtain ⟨t5, b5⟩ := TB.out w5 hg5; have s0 := t5.c0; have s1 := t5.c1; have s2 := t5.free 0; have s3 := t5.free 1; obtain ⟨Wa, hWa⟩ : ∃ Wa, w5.setCell ⟨k, 0, none⟩ (.int .i64 y) = Wa := ⟨_, rfl⟩; have ta : Tb Wa k y none 0 0 := (by rw [← hWa]; exact t5.set0 y); have s4 := ta.c1; have s5 := ta.free 1; have T5 := Lib.hid t5; have B5 := Lib.hid b5; have qb := T1.out.below b5; have cb0 := qb.c0; have cb1 := qb.c1; clear ho5 hg5 t5 ta b5 qb))
    all_goals (go_wp2_with fail; go_meet; first | exact ⟨_, A5, c5, rfl, Lib.hid (copy_one O5.out B5.out)⟩ | exact ⟨k, A5, c5, rfl, Lib.hid (by rw [← hWa]; exact copy_two O5.out B5.out HK.out T5.out)⟩)
  case rest =>
    obtain ⟨tk, A5, c5, rfl, HOW⟩ := hcut
    obtain ⟨hT5, hR5, hB5⟩ := HOW.out
    have T5 := Lib.hid hT5
    have R5 := Lib.hid hR5
    have B5 := Lib.hid hB5
    have p0 := hT5.c0
    have p1 := hT5.c1
    obtain ⟨X, hX⟩ : ∃ X, spx y l = X := ⟨_, rfl⟩
    obtain ⟨X2, hX2⟩ : ∃ X2, plx y l z = X2 := ⟨_, rfl⟩
    obtain ⟨e0, he0⟩ : ∃ e0, err (vt y l 256 9) = e0 := ⟨_, rfl⟩
    have SP : Hid (∀ W, Below wc.heap.size wc W → Calls Try.prog 12 #[tb y A5 N c5] W (OutS W.heap.size W X e0)) := Lib.hid (fun W hb => by rw [← hX, ← he0]; exact spread_u W y A5 l N c5 HN.out (by omega) (R5.out.below hb))
    have PO : Hid (∀ W, Below wc.heap.size wc W → Calls Try.prog 15 #[tb y A5 N c5, .int .i64 z] W (OutS W.heap.size W X2 e0)) := Lib.hid (fun W hb => by rw [← hX2, ← he0]; exact pos_u W y A5 l N c5 z HN.out (by omega) (R5.out.below hb))
    have OF : Hid (∀ W, Below wc.heap.size wc W → Calls Try.prog 13 #[tb y A N cap] W (OutS W.heap.size W X e0)) := Lib.hid (fun W hb => by rw [← hX, ← he0]; exact of_u W y A l N cap HN.out (by omega) ((R1.out.below B5.out).below hb))
    have NS : Hid (∀ W, Below wc.heap.size wc W → Calls Try.prog 22 #[tb y A5 N c5, tb y A N cap] W fun e w' => e = .returned (.bool true) ∧ Below W.heap.size W w') := Lib.hid (fun W hb => by
      have := rsame_any W y y A5 A l l N c5 N cap HN.out HN.out (by omega) (R5.out.below hb) ((R1.out.below B5.out).below hb)
      rwa [show sam y y l l = true by simp [sam]] at this)
    have hXL : X.length ≤ 512 := by rw [← hX]; exact spx_len y l
    have SA : Hid (∀ W B B' A2 r c A3 r3 c3, W.ownsRow B 3 1 (.slice A2 r c) r (X.map nv) → W.ownsRow B' 3 1 (.slice A3 r3 c3) r3 (X.map nv) → Calls Try.prog 14 #[.slice A2 r c, .slice A3 r3 c3] W fun e w' => e = .returned (.bool true) ∧ Below W.heap.size W w') := Lib.hid (fun W B B' A2 r c A3 r3 c3 h1 h2 => by
      have q1 : X.length = r := by have := h1.1; simpa using this
      have q2 : X.length = r3 := by have := h2.1; simpa using this
      have := same_any W A2 A3 X X r c r3 c3 q1 q2 (by omega) (rn_own h1) (rn_own h2)
      rwa [decide_eq_true rfl] at this)
    have HT1 := Lib.hid (T1.out.below B5.out)
    clear HOW hT5 hR5 hB5 hX hX2 he0 hXL RA RB SB TB T1 c0 c1 ca0 ca1 R1 HK hk
    go_wp2_with (first
      | (go_at_call 12; refine (SP.out wc (Below.refl _ _)).mono ?_; rintro e w6 ⟨A6, r6, c6, rfl, hr6, ho6, hb6⟩; have O6 := Lib.hid ho6; have B6 := Lib.hid hb6; have q6 := T5.out.below hb6; have p2 := q6.c0; have p3 := q6.c1; clear ho6 hb6 q6)
      | (go_at_call 15; refine (PO.out w6 B6.out).mono ?_; rintro e w7 ⟨A7, r7, c7, rfl, hr7, ho7, hb7⟩; have O7 := Lib.hid ho7; have Q6 := Lib.hid (own_below O6.out hb7); have B7 := Lib.hid (below_on B6.out (Nat.le_refl _) hb7); clear ho7 hb7))
    have S6 : Hid (wc.heap.size ≤ w6.heap.size) := Lib.hid B6.out.size
    have L6 : Hid (∀ g, A6 = some ⟨g, 0, none⟩ → g < w6.heap.size) := Lib.hid (fun g e => by subst e; exact own_lt O6.out rfl)
    clear p0 p1 p2 p3 PO O6 B6
    go_loopw [10] (fun u wr => ∃ i : Nat, i ≤ r6 ∧ u = .int .i64 (i : Int) ∧ Hid (∃ xs, wr.ownsRow wc.heap.size 3 1 (.slice A6 r6 c6) r6 xs) ∧ Hid (∃ xs, wr.ownsRow w6.heap.size 3 1 (.slice A7 r7 c7) r7 xs) ∧ Hid (Below wc.heap.size wc wr)) (fun u _ => r6 - (intOf u).toNat)
    case atStart => exact ⟨0, Nat.zero_le _, rfl, Lib.hid ⟨_, Q6.out⟩, Lib.hid ⟨_, O7.out⟩, B7⟩
    case round =>
      obtain ⟨i, hi, rfl, HO, HP, HB⟩ := hrel
      by_cases hlt : i < r6
      · obtain ⟨us, ho⟩ := HO.out
        obtain ⟨vs, hp⟩ := HP.out
        obtain ⟨g, rfl⟩ := own_some (by omega) ho
        have hg1 : g < w6.heap.size := L6.out g rfl
        have hg2 : wc.heap.size ≤ g := own_ge ho rfl
        have hul : us.length = r6 := by have := ho.1; omega
        obtain ⟨u, hu⟩ : ∃ u, us[i]? = some u := ⟨_, List.getElem?_eq_getElem (by omega)⟩
        have cu : wr.cell? ⟨g, i, none⟩ = some u := by rw [ho.cellAt i (by omega)]; exact hu
        have fu := ho.frozenAt i
        have HO2 : Hid (∃ xs, (wr.setCell ⟨g, i, none⟩ (.int .i64 77)).ownsRow wc.heap.size 3 1 (.slice (some ⟨g, 0, none⟩) r6 c6) r6 xs) := Lib.hid ⟨_, (ho.stored i _).1⟩
        have HP2 : Hid (∃ xs, (wr.setCell ⟨g, i, none⟩ (.int .i64 77)).ownsRow w6.heap.size 3 1 (.slice A7 r7 c7) r7 xs) := Lib.hid ⟨vs, own_same hp (fun g' hg' => Below.heap_setCell _ ⟨g, i, none⟩ _ _ (by have := own_ge hp hg'; show g' ≠ g; omega))⟩
        have HB2 : Hid (Below wc.heap.size wc (wr.setCell ⟨g, i, none⟩ (.int .i64 77))) := Lib.hid (HB.out.setCell (p := ⟨g, i, none⟩) hg2 _)
        clear ho hp hu HO HP HB
        go_wp2
        exact ⟨⟨i + 1, by omega, by simp, HO2, HP2, HB2⟩, by simp [intOf]; omega⟩
      · clear HO
        go_wp2
        go_loopw [11] (fun u wr => ∃ i : Nat, i ≤ r7 ∧ u = .int .i64 (i : Int) ∧ Hid (∃ xs, wr.ownsRow w6.heap.size 3 1 (.slice A7 r7 c7) r7 xs) ∧ Hid (Below wc.heap.size wc wr)) (fun u _ => r7 - (intOf u).toNat)
        case atStart => exact ⟨0, Nat.zero_le _, rfl, HP, HB⟩
        case round =>
          obtain ⟨j, hj, rfl, HO, HB⟩ := hrel
          by_cases hlt2 : j < r7
          · obtain ⟨us, ho⟩ := HO.out
            obtain ⟨g, rfl⟩ := own_some (by omega) ho
            have hg2 : w6.heap.size ≤ g := own_ge ho rfl
            have hul : us.length = r7 := by have := ho.1; omega
            obtain ⟨u, hu⟩ : ∃ u, us[j]? = some u := ⟨_, List.getElem?_eq_getElem (by omega)⟩
            have cu : wr.cell? ⟨g, j, none⟩ = some u := by rw [ho.cellAt j (by omega)]; exact hu
            have fu := ho.frozenAt j
            have HO2 : Hid (∃ xs, (wr.setCell ⟨g, j, none⟩ (.int .i64 77)).ownsRow w6.heap.size 3 1 (.slice (some ⟨g, 0, none⟩) r7 c7) r7 xs) := Lib.hid ⟨_, (ho.stored j _).1⟩
            have HB2 : Hid (Below wc.heap.size wc (wr.setCell ⟨g, j, none⟩ (.int .i64 77))) := Lib.hid (HB.out.setCell (p := ⟨g, j, none⟩) (Nat.le_trans S6.out hg2) _)
            clear ho hu HO HB
            go_wp2
            exact ⟨⟨j + 1, by omega, by simp, HO2, HB2⟩, by simp [intOf]; omega⟩
          · have qa := T5.out.below HB.out
            have p0 := qa.c0
            have p1 := qa.c1
            clear qa HO
            go_wp2_with (first
              | (go_at_call 12; refine (SP.out wr HB.out).mono ?_; rintro e w8 ⟨A8, r8, c8, rfl, hr8, ho8, hb8⟩; have O8 := Lib.hid ho8; have B8 := Lib.hid (below_on HB.out (Nat.le_refl _) hb8); have q8 := HT1.out.below B8.out; have n0 := q8.c0; have n1 := q8.c1; clear ho8 hb8 q8)
              | (go_at_call 13; refine (OF.out w8 B8.out).mono ?_; rintro e w9 ⟨A9, r9, c9, rfl, hr9, ho9, hb9⟩; have O9 := Lib.hid ho9; have P8 := Lib.hid (own_below O8.out hb9); have B9 := Lib.hid (below_on B8.out (Nat.le_refl _) hb9); have q9 := HT1.out.below B9.out; have m0 := q9.c0; have m1 := q9.c1; have qb := T5.out.below B9.out; have m2 := qb.c0; have m3 := qb.c1; clear ho9 hb9 q9 qb)
              | (go_at_call 22; refine (NS.out w9 B9.out).mono ?_; rintro e w10 ⟨rfl, hb10⟩; have O10 := Lib.hid (own_below O9.out hb10); have P10 := Lib.hid (own_below P8.out hb10); have B10 := Lib.hid (below_on B9.out (Nat.le_refl _) hb10); clear hb10)
              | (go_at_call 14; refine (SA.out w10 _ _ A8 r8 c8 A9 r9 c9 P10.out O10.out).mono ?_; rintro e w11 ⟨rfl, hb11⟩; have B11 := Lib.hid (below_on B10.out (Nat.le_refl _) hb11); clear hb11)
              | (go_at_call 11; refine (known_any w11).mono ?_; rintro e w12 ⟨rfl, hb12⟩; have B12 := Lib.hid (below_on B0.out (Nat.le_refl _) (below_on B5.out (Nat.le_refl _) (below_on B11.out (Nat.le_refl _) hb12))); clear hb12))
            go_ret
            exact ⟨rfl, B12.out⟩

theorem walk (y : Int) (A : Option Addr) (l : List Int) (cap : Nat) (z : Int) (w : World) (hR : Ri w A l) (_ : ∀ z ∈ l, -9223372036854775808 ≤ z ∧ z ≤ 9223372036854775807) (_ : l.length ≤ cap) (_ : (Lit.int .i64 z).wf = true) :
    Calls Try.prog 10 #[tb y A l.length cap, .int .i64 z] w fun e w' => e = .returned (.bool true) ∧ Below w.heap.size w w' := by
  by_cases h : 300 < l.length
  · exact walk_long y A _ cap z w h
  · exact walk_short y A l _ cap z w rfl (by omega) hR
set_option maxRecDepth 100000 in
theorem lifted (os : Os) (started : os.Started) (H : Type) (enc : TypeId × Value → H) :
    ReturnsInHanded {} Try.checked os 10 .any (Rows.spreadOwnSpec.pre6 enc Try.prog Try.f10 Rows.spreadOwnRow.domain false) (Rows.spreadOwnSpec.post enc Try.prog Try.f10 false true false false) := by
  refine returnsInHanded_of_change_sized (C := Try.checked) ownB started (by kernel_rfl) Try.func10
    (ChangeSpec.witness6 (enc := enc) (C := Try.checked) false ⟨#[], #[.agg #[.int .i64 0, .slice none 0 0], .int .i64 0], []⟩ 8 (by kernel_rfl) (by kernel_rfl) (by kernel_rfl) (by kernel_rfl)) ?_
  intro W base args ds gs before hval0 hW _ hsz0 _
  have hsz : (DataW.weightsEach Try.prog (Try.f10.params.toList ++ Rows.spreadOwnSpec.plain.varTypes Try.prog) (ds ++ gs)).all (· ≤ reachBytes) = true := hsz0
  clear hsz0
  have hval : ∀ (j : Nat) t v, Try.f10.params[j]? = some t → args[j]? = some v → Value.okWide Try.prog W .any base t v := hval0
  have hW' := hW
  obtain ⟨p, q, hA0, hV, rfl, hfz, hnd⟩ := hW
  have hA : DataW.TrodAll enc Try.prog W 0 (fun _ => true) true Try.f10.params.toList args.toList ds p := hA0
  rw [Try.params10] at hA hval hsz
  obtain ⟨v0, vs0, d0, ds0, p0, q0, hargs, rfl, rfl, h0, r0⟩ := trodAll_cons hA
  obtain ⟨v1, vs1, d1, ds1, p1, q1, rfl, rfl, rfl, h1, r1⟩ := trodAll_cons r0
  obtain ⟨rfl, rfl, rfl⟩ := trodAll_nil r1
  obtain rfl : args = #[v0, v1] := by cases args; simp_all
  obtain ⟨rfl, rfl⟩ := trodVars_none hV
  obtain ⟨cs0, rfl, hcs0⟩ := okWide_struct Try.underlying24 (hval 0 24 v0 rfl rfl)
  have k0 := h0
  have lt0 : ∀ x ∈ p0, x.block < W.heap.size := by obtain ⟨m, hm⟩ := k0; exact DataW.trod_lt m _ _ _ hm
  obtain ⟨y0, a0, len0, cap0, l0, rfl, rfl, hc0, ri0, wi0⟩ := open_tab hcs0 h0
  obtain ⟨a1, rfl, rfl, rfl, w1⟩ := open_int Try.underlying3 (hval 1 3 v1 rfl rfl) h1
  clear hA0 hval0
  refine (walk y0 a0 l0 cap0 a1 W ri0 wi0 hc0 w1).mono fun e W' ⟨he, bel⟩ => ?_
  subst he
  exact ⟨_, rfl, _, _, _, [], _, [], hW', trodAll_mk1 (shut_bool Try.underlying4 _), (trodAll_cons_mk (Below.trod laidOut (by kernel_rfl) (of_decide_eq_true (by kernel_rfl)) k0 bel lt0) (trodAll_cons_mk (shut_int Try.underlying3 w1) trodAll_mk0)), rfl, bel.frame _, fun h => by cases h⟩

theorem proved : Rows.SpreadOwnSaid :=
  OpenClaim.holds_of_wide 10 Try.f10 rfl rfl rfl rfl rfl rfl rfl ⟨rfl, rfl, rfl, rfl, rfl⟩ rfl rfl rfl rfl rfl (by kernel_rfl) Try.func10 (by kernel_rfl)
    (of_decide_eq_true (by kernel_rfl)) (by unfold Func.isWrapper; rw [if_neg (by decide +kernel)]; exact ⟨rfl, rfl⟩)
    (fun os started H enc _ => lifted os started H enc)

#print axioms proved

end Go.Proofs.Ytpiebkkaileocaa.spreadOwn
