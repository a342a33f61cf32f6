/-
  Proved: the law TallyAdds returns true for all integers: Add returns the element-wise sum in new memory, or the error, and leaves its arguments alone. No condition.
-/
import Derived.Test.YtbbkmmdlpmpaeaaFrm
import Derived.Test.YtbbkmmdlpmpaeaaSum
namespace Go.Proofs.Ytbbkmmdlpmpaeaa.tallyAdds
open Go.ChangeShapes Go.WideShapes Go.ChangeAt Go.RowKit


set_option maxHeartbeats 1000000 in
theorem walk_a (A : Option Addr) (N c : Nat) (A2 : Option Addr) (M c2 : Nat) (w : World) (h : 400 < N) :
    Calls Try.prog 8 #[.slice A N c, .slice A2 M c2] w fun e w' => e = .returned (.bool true) ∧ Below w.heap.size w w' := by
  have hd : decide ((400 : Int) < (N : Int)) = true := decide_eq_true (by omega)
  go_enter Try.func8, Try.ntmps8
  go_wp2_with fail
  refine (works_any _).mono ?_
  rintro e wk ⟨rfl, hbk⟩
  have BK := Lib.hid hbk
  clear hbk
  go_wp2
  go_ret
  exact ⟨rfl, BK.out⟩


set_option maxHeartbeats 1000000 in
theorem walk_a2 (A : Option Addr) (N c : Nat) (A2 : Option Addr) (M c2 : Nat) (w : World) (h0 : N ≤ 400) (h : 400 < M) :
    Calls Try.prog 8 #[.slice A N c, .slice A2 M c2] w fun e w' => e = .returned (.bool true) ∧ Below w.heap.size w w' := by
  have hd0 : decide ((400 : Int) < (N : Int)) = false := decide_eq_false (by omega)
  have hd : decide ((400 : Int) < (M : Int)) = true := decide_eq_true (by omega)
  go_enter Try.func8, Try.ntmps8
  go_wp2_with fail
  refine (works_any _).mono ?_
  rintro e wk ⟨rfl, hbk⟩
  have BK := Lib.hid hbk
  clear hbk
  go_wp2
  go_ret
  exact ⟨rfl, BK.out⟩


theorem iv_one (l : List Int) : ∀ u ∈ l.map iv, u.oneCell' = true := by
  intro v hv
  obtain ⟨b, _, rfl⟩ := List.mem_map.1 hv
  rfl


set_option maxRecDepth 100000 in
set_option maxHeartbeats 2000000 in
theorem walk_some (A : Option Addr) (l : List Int) (N c : Nat) (A2 : Option Addr) (m : List Int) (M c2 : Nat) (s : List Nat) (w : World) (hN4 : N ≤ 400) (hM4 : M ≤ 400) (hN : l.length = N) (hM : m.length = M) (hR : Ri w A l) (hR2 : Ri w A2 m) (hs : asum l m = some s) :
    Calls Try.prog 8 #[.slice A N c, .slice A2 M c2] w fun e w' => e = .returned (.bool true) ∧ Below w.heap.size w w' := by
  have hd0 : decide ((400 : Int) < (N : Int)) = false := decide_eq_false (by omega)
  have hd : decide ((400 : Int) < (M : Int)) = false := decide_eq_false (by omega)
  have HN := Lib.hid hN
  have HM := Lib.hid hM
  have HR := Lib.hid hR
  have HR2 := Lib.hid hR2
  have HS := Lib.hid hs
  have O0 : Hid ((w.alloc (.cells #[] 3)).ownsRow w.heap.size 3 1 (.slice (some ⟨w.heap.size, 0, none⟩) 0 0) 0 []) := Lib.hid (own_empty w)
  have B0 : Hid (Below w.heap.size w (w.alloc (.cells #[] 3))) := Lib.hid ((Below.refl _ w).alloc (Nat.le_refl _) _)
  have R0 : Hid (Ri (w.alloc (.cells #[] 3)) A l) := Lib.hid (hR.below B0.out)
  clear hN hM hR hR2 hs
  go_enter Try.func8, Try.ntmps8
  go_wp2_with (first
    | (at_builtin; refine wpList_append_vals Try.underlying26 int_info rfl rfl _ _ rfl w.heap.size (.slice (some ⟨w.heap.size, 0, none⟩) 0 0) 0 [] rfl O0.out A (l.map iv) (iv_one l) N c (by rw [List.length_map]; exact HN.out) rfl R0.out (by omega) (by omega) B0.out.size ?_; intro v1 w1 ho hg he; rw [Nat.zero_add, List.nil_append] at ho; obtain ⟨A1, c1, rfl, hc1⟩ := own_form ho; have B1 := Lib.hid (B0.out.grown hg B0.out.size (fun j ej => by cases ej; exact Nat.le_refl _)); have O1 := Lib.hid ho; clear ho hg he; have OE : Hid ((w1.alloc (.cells #[] 3)).ownsRow w1.heap.size 3 1 (.slice (some ⟨w1.heap.size, 0, none⟩) 0 0) 0 []) := Lib.hid (own_empty w1); have BE : Hid (Below w1.heap.size w1 (w1.alloc (.cells #[] 3))) := Lib.hid ((Below.refl _ w1).alloc (Nat.le_refl _) _); have RE : Hid (Ri (w1.alloc (.cells #[] 3)) A2 m) := Lib.hid (HR2.out.below (below_on B1.out (Nat.le_refl _) BE.out)); clear O0 B0 R0)
    | (at_builtin; refine wpList_append_vals Try.underlying26 int_info rfl rfl _ _ rfl w1.heap.size (.slice (some ⟨w1.heap.size, 0, none⟩) 0 0) 0 [] rfl OE.out A2 (m.map iv) (iv_one m) M c2 (by rw [List.length_map]; exact HM.out) rfl RE.out (by omega) (by omega) BE.out.size ?_; intro v2 w2 ho hg he; rw [Nat.zero_add, List.nil_append] at ho; obtain ⟨A2', c2', rfl, hc2⟩ := own_form ho; have B2 := Lib.hid (BE.out.grown hg BE.out.size (fun j ej => by cases ej; exact Nat.le_refl _)); have O2 := Lib.hid ho; clear ho hg he))
  have BW2 : Hid (Below w.heap.size w w2) := Lib.hid (below_on B1.out (Nat.le_refl _) B2.out)
  have O1' := Lib.hid (own_below O1.out B2.out)
  have RC : Hid (Ri w2 A1 l) := Lib.hid (Rv.of_own O1'.out)
  have RD : Hid (Ri w2 A2' m) := Lib.hid (Rv.of_own O2.out)
  clear O1 O1' O2 B1 B2 OE BE RE
  have HA := Lib.hid (add_all w2 A1 l N c1 HN.out hc1 RC.out A2' m M c2' HM.out hc2 RD.out)
  rw [HS.out] at HA
  refine HA.out.mono ?_
  rintro e w3 ⟨⟨A5, c5, rfl, hl5, ho5⟩, hb3⟩
  have O5 := Lib.hid ho5
  have B3 := Lib.hid hb3
  have HB := Lib.hid (rsum_all w3 A l N c HN.out (HR.out.below (below_on BW2.out (Nat.le_refl _) B3.out)) A2 m M c2 HM.out (HR2.out.below (below_on BW2.out (Nat.le_refl _) B3.out)))
  rw [HS.out] at HB
  have HLN : Hid ((s.map (fun n : Nat => (n : Int))).length = s.length) := Lib.hid (by rw [List.length_map])
  obtain ⟨n5, hn5⟩ : ∃ n5, s.length = n5 := ⟨_, rfl⟩
  have H5 := Lib.hid hn5
  rw [hn5] at hl5 O5 HLN
  simp only [hn5]
  clear ho5 hb3 HA hn5
  go_wp2_with fail
  refine HB.out.mono ?_
  rintro e w4 ⟨⟨A6, c6, rfl, hl6, ho6⟩, hb4⟩
  rw [H5.out] at ho6
  have R5 : Hid (Ri w4 A5 (s.map (fun n : Nat => (n : Int)))) := Lib.hid (by show Rv _ _ _; rw [ri_nats]; exact (Rv.of_own O5.out).below hb4)
  have R6 : Hid (Ri w4 A6 (s.map (fun n : Nat => (n : Int)))) := Lib.hid (by show Rv _ _ _; rw [ri_nats]; exact Rv.of_own ho6)
  have O5' := Lib.hid (own_below O5.out hb4)
  have B4 := Lib.hid (below_on B3.out (Nat.le_refl _) hb4)
  simp only [H5.out]
  clear ho6 hb4 HB hl6 O5 B3
  go_wp2_with fail
  refine (same_any w4 A5 _ n5 c5 HLN.out (by omega) R5.out A6 _ n5 c6 HLN.out R6.out).mono ?_
  rw [show decide (s.map (fun n : Nat => (n : Int)) = s.map (fun n : Nat => (n : Int))) = true from decide_eq_true rfl]
  rintro e w5 ⟨rfl, hw5⟩
  have B5 : Hid (Below w2.heap.size w2 w5) := Lib.hid (by obtain ⟨d, rfl⟩ := hw5; exact below_drewN' B4.out d)
  have O7 : Hid (w5.ownsRow w2.heap.size 3 1 (.slice A5 n5 c5) n5 (s.map nv)) := Lib.hid (by obtain ⟨d, rfl⟩ := hw5; exact O5'.out)
  clear hw5 B4 O5' R5 R6
  go_wp2_with (first
    | (go_at_call 19; refine (num_any _ _).mono ?_; rintro e w' ⟨rfl, rfl⟩)
    | (go_at_call 23; refine (is_any _ _ _ _).mono ?_; rintro e w' ⟨rfl, rfl⟩))
  go_loopw [12] (fun p wr => ∃ (i : Nat) (xs : List Value), i ≤ n5 ∧ p = .int .i64 (i : Int) ∧ Hid (wr.ownsRow w2.heap.size 3 1 (.slice A5 n5 c5) n5 xs) ∧ Hid (Below w2.heap.size w2 wr)) (fun p _ => n5 - (intOf p).toNat)
  case atStart => exact ⟨0, _, Nat.zero_le _, rfl, O7, B5⟩
  case round =>
    obtain ⟨i, xs, hi, rfl, HO, HBW⟩ := hrel
    by_cases hlt : i < n5
    · obtain ⟨g, rfl⟩ := own_some (by omega) HO.out
      have hxl := HO.out.1
      obtain ⟨u, hu⟩ : ∃ u, xs[i]? = some u := ⟨_, List.getElem?_eq_getElem (by omega)⟩
      have cc : wr.cell? ⟨g, i, none⟩ = some u := by rw [HO.out.cellAt i (by omega), hu]
      have ff := HO.out.frozenAt i
      have GE : Hid (w2.heap.size ≤ g) := Lib.hid (own_ge HO.out rfl)
      clear hxl hu
      go_wp2
      exact ⟨⟨i + 1, _, by omega, by simp, Lib.hid (HO.out.stored i _).1, Lib.hid (HBW.out.setCell (p := ⟨g, i, none⟩) GE.out _)⟩, by simp [intOf]; omega⟩
    · have BX : Hid (Below w.heap.size w wr) := Lib.hid (below_on BW2.out (Nat.le_refl _) HBW.out)
      have X1 := Lib.hid (same_any wr A l N c HN.out (by omega) (HR.out.below BX.out) A1 l N c1 HN.out (RC.out.below HBW.out))
      rw [show decide (l = l) = true from decide_eq_true rfl] at X1
      go_wp2_with fail
      refine X1.out.mono ?_
      rintro e w7 ⟨rfl, hw7⟩
      have B7 : Hid (Below wr.heap.size wr w7) := Lib.hid (by obtain ⟨d, rfl⟩ := hw7; exact below_drewN' (Below.refl _ _) d)
      have B8 : Hid (Below w2.heap.size w2 w7) := Lib.hid (below_on HBW.out (Nat.le_refl _) B7.out)
      have BY : Hid (Below w.heap.size w w7) := Lib.hid (below_on BW2.out (Nat.le_refl _) B8.out)
      have X2 := Lib.hid (same_any w7 A2 m M c2 HM.out (by omega) (HR2.out.below BY.out) A2' m M c2' HM.out (RD.out.below B8.out))
      rw [show decide (m = m) = true from decide_eq_true rfl] at X2
      clear hw7
      go_wp2_with fail
      refine X2.out.mono ?_
      rintro e w8 ⟨rfl, hw8⟩
      have BZ : Hid (Below w.heap.size w w8) := Lib.hid (by obtain ⟨d, rfl⟩ := hw8; exact below_drewN' BY.out d)
      clear hw8
      go_wp2_with (first
    | (go_at_call 13; refine (works_any _).mono ?_; rintro e wk ⟨rfl, hbk⟩; have BK := Lib.hid (below_on BZ.out (Nat.le_refl _) hbk); clear hbk))
      go_ret
      exact ⟨rfl, BK.out⟩


set_option maxRecDepth 100000 in
set_option maxHeartbeats 2000000 in
theorem walk_none (A : Option Addr) (l : List Int) (N c : Nat) (A2 : Option Addr) (m : List Int) (M c2 : Nat) (w : World) (hN4 : N ≤ 400) (hM4 : M ≤ 400) (hN : l.length = N) (hM : m.length = M) (hR : Ri w A l) (hR2 : Ri w A2 m) (hs : asum l m = none) :
    Calls Try.prog 8 #[.slice A N c, .slice A2 M c2] w fun e w' => e = .returned (.bool true) ∧ Below w.heap.size w w' := by
  have hd0 : decide ((400 : Int) < (N : Int)) = false := decide_eq_false (by omega)
  have hd : decide ((400 : Int) < (M : Int)) = false := decide_eq_false (by omega)
  have HN := Lib.hid hN
  have HM := Lib.hid hM
  have HR := Lib.hid hR
  have HR2 := Lib.hid hR2
  have HS := Lib.hid hs
  have O0 : Hid ((w.alloc (.cells #[] 3)).ownsRow w.heap.size 3 1 (.slice (some ⟨w.heap.size, 0, none⟩) 0 0) 0 []) := Lib.hid (own_empty w)
  have B0 : Hid (Below w.heap.size w (w.alloc (.cells #[] 3))) := Lib.hid ((Below.refl _ w).alloc (Nat.le_refl _) _)
  have R0 : Hid (Ri (w.alloc (.cells #[] 3)) A l) := Lib.hid (hR.below B0.out)
  clear hN hM hR hR2 hs
  go_enter Try.func8, Try.ntmps8
  go_wp2_with (first
    | (at_builtin; refine wpList_append_vals Try.underlying26 int_info rfl rfl _ _ rfl w.heap.size (.slice (some ⟨w.heap.size, 0, none⟩) 0 0) 0 [] rfl O0.out A (l.map iv) (iv_one l) N c (by rw [List.length_map]; exact HN.out) rfl R0.out (by omega) (by omega) B0.out.size ?_; intro v1 w1 ho hg he; rw [Nat.zero_add, List.nil_append] at ho; obtain ⟨A1, c1, rfl, hc1⟩ := own_form ho; have B1 := Lib.hid (B0.out.grown hg B0.out.size (fun j ej => by cases ej; exact Nat.le_refl _)); have O1 := Lib.hid ho; clear ho hg he; have OE : Hid ((w1.alloc (.cells #[] 3)).ownsRow w1.heap.size 3 1 (.slice (some ⟨w1.heap.size, 0, none⟩) 0 0) 0 []) := Lib.hid (own_empty w1); have BE : Hid (Below w1.heap.size w1 (w1.alloc (.cells #[] 3))) := Lib.hid ((Below.refl _ w1).alloc (Nat.le_refl _) _); have RE : Hid (Ri (w1.alloc (.cells #[] 3)) A2 m) := Lib.hid (HR2.out.below (below_on B1.out (Nat.le_refl _) BE.out)); clear O0 B0 R0)
    | (at_builtin; refine wpList_append_vals Try.underlying26 int_info rfl rfl _ _ rfl w1.heap.size (.slice (some ⟨w1.heap.size, 0, none⟩) 0 0) 0 [] rfl OE.out A2 (m.map iv) (iv_one m) M c2 (by rw [List.length_map]; exact HM.out) rfl RE.out (by omega) (by omega) BE.out.size ?_; intro v2 w2 ho hg he; rw [Nat.zero_add, List.nil_append] at ho; obtain ⟨A2', c2', rfl, hc2⟩ := own_form ho; have B2 := Lib.hid (BE.out.grown hg BE.out.size (fun j ej => by cases ej; exact Nat.le_refl _)); have O2 := Lib.hid ho; clear ho hg he))
  have BW2 : Hid (Below w.heap.size w w2) := Lib.hid (below_on B1.out (Nat.le_refl _) B2.out)
  have O1' := Lib.hid (own_below O1.out B2.out)
  have RC : Hid (Ri w2 A1 l) := Lib.hid (Rv.of_own O1'.out)
  have RD : Hid (Ri w2 A2' m) := Lib.hid (Rv.of_own O2.out)
  clear O1 O1' O2 B1 B2 OE BE RE
  have HA := Lib.hid (add_all w2 A1 l N c1 HN.out hc1 RC.out A2' m M c2' HM.out hc2 RD.out)
  rw [HS.out] at HA
  refine HA.out.mono ?_
  rintro e w3 ⟨rfl, hb3⟩
  have B3 := Lib.hid hb3
  have HB := Lib.hid (rsum_all w3 A l N c HN.out (HR.out.below (below_on BW2.out (Nat.le_refl _) B3.out)) A2 m M c2 HM.out (HR2.out.below (below_on BW2.out (Nat.le_refl _) B3.out)))
  rw [HS.out] at HB
  clear hb3 HA
  go_wp2_with fail
  refine HB.out.mono ?_
  rintro e w4 ⟨rfl, hb4⟩
  have B4 := Lib.hid (below_on B3.out (Nat.le_refl _) hb4)
  clear hb4 HB B3
  go_wp2_with fail
  refine (same_any w4 none [] 0 0 rfl (by omega) (Rv.nil _ _) none [] 0 0 rfl (Rv.nil _ _)).mono ?_
  rw [show decide (([] : List Int) = []) = true from decide_eq_true rfl]
  rintro e w5 ⟨rfl, hw5⟩
  have B5 : Hid (Below w2.heap.size w2 w5) := Lib.hid (by obtain ⟨d, rfl⟩ := hw5; exact below_drewN' B4.out d)
  clear hw5 B4
  go_wp2_with (first
    | (go_at_call 19; refine (num_any _ _).mono ?_; rintro e w' ⟨rfl, rfl⟩)
    | (go_at_call 23; refine (is_any _ _ _ _).mono ?_; rintro e w' ⟨rfl, rfl⟩))
  go_loop [12] (fun p => p = .int .i64 0) (fun _ => 0)
  case atStart => rfl
  case round =>
    subst hrel
    have BX : Hid (Below w.heap.size w w') := Lib.hid (below_on BW2.out (Nat.le_refl _) B5.out)
    have X1 := Lib.hid (same_any w' A l N c HN.out (by omega) (HR.out.below BX.out) A1 l N c1 HN.out (RC.out.below B5.out))
    rw [show decide (l = l) = true from decide_eq_true rfl] at X1
    go_wp2_with fail
    refine X1.out.mono ?_
    rintro e w7 ⟨rfl, hw7⟩
    have B7 : Hid (Below w'.heap.size w' w7) := Lib.hid (by obtain ⟨d, rfl⟩ := hw7; exact below_drewN' (Below.refl _ _) d)
    have B8 : Hid (Below w2.heap.size w2 w7) := Lib.hid (below_on B5.out (Nat.le_refl _) B7.out)
    have BY : Hid (Below w.heap.size w w7) := Lib.hid (below_on BW2.out (Nat.le_refl _) B8.out)
    have X2 := Lib.hid (same_any w7 A2 m M c2 HM.out (by omega) (HR2.out.below BY.out) A2' m M c2' HM.out (RD.out.below B8.out))
    rw [show decide (m = m) = true from decide_eq_true rfl] at X2
    clear hw7
    go_wp2_with fail
    refine X2.out.mono ?_
    rintro e w8 ⟨rfl, hw8⟩
    have BZ : Hid (Below w.heap.size w w8) := Lib.hid (by obtain ⟨d, rfl⟩ := hw8; exact below_drewN' BY.out d)
    clear hw8
    go_wp2_with (first
    | (go_at_call 13; refine (works_any _).mono ?_; rintro e wk ⟨rfl, hbk⟩; have BK := Lib.hid (below_on BZ.out (Nat.le_refl _) hbk); clear hbk))
    go_ret
    exact ⟨rfl, BK.out⟩


theorem walk (A : Option Addr) (l : List Int) (c : Nat) (A2 : Option Addr) (m : List Int) (c2 : Nat) (w : World) (hR : Ri w A l) (_ : ∀ z ∈ l, -9223372036854775808 ≤ z ∧ z ≤ 9223372036854775807) (_ : l.length ≤ c) (hR2 : Ri w A2 m) (_ : ∀ z ∈ m, -9223372036854775808 ≤ z ∧ z ≤ 9223372036854775807) (_ : m.length ≤ c2) :
    Calls Try.prog 8 #[.slice A l.length c, .slice A2 m.length c2] w fun e w' => e = .returned (.bool true) ∧ Below w.heap.size w w' := by
  by_cases h : 400 < l.length
  · exact walk_a A _ c A2 _ c2 w h
  · by_cases h2 : 400 < m.length
    · exact walk_a2 A _ c A2 _ c2 w (by omega) h2
    · cases hs : asum l m with
      | some s => exact walk_some A l _ c A2 m _ c2 s w (by omega) (by omega) rfl rfl hR hR2 hs
      | none => exact walk_none A l _ c A2 m _ c2 w (by omega) (by omega) rfl rfl hR hR2 hs

set_option maxRecDepth 100000 in
theorem lifted (os : Os) (started : os.Started) (H : Type) (enc : TypeId × Value → H) :
    ReturnsInHanded {} Try.checked os 8 .any (Rows.tallyAddsSpec.pre6 enc Try.prog Try.f8 Rows.tallyAddsRow.domain false) (Rows.tallyAddsSpec.post enc Try.prog Try.f8 false true false false) := by
  refine returnsInHanded_of_change_sized (C := Try.checked) ownB started (by kernel_rfl) Try.func8
    (ChangeSpec.witness6 (enc := enc) (C := Try.checked) false ⟨#[], #[.slice none 0 0, .slice none 0 0], []⟩ 8 (by kernel_rfl) (by kernel_rfl) (by kernel_rfl) (by kernel_rfl)) ?_
  intro W base args ds gs before hval0 hW _ hsz0 _
  have hsz : (DataW.weightsEach Try.prog (Try.f8.params.toList ++ Rows.tallyAddsSpec.plain.varTypes Try.prog) (ds ++ gs)).all (· ≤ reachBytes) = true := hsz0
  clear hsz0
  have hval : ∀ (j : Nat) t v, Try.f8.params[j]? = some t → args[j]? = some v → Value.okWide Try.prog W .any base t v := hval0
  have hW' := hW
  obtain ⟨p, q, hA0, hV, rfl, hfz, hnd⟩ := hW
  have hA : DataW.TrodAll enc Try.prog W 0 (fun _ => true) true Try.f8.params.toList args.toList ds p := hA0
  rw [Try.params8] at hA hval hsz
  obtain ⟨v0, vs0, d0, ds0, p0, q0, hargs, rfl, rfl, h0, r0⟩ := trodAll_cons hA
  obtain ⟨v1, vs1, d1, ds1, p1, q1, rfl, rfl, rfl, h1, r1⟩ := trodAll_cons r0
  obtain ⟨rfl, rfl, rfl⟩ := trodAll_nil r1
  obtain rfl : args = #[v0, v1] := by cases args; simp_all
  obtain ⟨rfl, rfl⟩ := trodVars_none hV
  obtain ⟨a0, len0, cap0, rfl⟩ := okWide_slice Try.underlying26 (hval 0 26 v0 rfl rfl)
  have k0 := h0
  have lt0 : ∀ x ∈ p0, x.block < W.heap.size := by obtain ⟨m, hm⟩ := k0; exact DataW.trod_lt m _ _ _ hm
  obtain ⟨l0, rfl, hc0, ri0, wi0⟩ := open_intl h0
  obtain ⟨a1, len1, cap1, rfl⟩ := okWide_slice Try.underlying26 (hval 1 26 v1 rfl rfl)
  have k1 := h1
  have lt1 : ∀ x ∈ p1, x.block < W.heap.size := by obtain ⟨m, hm⟩ := k1; exact DataW.trod_lt m _ _ _ hm
  obtain ⟨l1, rfl, hc1, ri1, wi1⟩ := open_intl h1
  clear hA0 hval0
  refine (walk a0 l0 cap0 a1 l1 cap1 W ri0 wi0 hc0 ri1 wi1 hc1).mono fun e W' ⟨he, bel⟩ => ?_
  subst he
  exact ⟨_, rfl, _, _, _, [], _, [], hW', trodAll_mk1 (shut_bool Try.underlying4 _), (trodAll_cons_mk (Below.trod laidOut (by kernel_rfl) (of_decide_eq_true (by kernel_rfl)) k0 bel lt0) (trodAll_cons_mk (Below.trod laidOut (by kernel_rfl) (of_decide_eq_true (by kernel_rfl)) k1 bel lt1) trodAll_mk0)), rfl, bel.frame _, fun h => by cases h⟩

theorem proved : Rows.TallyAddsSaid :=
  OpenClaim.holds_of_wide 8 Try.f8 rfl rfl rfl rfl rfl rfl rfl ⟨rfl, rfl, rfl, rfl, rfl⟩ rfl rfl rfl rfl rfl (by kernel_rfl) Try.func8 (by kernel_rfl)
    (of_decide_eq_true (by kernel_rfl)) (by unfold Func.isWrapper; rw [if_neg (by decide +kernel)]; exact ⟨rfl, rfl⟩)
    (fun os started H enc _ => lifted os started H enc)

#print axioms proved

end Go.Proofs.Ytbbkmmdlpmpaeaa.tallyAdds
