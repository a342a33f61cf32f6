/-
  Proved: the law DescCuts returns true for all tables and all lengths: a description that is cut at a byte gives ErrShort. No condition.
-/
import Derived.BigQuiet
import Derived.Deep.QuietTactic
import Derived.Test.YtpjbjbohbdlciaaFrm
namespace Go.Proofs.Ytpjbjbohbdlciaa.descCuts
open Go.ChangeShapes Go.WideShapes Go.ChangeAt Go.RowKit

theorem elem_u8 : Try.prog.elem 26 = 5 := by kernel_rfl
theorem und_u8 : Try.prog.underlying 26 = some (.slice (Try.prog.elem 26)) := by rw [elem_u8]; exact Try.underlying26
theorem size_u8 (w : World) : (sizeOf 5).run Try.prog w = .ok 1 w := by
  obtain ⟨i0, hi, hz0, hz1, hz2⟩ := info_parts byte_info
  simp [sizeOf, typeInfo, hi, hz1]
theorem bslice_hi (A : Option Addr) (N c n : Nat) (h : n ≤ c) (W : World) : (Instr.slice 26 (.slice A N c) none (some (.int .i64 (n : Int))) none).run Try.prog W = .ok (.slice A n c) W := by
  rw [run_slice_h _ _ _ _ _ und_u8 _ _ (by omega) (by omega), elem_u8, size_u8]
  simp [Result.andThen, sliced]
  intro _
  cases A with
  | none => rfl
  | some a => simp [Addr.add]

set_option maxRecDepth 100000 in
set_option maxHeartbeats 1000000 in
theorem walk_long (y : Int) (A : Option Addr) (N cap : Nat) (at0 : Int) (w : World) (h : 300 < N) :
    Calls Try.prog 7 #[tb y A N cap, .int .i64 at0] w fun e w' => e = .returned (.bool true) ∧ Below w.heap.size w w' := by
  have hd : decide ((300 : Int) < (N : Int)) = true := decide_eq_true (by omega)
  have b1 := below_new w (.cells #[.int .i64 y, .slice A N cap] 24)
  have t1 := Tb.new w y A N cap
  obtain ⟨w1, hw1⟩ : ∃ w1, w.alloc (.cells #[.int .i64 y, .slice A N cap] 24) = w1 := ⟨_, rfl⟩
  rw [hw1] at b1 t1
  have c0 := t1.c0
  have c1 := t1.c1
  have B0 := Lib.hid b1
  clear b1 t1
  go_enter Try.func7, Try.ntmps7
  go_wp2_with (go_at_call 12; refine (known_any _).mono ?_; rintro e w9 ⟨rfl, hb9⟩; have B9 := Lib.hid (below_on B0.out (Nat.le_refl _) hb9); clear hb9)
  go_ret
  exact ⟨rfl, B9.out⟩

set_option maxRecDepth 100000 in
set_option maxHeartbeats 1000000 in
theorem walk_bad (y : Int) (A : Option Addr) (l : List Int) (N cap : Nat) (at0 : Int) (w : World) (hN : l.length = N) (h : N ≤ 300) (hv : may y l = false) (hR : Ri w A l) :
    Calls Try.prog 7 #[tb y A N cap, .int .i64 at0] w fun e w' => e = .returned (.bool true) ∧ Below w.heap.size w w' := by
  have hd : decide ((300 : Int) < (N : Int)) = false := decide_eq_false (by omega)
  have b1 := below_new w (.cells #[.int .i64 y, .slice A N cap] 24)
  have t1 := Tb.new w y A N cap
  obtain ⟨w1, hw1⟩ : ∃ w1, w.alloc (.cells #[.int .i64 y, .slice A N cap] 24) = w1 := ⟨_, rfl⟩
  rw [hw1] at b1 t1
  have c0 := t1.c0
  have c1 := t1.c1
  have MY := Lib.hid (rmay_any w1 y A l N cap hN (by omega) (hR.below b1) false hv)
  have B0 := Lib.hid b1
  have T1 := Lib.hid t1
  clear b1 t1 hR hN hv
  go_enter Try.func7, Try.ntmps7
  go_wp2_with (first
    | (go_at_call 14; refine MY.out.mono ?_; rintro e w2 ⟨rfl, hb2⟩; have B2 := Lib.hid (below_on B0.out (Nat.le_refl _) hb2); have B12 := Lib.hid hb2; have t2 := T1.out.below hb2; have d0 := t2.c0; have d1 := t2.c1; clear hb2 t2)
    | (go_at_call 12; refine (known_any _).mono ?_; rintro e w9 ⟨rfl, hb9⟩; have B9 := Lib.hid (below_on B2.out (Nat.le_refl _) hb9); clear hb9))
  go_ret
  exact ⟨rfl, B9.out⟩

set_option maxRecDepth 100000 in
set_option maxHeartbeats 1000000 in
theorem walk_ok (y : Nat) (A : Option Addr) (l : List Int) (N cap : Nat) (at0 : Int) (w : World) (hN : l.length = N) (hc : N ≤ cap) (hv : Vt y l) (h1 : 1 ≤ y) (h : N ≤ 300) (hR : Ri w A l) :
    Calls Try.prog 7 #[tb (y : Int) A N cap, .int .i64 at0] w fun e w' => e = .returned (.bool true) ∧ Below w.heap.size w w' := by
  have hN2 : N ≤ 256 := by rw [← hN]; exact hv.len
  have hy9 := hv.log
  have hd : decide ((300 : Int) < (N : Int)) = false := decide_eq_false (by omega)
  have b1 := below_new w (.cells #[.int .i64 (y : Int), .slice A N cap] 24)
  have t1 := Tb.new w (y : Int) A N cap
  obtain ⟨w1, hw1⟩ : ∃ w1, w.alloc (.cells #[.int .i64 (y : Int), .slice A N cap] 24) = w1 := ⟨_, rfl⟩
  rw [hw1] at b1 t1
  have c0 := t1.c0
  have c1 := t1.c1
  have hR1 := hR.below b1
  have MY := Lib.hid (rmay_any w1 (y : Int) A l N cap hN (by omega) hR1 true (may_iff.2 ⟨y, rfl, h1, hv⟩))
  have EN : Hid (∀ W, Below w1.heap.size w1 W → Calls Try.prog 13 #[tb (y : Int) A N cap] W (EncP W (Bt.pack (descr y l)) 0)) := Lib.hid (fun W hb => encode_ok W y A l N cap hN hc (hR1.below hb) hv h1)
  have hdl := descr_len hv
  have hpl := Bt.pack_len (descr y l)
  have hd4 : 4 ≤ (descr y l).length := by rw [descr, List.length_append, Bt.bitsOf_len]; omega
  obtain ⟨X0, hX0⟩ : ∃ X0, Bt.pack (descr y l) = X0 := ⟨_, rfl⟩
  rw [hX0] at EN hpl
  obtain ⟨n0, hn0⟩ : ∃ n0, X0.length = n0 := ⟨_, rfl⟩
  rw [hn0] at hpl
  have hn1 : 1 ≤ n0 := by omega
  have hn3 : n0 ≤ 400 := by omega
  have HNX := Lib.hid hn0
  have B0 := Lib.hid b1
  have T1 := Lib.hid t1
  obtain ⟨U, j, hU, hU6, hj, hjn⟩ := uint_mod at0 n0 hn1
  have hz0 : ((n0 : Int) == 0) = false := by simp; omega
  have RD : Hid (∀ W A3 c3, Bt.Rd W A3 X0 → Calls Try.prog 25 #[.slice A3 j c3, .int .i64 256, .int .i64 9] W fun q w' => q = .returned (.int .i64 3) ∧ Below W.heap.size W w') := Lib.hid (fun W A3 c3 hr => by
    have hcut := dcd_cut h1 hv j (by rw [hX0, hn0]; exact hjn)
    rw [hX0] at hcut
    have h2 := Bt.Rv.take hr j
    rw [← List.map_take] at h2
    exact reads_any W A3 (X0.take j) j c3 (by rw [List.length_take]; omega) (by omega) h2 256 9 3 (by rw [hcut]))
  clear b1 t1 hR hR1 hN hv hX0 hn0 hpl hdl hd4
  go_enter Try.func7, Try.ntmps7
  go_wp2_with (first
    | (go_at_call 14; refine MY.out.mono ?_; rintro e w2 ⟨rfl, hb2⟩; have B2 := Lib.hid (below_on B0.out (Nat.le_refl _) hb2); have B12 := Lib.hid hb2; have t2 := T1.out.below hb2; have d0 := t2.c0; have d1 := t2.c1; clear hb2 t2)
    | (go_at_call 13; refine (EN.out w2 B12.out).mono ?_; rintro e w3 ⟨A3, n3, c3, rfl, hb3⟩; obtain rfl : n0 = n3 := (hb3.1.trans HNX.out).symm; have Y3 := Lib.hid hb3; have B13 := Lib.hid (below_on B12.out (Nat.le_refl _) hb3.2.2); have B3 := Lib.hid (below_on B2.out (Nat.le_refl _) hb3.2.2); have t3 := T1.out.below B13.out; have e0 := t3.c0; have e1 := t3.c1; have hle3 := own_cap Y3.out.2.1; have SL := bslice_hi A3 n0 c3 j (by omega); clear hb3 t3 hle3)
    | (go_at_call 25; (with_reducible refine (RD.out _ _ _ (bys_rd Y3.out)).mono ?_); rintro e w4 ⟨rfl, hb4⟩; have B4 := Lib.hid (below_on B3.out (Nat.le_refl _) hb4); clear hb4)
    | (go_at_call 12; refine (known_any _).mono ?_; rintro e w9 ⟨rfl, hb9⟩; have B9 := Lib.hid (below_on B4.out (Nat.le_refl _) hb9); clear hb9))
  go_ret
  exact ⟨rfl, B9.out⟩

theorem walk (y : Int) (A : Option Addr) (l : List Int) (cap : Nat) (at0 : Int) (w : World) (hR : Ri w A l) (_ : ∀ z ∈ l, -9223372036854775808 ≤ z ∧ z ≤ 9223372036854775807) (hc : l.length ≤ cap) (_ : (Lit.int IntKind.i64 at0).wf = true) :
    Calls Try.prog 7 #[tb y A l.length cap, .int .i64 at0] w fun e w' => e = .returned (.bool true) ∧ Below w.heap.size w w' := by
  by_cases h : 300 < l.length
  · exact walk_long y A _ cap at0 w h
  · cases hv : may y l with
    | false => exact walk_bad y A l _ cap at0 w rfl (by omega) hv hR
    | true =>
      obtain ⟨n, rfl, h1, hv2⟩ := may_iff.1 hv
      exact walk_ok n A l _ cap at0 w rfl hc hv2 h1 (by omega) hR
set_option maxRecDepth 100000 in
theorem lifted (os : Os) (started : os.Started) (H : Type) (enc : TypeId × Value → H) :
    ReturnsInHanded {} Try.checked os 7 .any (Rows.descCutsSpec.pre6 enc Try.prog Try.f7 Rows.descCutsRow.domain false) (Rows.descCutsSpec.post enc Try.prog Try.f7 false true false false) := by
  refine returnsInHanded_of_change_sized (C := Try.checked) ownB started (by kernel_rfl) Try.func7
    (ChangeSpec.witness6 (enc := enc) (C := Try.checked) false ⟨#[], #[.agg #[.int .i64 0, .slice none 0 0], .int .i64 0], []⟩ 8 (by kernel_rfl) (by kernel_rfl) (by kernel_rfl) (by kernel_rfl)) ?_
  intro W base args ds gs before hval0 hW _ hsz0 _
  have hsz : (DataW.weightsEach Try.prog (Try.f7.params.toList ++ Rows.descCutsSpec.plain.varTypes Try.prog) (ds ++ gs)).all (· ≤ reachBytes) = true := hsz0
  clear hsz0
  have hval : ∀ (j : Nat) t v, Try.f7.params[j]? = some t → args[j]? = some v → Value.okWide Try.prog W .any base t v := hval0
  have hW' := hW
  obtain ⟨p, q, hA0, hV, rfl, hfz, hnd⟩ := hW
  have hA : DataW.TrodAll enc Try.prog W 0 (fun _ => true) true Try.f7.params.toList args.toList ds p := hA0
  rw [Try.params7] at hA hval hsz
  obtain ⟨v0, vs0, d0, ds0, p0, q0, hargs, rfl, rfl, h0, r0⟩ := trodAll_cons hA
  obtain ⟨v1, vs1, d1, ds1, p1, q1, rfl, rfl, rfl, h1, r1⟩ := trodAll_cons r0
  obtain ⟨rfl, rfl, rfl⟩ := trodAll_nil r1
  obtain rfl : args = #[v0, v1] := by cases args; simp_all
  obtain ⟨rfl, rfl⟩ := trodVars_none hV
  obtain ⟨cs0, rfl, hcs0⟩ := okWide_struct Try.underlying24 (hval 0 24 v0 rfl rfl)
  have k0 := h0
  have lt0 : ∀ x ∈ p0, x.block < W.heap.size := by obtain ⟨m, hm⟩ := k0; exact DataW.trod_lt m _ _ _ hm
  obtain ⟨y0, a0, len0, cap0, l0, rfl, rfl, hc0, ri0, wi0⟩ := open_tab hcs0 h0
  obtain ⟨a1, rfl, rfl, rfl, w1⟩ := open_int Try.underlying3 (hval 1 3 v1 rfl rfl) h1
  clear hA0 hval0
  refine (walk y0 a0 l0 cap0 a1 W ri0 wi0 hc0 w1).mono fun e W' ⟨he, bel⟩ => ?_
  subst he
  exact ⟨_, rfl, _, _, _, [], _, [], hW', trodAll_mk1 (shut_bool Try.underlying4 _), (trodAll_cons_mk (Below.trod laidOut (by kernel_rfl) (of_decide_eq_true (by kernel_rfl)) k0 bel lt0) (trodAll_cons_mk (shut_int Try.underlying3 w1) trodAll_mk0)), rfl, bel.frame _, fun h => by cases h⟩

theorem proved : Rows.DescCutsSaid :=
  OpenClaim.holds_of_wide 7 Try.f7 rfl rfl rfl rfl rfl rfl rfl ⟨rfl, rfl, rfl, rfl, rfl⟩ rfl rfl rfl rfl rfl (by kernel_rfl) Try.func7 (by kernel_rfl)
    (of_decide_eq_true (by kernel_rfl)) (by unfold Func.isWrapper; rw [if_neg (by decide +kernel)]; exact ⟨rfl, rfl⟩)
    (fun os started H enc _ => lifted os started H enc)

#print axioms proved

end Go.Proofs.Ytpjbjbohbdlciaa.descCuts
