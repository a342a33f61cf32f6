/-
  Proved: the law NumNil returns true for all calls and numbers: a nil cursor answers ErrNil and empty values, and a zero cursor reads an empty slice. No condition.
-/
import Derived.Test.YtpelndjfamdjlaaAsk
import Derived.Test.YtpelndjfamdjlaaFrm
import Derived.Deep.RegionWith
import Derived.Lib.SmallJoins
namespace Go.Proofs.Ytpelndjfamdjlaa.numNil
open Go.ChangeShapes Go.WideShapes Go.ChangeAt Go.RowKit Go.Joins

set_option maxHeartbeats 1000000 in
theorem ask_nil (w : World) (q n : Int) : Calls Try.prog 29 #[.pointer none, .agg #[.int .i64 q, .int .i64 n]] w fun e w' => e = .returned (.tuple #[.int .u64 0, .slice none 0 0, .int .i64 1]) ∧ Below w.heap.size w w' := by
  have hal : ∀ o w2, Below (w.alloc o).heap.size (w.alloc o) w2 → Below w.heap.size w w2 := fun o w2 h => ((Below.refl _ _).alloc (Nat.le_refl _) _).trans (h.mono (by simp))
  have HAL := Lib.hid hal
  clear hal
  by_cases h1 : q = 1
  · subst h1
    go_enter Try.func29, Try.ntmps29
    go_wp2_with fail
    refine (byte_nil _).mono ?_
    rintro e w1 ⟨rfl, hb⟩
    have HB := Lib.hid (HAL.out _ _ hb)
    clear hb
    go_wp2
    go_ret3
    exact ⟨rfl, HB.out⟩
  by_cases h2 : q = 2
  · subst h2
    go_enter Try.func29, Try.ntmps29
    go_wp2_with fail
    refine (word_nil _).mono ?_
    rintro e w1 ⟨rfl, hb⟩
    have HB := Lib.hid (HAL.out _ _ hb)
    clear hb
    go_wp2
    go_ret3
    exact ⟨rfl, HB.out⟩
  by_cases h3 : q = 3
  · subst h3
    go_enter Try.func29, Try.ntmps29
    go_wp2_with fail
    refine (varint_nil _).mono ?_
    rintro e w1 ⟨rfl, hb⟩
    have HB := Lib.hid (HAL.out _ _ hb)
    clear hb
    go_wp2
    go_ret3
    exact ⟨rfl, HB.out⟩
  by_cases h4 : q = 4
  · subst h4
    go_enter Try.func29, Try.ntmps29
    go_wp2_with fail
    refine (number_nil _ _).mono ?_
    rintro e w1 ⟨rfl, hb⟩
    have HB := Lib.hid (HAL.out _ _ hb)
    clear hb
    go_wp2
    go_ret3
    exact ⟨rfl, HB.out⟩
  by_cases h5 : q = 5
  · subst h5
    go_enter Try.func29, Try.ntmps29
    go_wp2_with fail
    refine (bytes_nil _ _).mono ?_
    rintro e w1 ⟨rfl, hb⟩
    have HB := Lib.hid (HAL.out _ _ hb)
    clear hb
    go_wp2
    go_ret3
    exact ⟨rfl, HB.out⟩
  have e1 : (q == 1) = false := beq_eq_false_iff_ne.2 h1
  have e2 : (q == 2) = false := beq_eq_false_iff_ne.2 h2
  have e3 : (q == 3) = false := beq_eq_false_iff_ne.2 h3
  have e4 : (q == 4) = false := beq_eq_false_iff_ne.2 h4
  have e5 : (q == 5) = false := beq_eq_false_iff_ne.2 h5
  clear h1 h2 h3 h4 h5
  go_enter Try.func29, Try.ntmps29
  go_wp2_with fail
  refine (end_nil _).mono ?_
  rintro e w1 ⟨rfl, rfl⟩
  go_wp2
  go_ret3
  exact ⟨rfl, (Below.refl _ _).alloc (Nat.le_refl _) _⟩

set_option maxRecDepth 100000 in
set_option maxHeartbeats 4000000 in
theorem walk (q m n : Int) (w : World) (hm : m ≤ 9223372036854775807) :
    Calls Try.prog 12 #[.agg #[.int .i64 q, .int .i64 m], .int .i64 n] w fun e w' => e = .returned (.bool true) ∧ Below w.heap.size w w' := by
  have HM := Lib.hid hm
  clear hm
  obtain ⟨W, hW⟩ : ∃ W, ((w.alloc (.cells #[.int .i64 q, .int .i64 m] 51)).alloc (.cells #[.slice none 0 0, .int .i64 0] 66)) = W := ⟨_, rfl⟩
  have hWs : W.heap.size = w.heap.size + 2 := by rw [← hW]; simp
  have hWb : Below w.heap.size w W := by rw [← hW]; exact ((Below.refl _ _).alloc (Nat.le_refl _) _).alloc (by simp) _
  have q0 : W.cell? ⟨w.heap.size, 0, none⟩ = some (.int .i64 q) := by rw [← hW]; simp [go_sem]
  have q1 : W.cell? ⟨w.heap.size, 1, none⟩ = some (.int .i64 m) := by rw [← hW]; simp [go_sem]
  have hz : Cur W (w.heap.size + 1) none 0 [] 0 := by
    refine ⟨?_, Rd.nil _ _, Nat.le_refl _, Nat.le_refl _, by simp⟩
    rw [← hW]
    have := heap_alloc_new (w.alloc (.cells #[.int .i64 q, .int .i64 m] 51)) (.cells #[.slice none 0 0, .int .i64 0] 66)
    simpa [CurBlk] using this
  obtain ⟨R, hR⟩ : ∃ R, askR [] 0 q m = R := ⟨_, rfl⟩
  have HR := Lib.hid hR
  have HW := Lib.hid hW
  have HWS := Lib.hid hWs
  have HWB := Lib.hid hWb
  have Q := Lib.hid (And.intro q0 q1)
  have HZ := Lib.hid hz
  clear hW hWs hWb q0 q1 hz hR
  go_enter Try.func12, Try.ntmps12
  go_wp2_with fail
  rw [HW.out]
  refine (ask_nil _ _ _).mono ?_
  rintro e w1 ⟨rfl, hb1⟩
  have HB1 := Lib.hid hb1
  clear hb1
  go_wp2_with fail
  refine (sub_nil _ _).mono ?_
  rintro e w2 ⟨rfl, hb2⟩
  have HB2 := Lib.hid (below_on HB1.out (Nat.le_refl _) hb2)
  clear hb2 HB1
  go_wp2_with fail
  refine (at_nil _).mono ?_
  rintro e w3 ⟨rfl, rfl⟩
  go_wp2_with fail
  refine (left_nil _).mono ?_
  rintro e w3 ⟨rfl, rfl⟩
  go_wp2_with fail
  refine (rest_nil _).mono ?_
  rintro e w3 ⟨rfl, rfl⟩
  go_wp2_with fail
  refine (peek_nil _ _).mono ?_
  rintro e w3 ⟨rfl, rfl⟩
  have hsz := HWS.out
  have c0 : w2.cell? ⟨w.heap.size, 0, none⟩ = some (.int .i64 q) := (HB2.out.cell (p := ⟨w.heap.size, 0, none⟩) (by show w.heap.size < W.heap.size; omega)).trans Q.out.1
  have c1 : w2.cell? ⟨w.heap.size, 1, none⟩ = some (.int .i64 m) := (HB2.out.cell (p := ⟨w.heap.size, 1, none⟩) (by show w.heap.size < W.heap.size; omega)).trans Q.out.2
  have AZ := Lib.hid (ask_any (HZ.out.below HB2.out) (by simp) q m HM.out)
  rw [HR.out] at AZ
  clear hsz
  go_wp2_with fail
  refine AZ.out.mono ?_
  rintro e w3 ⟨A3, c3, rfl, hrd3, hcur3, hg3⟩
  have hsz := HWS.out
  have d0 : w3.cell? ⟨w.heap.size, 0, none⟩ = some (.int .i64 q) := hg3.cell c0 (by simp)
  have d1 : w3.cell? ⟨w.heap.size, 1, none⟩ = some (.int .i64 m) := hg3.cell c1 (by simp)
  have hoff : R.off = 0 := by have := hcur3.le; simp at this; exact this
  rw [hoff] at hcur3
  have HR3 := Lib.hid hrd3
  have HC3 := Lib.hid hcur3
  have hb3 : Below w.heap.size w w3 := (below_on HWB.out (Nat.le_refl _) HB2.out).grown hg3 (by have := HB2.out.size; have := HWB.out.size; omega) (fun j ej => by cases ej; omega)
  have HB3 := Lib.hid hb3
  have hlt3 : w.heap.size < w3.heap.size := by have := cell_lt d0; exact this
  clear c0 c1 hsz hrd3 hcur3 hg3 hb3 hoff HB2 AZ
  have NW := Lib.hid (new_any w3.drew none [] 0 (by simp) (Rd.nil _ _))
  rw [List.length_nil] at NW
  go_wp2_with fail
  go_region_with (first
    | (go_at_call 21; refine NW.out.mono ?_; rintro e w4 ⟨c4, A4, cap4, rfl, hcw4, hcur4, hb4⟩; have HCW := Lib.hid hcw4; have HB4 := Lib.hid hb4; have HC4 := Lib.hid hcur4; have e0 : w4.cell? ⟨w.heap.size, 0, none⟩ = some (.int .i64 q) := (hb4.cell (p := ⟨w.heap.size, 0, none⟩) hlt3).trans d0; have e1 : w4.cell? ⟨w.heap.size, 1, none⟩ = some (.int .i64 m) := (hb4.cell (p := ⟨w.heap.size, 1, none⟩) hlt3).trans d1; clear hcw4 hcur4 hb4)
    | (go_at_call 29; refine (ask_any HC4.out (by simp) q m HM.out).mono ?_; rw [HR.out]; rintro e w5 ⟨A5, c5, rfl, hrd5, _, hg5⟩; have HR5 := Lib.hid hrd5; have HG5 := Lib.hid hg5; clear hrd5 hg5))
  all_goals
    have b34 : Below w3.heap.size w3 w4 := ⟨HB4.out.os, HB4.out.tape, HB4.out.output, HB4.out.size, HB4.out.block⟩
    have b35 : Below w3.heap.size w3 w5 := b34.grown HG5.out b34.size (fun j ej => by cases ej; exact HCW.out)
    have HR3' := Lib.hid (HR3.out.below b35)
    have HC3' := Lib.hid (HC3.out.below b35)
    have HB5 := Lib.hid (below_on HB3.out (Nat.le_refl _) b35)
    clear b34 b35 HR3 HC3 HB3 HB4 HG5 HCW
    go_wp2_with fail
    refine (same_n _ _ _ R.bytes R.bytes _ _ rfl rfl _ _ HR3'.out HR5.out rfl).mono ?_
    rintro e w6 ⟨rfl, rfl⟩
    go_wp2_with fail
    refine (at_any HC3'.out.blk).mono ?_
    rintro e w6 ⟨rfl, rfl⟩
    go_wp2_with fail
    refine (left_any HC3'.out.blk HC3'.out.le HC3'.out.small).mono ?_
    rintro e w6 ⟨rfl, d6, rfl⟩
    go_wp2_with fail
    refine (end_any (HC3'.out.drewN d6)).mono ?_
    rintro e w7 ⟨rfl, d7, rfl⟩
    rw [if_neg (by simp)]
    go_wp2_with fail
    refine (known_any _).mono ?_
    rintro e w8 ⟨rfl, hb8⟩
    have HB8 := Lib.hid (below_on (below_drewN' HB5.out (d6 + d7)) (Nat.le_refl _) hb8)
    clear hb8
    go_wp2
    go_ret
    exact ⟨rfl, HB8.out⟩

theorem cells_call : Try.prog.cellsOf 51 = 2 := by kernel_rfl

set_option maxRecDepth 100000 in
theorem lifted (os : Os) (started : os.Started) (H : Type) (enc : TypeId × Value → H) :
    ReturnsInHanded {} Try.checked os 12 .any (Rows.numNilSpec.pre6 enc Try.prog Try.f12 Rows.numNilRow.domain false) (Rows.numNilSpec.post enc Try.prog Try.f12 false true false false) := by
  refine returnsInHanded_of_change (C := Try.checked) ownB started (by kernel_rfl) Try.func12
    (ChangeSpec.witness6 (enc := enc) (C := Try.checked) false ⟨#[], #[.agg #[.int .i64 0, .int .i64 0], .int .i64 0], []⟩ 8 (by kernel_rfl) (by kernel_rfl) (by kernel_rfl) (by kernel_rfl)) ?_
  intro W base args ds gs before hval0 hW _ _
  have hval : ∀ (j : Nat) t v, Try.f12.params[j]? = some t → args[j]? = some v → Value.okWide Try.prog W .any base t v := hval0
  have hW' := hW
  obtain ⟨p, q, hA0, hV, rfl, hfz, hnd⟩ := hW
  have hA : DataW.TrodAll enc Try.prog W 0 (fun _ => true) true Try.f12.params.toList args.toList ds p := hA0
  rw [Try.params12] at hA hval
  obtain ⟨v0, vs0, d0, ds0, p0, q0, hargs, rfl, rfl, h0, r0⟩ := trodAll_cons hA
  obtain ⟨v1, vs1, d1, ds1, p1, q1, rfl, rfl, rfl, h1, r1⟩ := trodAll_cons r0
  obtain ⟨rfl, rfl, rfl⟩ := trodAll_nil r1
  obtain rfl : args = #[v0, v1] := by cases args; simp_all
  obtain ⟨rfl, rfl⟩ := trodVars_none hV
  have k0 := h0
  have lt0 : ∀ x ∈ p0, x.block < W.heap.size := by obtain ⟨m, hm⟩ := k0; exact DataW.trod_lt m _ _ _ hm
  obtain ⟨c0, c1, y0, y1, mf, rfl, rfl, rfl, hy0, hy1⟩ := open_agg2 Try.underlying51 (by kernel_rfl) cells_call (hval 0 51 v0 rfl rfl) h0
  obtain ⟨a, e0, rfl, wa⟩ := DataW.trod_int Try.underlying3 hy0
  obtain ⟨b, e1, rfl, wb⟩ := DataW.trod_int Try.underlying3 hy1
  simp at e0 e1
  subst e0 e1
  obtain ⟨a1, rfl, rfl, rfl, w1⟩ := open_int Try.underlying3 (hval 1 3 v1 rfl rfl) h1
  clear hA0 hval0
  refine (walk a b a1 W (bounds_i64 wb).2).mono fun e W' ⟨he, bel⟩ => ?_
  subst he
  exact ⟨_, rfl, _, _, _, [], _, [], hW', trodAll_mk1 (shut_bool Try.underlying4 _), (trodAll_cons_mk (Below.trod laidOut (by kernel_rfl) (of_decide_eq_true (by kernel_rfl)) k0 bel lt0) (trodAll_cons_mk (shut_int Try.underlying3 w1) trodAll_mk0)), rfl, bel.frame _, fun h => by cases h⟩

theorem proved : Rows.NumNilSaid :=
  OpenClaim.holds_of_wide 12 Try.f12 rfl rfl rfl rfl rfl rfl rfl ⟨rfl, rfl, rfl, rfl, rfl⟩ rfl rfl rfl rfl rfl (by kernel_rfl) Try.func12 (by kernel_rfl)
    (of_decide_eq_true (by kernel_rfl)) (by unfold Func.isWrapper; rw [if_neg (by decide +kernel)]; exact ⟨rfl, rfl⟩)
    (fun os started H enc _ => lifted os started H enc)

#print axioms proved
end Go.Proofs.Ytpelndjfamdjlaa.numNil
