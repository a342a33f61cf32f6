/-
  Proved: the law NormWhole returns true for all tables and factors: counts that are a multiple of valid norms have these norms. No condition.
-/
import Derived.Test.YtkojdhmgefggjaaFrm
import Derived.Test.YtkojdhmgefggjaaWho
namespace Go.Proofs.Ytkojdhmgefggjaa.normWhole
open Go.ChangeShapes Go.WideShapes Go.ChangeAt Go.RowKit

set_option maxRecDepth 100000 in
set_option maxHeartbeats 2000000 in
theorem walk_1 (y t : Int) (A : Option Addr) (n c : Nat) (w : World) (h : 300 < n) :
    Calls Try.prog 9 #[tb y A n c, .int .i64 t] w fun e w' => e = .returned (.bool true) ∧ Below w.heap.size w w' := by
  have t1 := Tb.new w y A n c
  have b1 : Below w.heap.size w (w.alloc (.cells #[.int .i64 y, .slice A n c] 24)) := (Below.refl _ w).alloc (Nat.le_refl _) _
  obtain ⟨w1, hw1⟩ : ∃ w1, w.alloc (.cells #[.int .i64 y, .slice A n c] 24) = w1 := ⟨_, rfl⟩
  rw [hw1] at t1 b1
  have c0 := t1.c0
  have c1 := t1.c1
  have B0 := Lib.hid b1
  have T1 := Lib.hid t1
  have d1 : decide ((300 : Int) < (n : Int)) = true := decide_eq_true (by omega)
  clear t1 b1
  go_enter Try.func9, Try.ntmps9
  go_wp2_with (go_at_call 12; refine (known_any _).mono ?_; rintro e w2 ⟨rfl, hb2⟩; have B1 := Lib.hid (below_on B0.out (Nat.le_refl _) hb2); clear hb2)
  go_ret
  exact ⟨rfl, B1.out⟩

set_option maxRecDepth 100000 in
set_option maxHeartbeats 2000000 in
theorem walk_2 (y t : Int) (A : Option Addr) (n c : Nat) (w : World) (h : n ≤ 300) (h2 : t < 1) :
    Calls Try.prog 9 #[tb y A n c, .int .i64 t] w fun e w' => e = .returned (.bool true) ∧ Below w.heap.size w w' := by
  have t1 := Tb.new w y A n c
  have b1 : Below w.heap.size w (w.alloc (.cells #[.int .i64 y, .slice A n c] 24)) := (Below.refl _ w).alloc (Nat.le_refl _) _
  obtain ⟨w1, hw1⟩ : ∃ w1, w.alloc (.cells #[.int .i64 y, .slice A n c] 24) = w1 := ⟨_, rfl⟩
  rw [hw1] at t1 b1
  have c0 := t1.c0
  have c1 := t1.c1
  have B0 := Lib.hid b1
  have T1 := Lib.hid t1
  have d1 : decide ((300 : Int) < (n : Int)) = false := decide_eq_false (by omega)
  have d2 : decide (t < 1) = true := decide_eq_true (by omega)
  clear t1 b1
  go_enter Try.func9, Try.ntmps9
  go_wp2_with (go_at_call 12; refine (known_any _).mono ?_; rintro e w2 ⟨rfl, hb2⟩; have B1 := Lib.hid (below_on B0.out (Nat.le_refl _) hb2); clear hb2)
  go_ret
  exact ⟨rfl, B1.out⟩

set_option maxRecDepth 100000 in
set_option maxHeartbeats 2000000 in
theorem walk_3 (y t : Int) (A : Option Addr) (n c : Nat) (w : World) (h : n ≤ 300) (h2 : 1000000 < t) :
    Calls Try.prog 9 #[tb y A n c, .int .i64 t] w fun e w' => e = .returned (.bool true) ∧ Below w.heap.size w w' := by
  have t1 := Tb.new w y A n c
  have b1 : Below w.heap.size w (w.alloc (.cells #[.int .i64 y, .slice A n c] 24)) := (Below.refl _ w).alloc (Nat.le_refl _) _
  obtain ⟨w1, hw1⟩ : ∃ w1, w.alloc (.cells #[.int .i64 y, .slice A n c] 24) = w1 := ⟨_, rfl⟩
  rw [hw1] at t1 b1
  have c0 := t1.c0
  have c1 := t1.c1
  have B0 := Lib.hid b1
  have T1 := Lib.hid t1
  have d1 : decide ((300 : Int) < (n : Int)) = false := decide_eq_false (by omega)
  have d2 : decide (t < 1) = false := decide_eq_false (by omega)
  have d3 : decide (1000000 < t) = true := decide_eq_true (by omega)
  clear t1 b1
  go_enter Try.func9, Try.ntmps9
  go_wp2_with (go_at_call 12; refine (known_any _).mono ?_; rintro e w2 ⟨rfl, hb2⟩; have B1 := Lib.hid (below_on B0.out (Nat.le_refl _) hb2); clear hb2)
  go_ret
  exact ⟨rfl, B1.out⟩

set_option maxRecDepth 100000 in
set_option maxHeartbeats 2000000 in
theorem walk_4 (y t : Int) (A : Option Addr) (l : List Int) (n c : Nat) (w : World) (h : n ≤ 300) (h2 : 1 ≤ t) (h3 : t ≤ 1000000) (hn : l.length = n) (hR : Ri w A l) (hv : vt y l 300 9 = false) :
    Calls Try.prog 9 #[tb y A n c, .int .i64 t] w fun e w' => e = .returned (.bool true) ∧ Below w.heap.size w w' := by
  have t1 := Tb.new w y A n c
  have b1 : Below w.heap.size w (w.alloc (.cells #[.int .i64 y, .slice A n c] 24)) := (Below.refl _ w).alloc (Nat.le_refl _) _
  obtain ⟨w1, hw1⟩ : ∃ w1, w.alloc (.cells #[.int .i64 y, .slice A n c] 24) = w1 := ⟨_, rfl⟩
  rw [hw1] at t1 b1
  have c0 := t1.c0
  have c1 := t1.c1
  have BX := Lib.hid b1
  have T1 := Lib.hid t1
  have d1 : decide ((300 : Int) < (n : Int)) = false := decide_eq_false (by omega)
  have d2 : decide (t < 1) = false := decide_eq_false (by omega)
  have d3 : decide (1000000 < t) = false := decide_eq_false (by omega)
  have MY := Lib.hid (may_any w1 y 300 9 A l n c hn (by omega) (hR.below b1))
  rw [hv] at MY
  simp only [err, Bool.false_eq_true, if_false] at MY
  clear t1 b1
  go_enter Try.func9, Try.ntmps9
  go_wp2_with (first
    | (go_at_call 14; refine MY.out.mono ?_; rintro e wm ⟨rfl, hbm⟩; have qm := T1.out.below hbm; have B0 := Lib.hid (below_on BX.out (Nat.le_refl _) hbm); clear hbm qm)
    | (go_at_call 12; refine (known_any _).mono ?_; rintro e w2 ⟨rfl, hb2⟩; have B1 := Lib.hid (below_on B0.out (Nat.le_refl _) hb2); clear hb2))
  go_ret
  exact ⟨rfl, B1.out⟩

set_option maxRecDepth 100000 in
set_option maxHeartbeats 8000000 in
theorem walk_5 (y : Int) (t : Nat) (A : Option Addr) (l : List Int) (n c : Nat) (w : World) (h : n ≤ 300) (h2 : 1 ≤ t) (h3 : t ≤ 1000000) (hn : l.length = n) (hR : Ri w A l) (hv : vt y l 300 9 = true)
    (NB : (∀ x ∈ l, 0 ≤ x) → ∀ W B c', Ri W B (l.map (· * (t : Int))) → Calls Try.prog 15 #[.slice B n c', .int .i64 y] W fun e w' => ∃ A2 c2, e = .returned (.tuple #[tb y A2 n c2, .int .i64 0]) ∧ Ri w' A2 l ∧ Below W.heap.size W w') :
    Calls Try.prog 9 #[tb y A n c, .int .i64 (t : Int)] w fun e w' => e = .returned (.bool true) ∧ Below w.heap.size w w' := by
  have t1 := Tb.new w y A n c
  have b1 : Below w.heap.size w (w.alloc (.cells #[.int .i64 y, .slice A n c] 24)) := (Below.refl _ w).alloc (Nat.le_refl _) _
  obtain ⟨w1, hw1⟩ : ∃ w1, w.alloc (.cells #[.int .i64 y, .slice A n c] 24) = w1 := ⟨_, rfl⟩
  rw [hw1] at t1 b1
  have c0 := t1.c0
  have c1 := t1.c1
  have BX := Lib.hid b1
  have T1 := Lib.hid t1
  have d1 : decide ((300 : Int) < (n : Int)) = false := decide_eq_false (by omega)
  have d2 : decide ((t : Int) < 1) = false := decide_eq_false (by omega)
  have d3 : decide ((1000000 : Int) < (t : Int)) = false := decide_eq_false (by omega)
  have MY := Lib.hid (may_any w1 y 300 9 A l n c hn (by omega) (hR.below b1))
  rw [hv] at MY
  simp only [err, if_true] at MY
  have XB : Hid (∀ x ∈ l, x ≤ 512) := Lib.hid (fun x hx => by
    obtain ⟨q1, q2, _, _, q5, q6⟩ := vt_yes hv
    have h1 := sts_le q5 hx
    have h2 : -1 ≤ x := by
      unfold okn at q5
      rw [List.all_eq_true] at q5
      simpa using q5 x hx
    have h3 := (sts_bd h2).2.1
    have h4 : (2 : Nat) ^ y.toNat ≤ 512 := pow_le (by omega)
    have h5 : ((2 : Int) ^ y.toNat) = ((2 ^ y.toNat : Nat) : Int) := (Int.natCast_pow 2 _).symm
    rw [h5] at q6
    omega)
  have HN := Lib.hid hn
  have HR := Lib.hid hR
  have HNB := Lib.hid NB
  clear t1 b1 hn hR NB hv
  go_enter Try.func9, Try.ntmps9
  go_wp2_with (go_at_call 14; refine MY.out.mono ?_; rintro e wm ⟨rfl, hbm⟩; have BM := Lib.hid (below_on BX.out (Nat.le_refl _) hbm); have TM := Lib.hid (T1.out.below hbm); have c2 := TM.out.c0; have c3 := TM.out.c1; clear hbm)
  clear c0 c1 MY T1
  go_loopw [5, 6] (fun q p wr => ∃ i : Nat, i ≤ n ∧ p = .int .i64 (i : Int) ∧ Hid (wr.ownsRow wm.heap.size 3 1 q i (((l.take i).map (· * (t : Int))).map iv)) ∧ Hid (∀ x ∈ l.take i, 0 ≤ x) ∧ Hid (Below wm.heap.size wm wr)) (fun _ p _ => n - (intOf p).toNat)
  case atStart => exact ⟨0, Nat.zero_le _, rfl, Lib.hid (World.ownsRow_nil _ _ _ _), Lib.hid (by simp), Lib.hid (Below.refl _ _)⟩
  case round =>
    obtain ⟨i, hi, rfl, HO, HX, HB⟩ := hrel
    obtain ⟨A', c', rfl, hcc⟩ := own_form HO.out
    have tr := TM.out.below HB.out
    have c4 := tr.c0
    have c5 := tr.c1
    have TR := Lib.hid tr
    clear tr
    by_cases hlt : i < n
    · obtain ⟨x, hx⟩ : ∃ x, l[i]? = some x := ⟨_, List.getElem?_eq_getElem (by rw [HN.out]; exact hlt)⟩
      have hBw := below_on BM.out (Nat.le_refl _) HB.out
      obtain ⟨ad, rfl, hc⟩ := HR.out i (iv x) (by rw [List.getElem?_map, hx]; rfl)
      have hc2 := (hBw.cell (cell_lt hc)).trans hc
      simp only [iv] at hc2
      have hx5 := XB.out x (List.mem_of_getElem? hx)
      by_cases hneg : x < 0
      · have dx : decide (x < 0) = true := decide_eq_true hneg
        have BW := Lib.hid hBw
        clear hc hx hBw
        go_wp2_with (go_at_call 12; refine (known_any wr).mono ?_; rintro e w2 ⟨rfl, hb2⟩; have B1 := Lib.hid (below_on BW.out (Nat.le_refl _) hb2); clear hb2)
        go_ret
        exact ⟨rfl, B1.out⟩
      · have dx : decide (x < 0) = false := decide_eq_false hneg
        obtain ⟨P, hP⟩ : ∃ P, x * (t : Int) = P := ⟨_, rfl⟩
        have hPb : 0 ≤ P ∧ P ≤ 512000000 := by
          rw [← hP]
          have h4 := Int.mul_le_mul hx5 (show (t : Int) ≤ 1000000 by omega) (by omega) (by omega)
          have h5 := Int.mul_nonneg (show 0 ≤ x by omega) (show (0 : Int) ≤ (t : Int) by omega)
          omega
        have HTK : Hid (((l.take i).map (· * (t : Int))).map iv ++ [.int .i64 P] = ((l.take (i + 1)).map (· * (t : Int))).map iv) := Lib.hid (by rw [take_succ_get hx, List.map_append, List.map_append]; simp [hP])
        have HX2 : Hid (∀ x ∈ l.take (i + 1), 0 ≤ x) := Lib.hid (fun u hu => by
          rw [take_succ_get hx] at hu
          rcases List.mem_append.1 hu with h1 | h1
          · exact HX.out u h1
          · rw [List.mem_singleton] at h1; subst h1; omega)
        have bl : Below wr.heap.size wr (wr.alloc (.cells #[.int .i64 P] 3)) := (Below.refl _ wr).alloc (Nat.le_refl _) _
        have OL : Hid ((wr.alloc (.cells #[.int .i64 P] 3)).ownsRow wm.heap.size 3 1 (.slice A' i c') i (((l.take i).map (· * (t : Int))).map iv)) := Lib.hid (own_below HO.out bl)
        have RL : Hid (Rv (wr.alloc (.cells #[.int .i64 P] 3)) (some ⟨wr.heap.size, 0, none⟩) [.int .i64 P]) := Lib.hid (lit_rv wr [.int .i64 P] _ rfl)
        have BL := Lib.hid (below_on HB.out (Nat.le_refl _) bl)
        have HBS : Hid (wm.heap.size ≤ (wr.alloc (.cells #[.int .i64 P] 3)).heap.size) := Lib.hid BL.out.size
        clear hc hx bl HX hBw
        go_wp2_with (at_builtin; refine wpList_append_vals Try.underlying22 int_info rfl rfl _ _ rfl wm.heap.size (.slice A' i c') i (((l.take i).map (· * (t : Int))).map iv) rfl OL.out (some ⟨wr.heap.size, 0, none⟩) [.int .i64 P] (by simp [Value.oneCell']) 1 1 rfl rfl RL.out (by omega) (by omega) HBS.out ?_; intro v5 w5 ho5 hg5 he5; have O5 := Lib.hid ho5; have B5 := Lib.hid (BL.out.grown hg5 HBS.out (fun j ej => own_ge3 OL.out ej)); clear ho5 hg5 he5)
        exact ⟨⟨i + 1, by omega, by simp, Lib.hid (by rw [← HTK.out]; exact O5.out), HX2, B5⟩, by simp [intOf]; omega⟩
    · have hiN : n = i := by omega
      subst hiN
      have hall : ∀ x ∈ l, 0 ≤ x := by have := HX.out; rwa [List.take_of_length_le (by rw [HN.out]; exact Nat.le_refl _)] at this
      have hro : Ri wr A' (l.map (· * (t : Int))) := by
        have := Rv.of_own HO.out
        rwa [List.take_of_length_le (by rw [HN.out]; exact Nat.le_refl _)] at this
      have H1 := Lib.hid (HNB.out hall wr A' c' hro)
      have BW := Lib.hid (below_on BM.out (Nat.le_refl _) HB.out)
      have EQ : Hid (∀ w6 A6 c6, Below wr.heap.size wr w6 → Ri w6 A6 l → Calls Try.prog 23 #[tb y A n c, tb y A6 n c6] (w6.alloc (.cells #[.int .i64 y, .slice A6 n c6] 24)) fun e w' => e = .returned (.bool true) ∧ Below w6.heap.size w6 w') := Lib.hid (fun w6 A6 c6 hb hr => by
        have ba : Below w6.heap.size w6 (w6.alloc (.cells #[.int .i64 y, .slice A6 n c6] 24)) := (Below.refl _ _).alloc (Nat.le_refl _) _
        have := equal_any (w6.alloc (.cells #[.int .i64 y, .slice A6 n c6] 24)) y y A A6 l l n c n c6 HN.out HN.out (by omega) (((HR.out.below BW.out).below hb).below ba) (hr.below ba)
        rw [show sam y y l l = true by simp [sam]] at this
        refine this.mono ?_
        rintro e w' ⟨rfl, hb'⟩
        exact ⟨rfl, below_on ba (Nat.le_refl _) hb'⟩)
      clear HO HX hall hro HNB
      go_wp2_with (first
        | (go_at_call 15; refine H1.out.mono ?_; rintro e w6 ⟨A6, c6, rfl, hr6, hb6⟩; have R6 := Lib.hid hr6; have B6 := Lib.hid hb6; have q := TR.out.below hb6; have k0 := q.c0; have k1 := q.c1; have q2 := q.below ((Below.refl _ w6).alloc (Nat.le_refl _) (.cells #[.int .i64 y, .slice A6 n c6] 24)); have k2 := q2.c0; have k3 := q2.c1; clear hr6 hb6 q q2)
        | (go_at_call 23; refine (EQ.out w6 A6 c6 B6.out R6.out).mono ?_; rintro e w7 ⟨rfl, hb7⟩; have B7 := Lib.hid (below_on (below_on BW.out (Nat.le_refl _) B6.out) (Nat.le_refl _) hb7); clear hb7)
        | (go_at_call 12; refine (known_any _).mono ?_; rintro e w8 ⟨rfl, hb8⟩; have B8 := Lib.hid (below_on B7.out (Nat.le_refl _) hb8); clear hb8))
      go_ret
      exact ⟨rfl, B8.out⟩

theorem walk (y : Int) (A : Option Addr) (l : List Int) (cap : Nat) (t : Int) (w : World) (hR : Ri w A l) (_ : ∀ z ∈ l, -9223372036854775808 ≤ z ∧ z ≤ 9223372036854775807) (_ : l.length ≤ cap) (_ : (Lit.int .i64 t).wf = true) :
    Calls Try.prog 9 #[tb y A l.length cap, .int .i64 t] w fun e w' => e = .returned (.bool true) ∧ Below w.heap.size w w' := by
  by_cases h1 : 300 < l.length
  · exact walk_1 y t A _ cap w h1
  · by_cases h2 : t < 1
    · exact walk_2 y t A _ cap w (by omega) h2
    · by_cases h3 : 1000000 < t
      · exact walk_3 y t A _ cap w (by omega) h3
      · cases hv : vt y l 300 9 with
        | false => exact walk_4 y t A l _ cap w (by omega) (by omega) (by omega) rfl hR hv
        | true =>
          obtain ⟨u, rfl⟩ : ∃ u : Nat, t = (u : Int) := ⟨t.toNat, by omega⟩
          refine walk_5 y u A l _ cap w (by omega) (by omega) (by omega) rfl hR hv (fun h0 W B c' hB => ?_)
          obtain ⟨lg, rfl, hgd, hnr, hls⟩ := whole_of (t := u) hv h0 (by omega) (by omega) (by omega)
          have e1 : l.map (· * (u : Int)) = (mul u (l.map Int.toNat)).map (fun n : Nat => (n : Int)) := by
            unfold mul
            rw [List.map_map, List.map_map]
            refine List.map_congr_left fun x hx => ?_
            obtain ⟨m, rfl⟩ : ∃ m : Nat, x = (m : Int) := ⟨x.toNat, by have := h0 x hx; omega⟩
            show (m : Int) * (u : Int) = (((m : Int).toNat * u : Nat) : Int)
            rw [Int.toNat_natCast]
            exact (Int.natCast_mul m u).symm
          have hRn : Rn W B (mul u (l.map Int.toNat)) := by
            have h1 := hB
            rw [e1] at h1
            unfold Ri at h1
            rw [ri_nats] at h1
            exact h1
          refine (normalize_ok W B (mul u (l.map Int.toNat)) l.length c' lg (2 ^ lg) (by rw [mul_len]; simp) (by omega) hRn hgd.tot hgd.pos hgd.log rfl hgd.use).mono ?_
          rintro e w' ⟨g, rfl, ho, hb'⟩
          rw [hls, hnr] at ho
          exact ⟨some ⟨g, 0, none⟩, l.length, by rw [hls], Rv.of_own ho, hb'⟩

set_option maxRecDepth 100000 in
theorem lifted (os : Os) (started : os.Started) (H : Type) (enc : TypeId × Value → H) :
    ReturnsInHanded {} Try.checked os 9 .any (Rows.normWholeSpec.pre6 enc Try.prog Try.f9 Rows.normWholeRow.domain false) (Rows.normWholeSpec.post enc Try.prog Try.f9 false true false false) := by
  refine returnsInHanded_of_change_sized (C := Try.checked) ownB started (by kernel_rfl) Try.func9
    (ChangeSpec.witness6 (enc := enc) (C := Try.checked) false ⟨#[], #[.agg #[.int .i64 0, .slice none 0 0], .int .i64 0], []⟩ 8 (by kernel_rfl) (by kernel_rfl) (by kernel_rfl) (by kernel_rfl)) ?_
  intro W base args ds gs before hval0 hW _ hsz0 _
  have hsz : (DataW.weightsEach Try.prog (Try.f9.params.toList ++ Rows.normWholeSpec.plain.varTypes Try.prog) (ds ++ gs)).all (· ≤ reachBytes) = true := hsz0
  clear hsz0
  have hval : ∀ (j : Nat) t v, Try.f9.params[j]? = some t → args[j]? = some v → Value.okWide Try.prog W .any base t v := hval0
  have hW' := hW
  obtain ⟨p, q, hA0, hV, rfl, hfz, hnd⟩ := hW
  have hA : DataW.TrodAll enc Try.prog W 0 (fun _ => true) true Try.f9.params.toList args.toList ds p := hA0
  rw [Try.params9] at hA hval hsz
  obtain ⟨v0, vs0, d0, ds0, p0, q0, hargs, rfl, rfl, h0, r0⟩ := trodAll_cons hA
  obtain ⟨v1, vs1, d1, ds1, p1, q1, rfl, rfl, rfl, h1, r1⟩ := trodAll_cons r0
  obtain ⟨rfl, rfl, rfl⟩ := trodAll_nil r1
  obtain rfl : args = #[v0, v1] := by cases args; simp_all
  obtain ⟨rfl, rfl⟩ := trodVars_none hV
  obtain ⟨cs0, rfl, hcs0⟩ := okWide_struct Try.underlying24 (hval 0 24 v0 rfl rfl)
  have k0 := h0
  have lt0 : ∀ x ∈ p0, x.block < W.heap.size := by obtain ⟨m, hm⟩ := k0; exact DataW.trod_lt m _ _ _ hm
  obtain ⟨y0, a0, len0, cap0, l0, rfl, rfl, hc0, ri0, wi0⟩ := open_tab hcs0 h0
  obtain ⟨a1, rfl, rfl, rfl, w1⟩ := open_int Try.underlying3 (hval 1 3 v1 rfl rfl) h1
  clear hA0 hval0
  refine (walk y0 a0 l0 cap0 a1 W ri0 wi0 hc0 w1).mono fun e W' ⟨he, bel⟩ => ?_
  subst he
  exact ⟨_, rfl, _, _, _, [], _, [], hW', trodAll_mk1 (shut_bool Try.underlying4 _), (trodAll_cons_mk (Below.trod laidOut (by kernel_rfl) (of_decide_eq_true (by kernel_rfl)) k0 bel lt0) (trodAll_cons_mk (shut_int Try.underlying3 w1) trodAll_mk0)), rfl, bel.frame _, fun h => by cases h⟩

theorem proved : Rows.NormWholeSaid :=
  OpenClaim.holds_of_wide 9 Try.f9 rfl rfl rfl rfl rfl rfl rfl ⟨rfl, rfl, rfl, rfl, rfl⟩ rfl rfl rfl rfl rfl (by kernel_rfl) Try.func9 (by kernel_rfl)
    (of_decide_eq_true (by kernel_rfl)) (by unfold Func.isWrapper; rw [if_neg (by decide +kernel)]; exact ⟨rfl, rfl⟩)
    (fun os started H enc _ => lifted os started H enc)

#print axioms proved

end Go.Proofs.Ytkojdhmgefggjaa.normWhole
