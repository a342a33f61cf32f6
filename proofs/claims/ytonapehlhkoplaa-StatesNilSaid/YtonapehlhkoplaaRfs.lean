/-
  What Cells, Has, First and Ahead of the reference do, and begin and step of the laws. Nothing that was there has changed. Conditions: those that each theorem states.
-/
import Derived.Test.YtonapehlhkoplaaOpe
import Derived.Test.YtonapehlhkoplaaOfc
namespace Go.Proofs.Ytonapehlhkoplaa
open Go.RowKit Go.Shelf

/-- A row of cells whose numbers are small. -/
structure Rc (w : World) (g s cp : Nat) (C : List (Nat × Nat × Nat)) : Prop where
  own : w.ownsRow 0 35 3 (.slice (some ⟨g, 0, none⟩) s cp) s (flat3 C)
  len : C.length = s
  le : s ≤ 512
  small : ∀ (i : Nat) (c : Nat × Nat × Nat), C[i]? = some c → c.1 ≤ 256 ∧ c.2.1 ≤ 9 ∧ c.2.2 ≤ 512

theorem Rc.below {w w' : World} {g s cp : Nat} {C : List (Nat × Nat × Nat)} (h : Rc w g s cp C) (hb : Below w.heap.size w w') : Rc w' g s cp C := ⟨ro_below h.own hb, h.len, h.le, h.small⟩
theorem cls_small {y s : Nat} {l : List Int} (hv : Vt y l) (hse : 2 ^ y = s) (i : Nat) (c : Nat × Nat × Nat) (hc : (cls y l (spl s l))[i]? = some c) : c.1 ≤ 256 ∧ c.2.1 ≤ 9 ∧ c.2.2 ≤ 512 := by
  have h1 := cla_small hv hse (i : Int)
  rw [(cle_ok hc).2] at h1
  exact ⟨h1.1, h1.2.1, h1.2.2.1⟩
/-- What the reference's Of returns of a valid table. -/
theorem of_rc (w : World) (y s : Nat) (A : Option Addr) (l : List Int) (N c : Nat) (hN : l.length = N) (hv : Vt y l) (hse : 2 ^ y = s) (hR : Ri w A l) :
    Calls Try.prog 13 #[tb y A N c] w fun e w' => ∃ g cp, e = .returned (.tuple #[.slice (some ⟨g, 0, none⟩) s cp, .int .i64 0]) ∧ Rc w' g s cp (cls y l (spl s l)) ∧ Below w.heap.size w w' := by
  have OF := ofc_ok w y A l N c hN hv hR
  rw [cex_ok hv, hse] at OF
  refine OF.mono ?_
  rintro e w2 ⟨A', r, c', rfl, hr, _, ho2, hb2⟩
  have hs1 : 1 ≤ s := by rw [← hse]; exact Nat.one_le_two_pow
  have hs5 : s ≤ 512 := by rw [← hse]; exact hv.size
  rw [cls_s hv hse] at hr
  subst hr
  obtain ⟨g, rfl⟩ := ro_some (by omega) ho2
  exact ⟨g, c', rfl, ⟨ro_base ho2 (Nat.zero_le _), cls_s hv hse, hs5, cls_small hv hse⟩, hb2⟩
set_option maxRecDepth 100000 in
set_option maxHeartbeats 2000000 in
theorem cells_any (w : World) (y s : Nat) (A : Option Addr) (l : List Int) (N c : Nat) (hN : l.length = N) (hv : Vt y l) (hse : 2 ^ y = s) (hR : Ri w A l) :
    Calls Try.prog 18 #[tb y A N c] w fun e w' => ∃ g cp, e = .returned (.slice (some ⟨g, 0, none⟩) s cp) ∧ Rc w' g s cp (cls y l (spl s l)) ∧ Below w.heap.size w w' := by
  have b1 := below_new w (.cells #[.int .i64 (y : Int), .slice A N c] 24)
  have t1 := Tb.new w (y : Int) A N c
  obtain ⟨w1, hw1⟩ : ∃ w1, w.alloc (.cells #[.int .i64 (y : Int), .slice A N c] 24) = w1 := ⟨_, rfl⟩
  rw [hw1] at b1 t1
  have c0 := t1.c0
  have c1 := t1.c1
  have OF := Lib.hid (of_rc w1 y s A l N c hN hv hse (hR.below b1))
  have B1 := Lib.hid b1
  clear b1 t1 hR hN hv hse
  go_enter Try.func18, Try.ntmps18
  go_wp2_with (go_at_call 13; refine OF.out.mono ?_; rintro e w2 ⟨g, cp, rfl, hrc, hb2⟩; have O2 := Lib.hid hrc; have B2 := Lib.hid hb2; clear hrc hb2)
  go_ret
  exact ⟨g, cp, rfl, O2.out, below_on B1.out (Nat.le_refl _) B2.out⟩

/-- Whether a symbol has states. -/
def hsb (l : List Int) (z : Int) : Bool := decide (0 ≤ z) && (match l[z.toNat]? with | some u => decide (u ≠ 0) | none => false)
theorem hsb_pos {y : Nat} {l : List Int} (hv : Vt y l) {z : Int} (h : hsb l z = true) : ∃ x : Nat, z = (x : Int) ∧ 1 ≤ nos l x ∧ x < l.length := by
  unfold hsb at h
  rw [Bool.and_eq_true, decide_eq_true_iff] at h
  obtain ⟨h0, h1⟩ := h
  refine ⟨z.toNat, by omega, ?_⟩
  cases hu : l[z.toNat]? with
  | none => rw [hu] at h1; cases h1
  | some u =>
    rw [hu] at h1
    simp only [decide_eq_true_iff] at h1
    refine ⟨?_, (List.getElem?_eq_some_iff.1 hu).1⟩
    have h2 : -1 ≤ u := by
      have := List.all_eq_true.1 hv.ok u (List.mem_of_getElem? hu)
      simpa using this
    unfold nos
    rw [hu]
    simp only
    unfold sts
    split <;> omega
set_option maxRecDepth 100000 in
set_option maxHeartbeats 2000000 in
theorem has_any (w : World) (y : Int) (A : Option Addr) (l : List Int) (N c : Nat) (z : Int) (hN : l.length = N) (hN2 : N ≤ 1000000) (hR : Ri w A l) :
    Calls Try.prog 23 #[tb y A N c, .int .i64 z] w fun e w' => e = .returned (.bool (hsb l z)) ∧ Below w.heap.size w w' := by
  have b1 := below_new w (.cells #[.int .i64 y, .slice A N c] 24)
  have t1 := Tb.new w y A N c
  obtain ⟨w1, hw1⟩ : ∃ w1, w.alloc (.cells #[.int .i64 y, .slice A N c] 24) = w1 := ⟨_, rfl⟩
  rw [hw1] at b1 t1
  have c0 := t1.c0
  have c1 := t1.c1
  have hR1 := hR.below b1
  have B1 := Lib.hid b1
  by_cases h0 : z < 0
  · have k0 : decide (0 ≤ z) = false := decide_eq_false (by omega)
    have HH : Hid (hsb l z = false) := Lib.hid (by unfold hsb; rw [k0]; rfl)
    rw [HH.out]
    clear b1 t1 hR hR1 hN HH
    go_enter Try.func23, Try.ntmps23
    go_wp2
    go_ret
    exact ⟨rfl, B1.out⟩
  · have k0 : decide (0 ≤ z) = true := decide_eq_true (by omega)
    obtain ⟨x, rfl⟩ : ∃ x : Nat, z = (x : Int) := ⟨z.toNat, by omega⟩
    by_cases h1 : x < N
    · obtain ⟨u, hu⟩ : ∃ u, l[x]? = some u := ⟨_, List.getElem?_eq_getElem (by omega)⟩
      obtain ⟨ad, rfl, hc⟩ := hR1 x (iv u) (by rw [List.getElem?_map, hu]; rfl)
      simp only [iv] at hc
      obtain ⟨R, hRR⟩ : ∃ R, hsb l (x : Int) = R := ⟨_, rfl⟩
      have hne : (u != 0) = R := by
        rw [← hRR]
        unfold hsb
        rw [k0, Int.toNat_natCast, hu]
        simp only [Bool.true_and]
        by_cases h2 : u = 0
        · subst h2; rfl
        · simp [h2]
      rw [hRR]
      have k1 : decide ((x : Int) < (N : Int)) = true := decide_eq_true (by omega)
      have wx : IntKind.i64.wrap (x : Int) = (x : Int) := IntWalk.i64_in _ (by omega)
      clear b1 t1 hR hR1 hN hu hRR
      go_enter Try.func23, Try.ntmps23
      go_wp2
      go_ret
      exact ⟨rfl, B1.out⟩
    · have k1 : decide ((x : Int) < (N : Int)) = false := decide_eq_false (by omega)
      have HH : Hid (hsb l (x : Int) = false) := Lib.hid (by unfold hsb; rw [Int.toNat_natCast, List.getElem?_eq_none (by omega)]; simp)
      rw [HH.out]
      clear b1 t1 hR hR1 hN HH
      go_enter Try.func23, Try.ntmps23
      go_wp2
      go_ret
      exact ⟨rfl, B1.out⟩

set_option maxRecDepth 100000 in
set_option maxHeartbeats 2000000 in
theorem first_any (w : World) (g s cp : Nat) (C : List (Nat × Nat × Nat)) (z : Int) (h : Rc w g s cp C) :
    Calls Try.prog 22 #[.slice (some ⟨g, 0, none⟩) s cp, .int .i64 z] w fun e w' => e = .returned (Tl C z) ∧ w' = w := by
  have hs := h.le
  have H := Lib.hid h
  clear h
  obtain ⟨T, hT⟩ : ∃ T, Tl C z = T := ⟨_, rfl⟩
  rw [hT]
  have HT := Lib.hid hT
  clear hT
  go_enter Try.func22, Try.ntmps22
  go_wp2
  go_loop [6] (fun p => ∃ i : Nat, i ≤ s ∧ p = .int .i64 (i : Int) ∧ Hid (∀ (j : Nat) (d : Nat × Nat × Nat), j < i → C[j]? = some d → isz z d = false)) (fun p => s - (intOf p).toNat)
  case atStart => exact ⟨0, Nat.zero_le _, rfl, Lib.hid (fun j d hj => by omega)⟩
  case round =>
    obtain ⟨i, hi, rfl, HA⟩ := hrel
    by_cases hlt : i < s
    · obtain ⟨⟨x, p, q⟩, hc⟩ : ∃ c, C[i]? = some c := ⟨_, List.getElem?_eq_getElem (by rw [H.out.len]; exact hlt)⟩
      obtain ⟨a0, a1, a2⟩ := row_at H.out.own hc
      simp only [nw] at a0 a1 a2
      have wi : IntKind.i64.wrap (i : Int) = (i : Int) := IntWalk.i64_in _ (by omega)
      by_cases hx : (x : Int) = z
      · have k1 : ((x : Int) == z) = true := by simp [hx]
        have HE : Hid (.tuple #[.int .i64 (i : Int), .int .i64 0] = T) := Lib.hid (by
          rw [← HT.out]
          unfold Tl lwa lwe
          rw [fst_some hc (by unfold isz; exact decide_eq_true hx) HA.out]; rfl)
        clear hc hx
        go_wp2
        go_ret2
        exact ⟨by rw [← HE.out]; rfl, rfl⟩
      · have k1 : ((x : Int) == z) = false := by simp [hx]
        have HN : Hid (∀ (j : Nat) (d : Nat × Nat × Nat), j < i + 1 → C[j]? = some d → isz z d = false) := Lib.hid (fun j d hj hd => by
          rcases Nat.lt_or_ge j i with h1 | h1
          · exact HA.out j d h1 hd
          · have e : j = i := by omega
            subst e
            rw [hc] at hd
            injection hd with hd
            subst hd
            unfold isz
            exact decide_eq_false hx)
        clear hc hx
        go_wp2
        exact ⟨⟨i + 1, by omega, by simp, HN⟩, by simp [intOf]; omega⟩
    · have HE : Hid (.tuple #[.int .i64 0, .int .i64 2] = T) := Lib.hid (by
        rw [← HT.out]
        unfold Tl lwa lwe
        rw [fst_none (fun j d hd => HA.out j d (by have := (List.getElem?_eq_some_iff.1 hd).1; rw [H.out.len] at this; omega) hd)]; rfl)
      go_wp2
      go_ret2
      exact ⟨by rw [← HE.out]; rfl, rfl⟩

set_option maxRecDepth 100000 in
set_option maxHeartbeats 2000000 in
theorem ahead_far (w : World) (g s cp : Nat) (C : List (Nat × Nat × Nat)) (t z : Int) (h : Rc w g s cp C) (ht : t < 0 ∨ (s : Int) ≤ t) :
    Calls Try.prog 20 #[.slice (some ⟨g, 0, none⟩) s cp, .int .i64 t, .int .i64 z] w fun e w' => e = .returned (Tp C t z) ∧ Below w.heap.size w w' := by
  have hs := h.le
  have t1 := Sb.new w 0 0 0
  have b1 := below_new w (.cells #[.int .i64 0, .int .u64 0, .int .i64 0] 44)
  obtain ⟨w1, hw1⟩ : ∃ w1, w.alloc (.cells #[.int .i64 0, .int .u64 0, .int .i64 0] 44) = w1 := ⟨_, rfl⟩
  rw [hw1] at t1 b1
  have HE : Hid (Tp C t z = .tuple #[stv 0 0 0, .int .i64 21]) := Lib.hid (by
    unfold Tp pra pre
    rw [h.len, if_pos ht, if_pos ht]; rfl)
  rw [HE.out]
  obtain ⟨Wa, Wb, Wc, c0, f0, hWa, c1, f1, hWb, c2, f2, hWc, hT, hB, _⟩ := set_step t1 0 0 0 b1 (Nat.le_refl _)
  have FN := Lib.hid (And.intro hT hB)
  clear h t1 b1 hT hB HE
  by_cases h0 : t < 0
  · have k0 : decide (t < 0) = true := decide_eq_true h0
    clear ht
    go_enter Try.func20, Try.ntmps20
    go_wp2
    refine bodyPost_ret (results_cell2 rfl rfl (FN.out).1.load) rfl ?_
    exact ⟨rfl, FN.out.2⟩
  · have k0 : decide (t < 0) = false := decide_eq_false h0
    have k1 : decide ((s : Int) ≤ t) = true := decide_eq_true (by omega)
    clear ht
    go_enter Try.func20, Try.ntmps20
    go_wp2
    refine bodyPost_ret (results_cell2 rfl rfl (FN.out).1.load) rfl ?_
    exact ⟨rfl, FN.out.2⟩

set_option maxRecDepth 100000 in
set_option maxHeartbeats 4000000 in
theorem ahead_mid (w : World) (g s cp : Nat) (C : List (Nat × Nat × Nat)) (t : Nat) (z : Int) (h : Rc w g s cp C) (ht : t < s) :
    Calls Try.prog 20 #[.slice (some ⟨g, 0, none⟩) s cp, .int .i64 (t : Int), .int .i64 z] w fun e w' => e = .returned (Tp C (t : Int) z) ∧ Below w.heap.size w w' := by
  have hs := h.le
  have t1 := Sb.new w 0 0 0
  have b1 := below_new w (.cells #[.int .i64 0, .int .u64 0, .int .i64 0] 44)
  obtain ⟨w1, hw1⟩ : ∃ w1, w.alloc (.cells #[.int .i64 0, .int .u64 0, .int .i64 0] 44) = w1 := ⟨_, rfl⟩
  rw [hw1] at t1 b1
  have H : Hid (Rc w1 g s cp C) := Lib.hid ⟨ro_below h.own b1, h.len, h.le, h.small⟩
  obtain ⟨T, hT⟩ : ∃ T, Tp C (t : Int) z = T := ⟨_, rfl⟩
  have HT := Lib.hid hT
  have ST : Hid (∀ i v p : Int, ∃ Wa Wb Wc,
      w1.cell? ⟨w.heap.size, 0, none⟩ = some (.int .i64 0) ∧ w1.frozen? ⟨w.heap.size, 0, none⟩ = false ∧ w1.setCell ⟨w.heap.size, 0, none⟩ (.int .i64 i) = Wa ∧
      Wa.cell? ⟨w.heap.size, 1, none⟩ = some (.int .u64 0) ∧ Wa.frozen? ⟨w.heap.size, 1, none⟩ = false ∧ Wa.setCell ⟨w.heap.size, 1, none⟩ (.int .u64 v) = Wb ∧
      Wb.cell? ⟨w.heap.size, 2, none⟩ = some (.int .i64 0) ∧ Wb.frozen? ⟨w.heap.size, 2, none⟩ = false ∧ Wb.setCell ⟨w.heap.size, 2, none⟩ (.int .i64 p) = Wc ∧
      Sb Wc w.heap.size i v p ∧ Below w.heap.size w Wc) := Lib.hid (fun i v p => by
    obtain ⟨Wa, Wb, Wc, c0, f0, hWa, c1, f1, hWb, c2, f2, hWc, hT, hB, _⟩ := set_step t1 i v p b1 (Nat.le_refl _)
    exact ⟨Wa, Wb, Wc, c0, f0, hWa, c1, f1, hWb, c2, f2, hWc, hT, hB⟩)
  rw [hT]
  have k0 : decide ((t : Int) < 0) = false := decide_eq_false (by omega)
  have k1 : decide ((s : Int) ≤ (t : Int)) = false := decide_eq_false (by omega)
  have k2 : ¬ s ≤ t := by omega
  clear h t1 b1 hT
  go_enter Try.func20, Try.ntmps20
  go_wp2
  go_loop [8] (fun p => ∃ i : Nat, i ≤ s ∧ p = .int .i64 (i : Int) ∧ Hid (∀ (j : Nat) (d : Nat × Nat × Nat), j < i → C[j]? = some d → hit z (t : Int) d = false)) (fun p => s - (intOf p).toNat)
  case atStart => exact ⟨0, Nat.zero_le _, rfl, Lib.hid (fun j d hj => by omega)⟩
  case round =>
    obtain ⟨i, hi, rfl, HA⟩ := hrel
    by_cases hlt : i < s
    · obtain ⟨⟨x, p, q⟩, hc⟩ : ∃ c, C[i]? = some c := ⟨_, List.getElem?_eq_getElem (by rw [H.out.len]; exact hlt)⟩
      obtain ⟨a0, a1, a2⟩ := row_at H.out.own hc
      obtain ⟨s0, s1, s2⟩ := H.out.small i _ hc
      simp only [nw] at a0 a1 a2 s0 s1 s2
      have wi : IntKind.i64.wrap (i : Int) = (i : Int) := IntWalk.i64_in _ (by omega)
      obtain ⟨D, hD⟩ : ∃ D, 2 ^ p = D := ⟨_, rfl⟩
      have SZ : Hid (∀ W', Calls Try.prog 24 #[.int .i64 (p : Int)] W' fun e w' => e = .returned (.int .i64 (D : Int)) ∧ w' = W') := Lib.hid (fun W' => by
        have := size_any W' (p : Int)
        rwa [siz_pow s1 hD] at this)
      have hDle : D ≤ 512 := by rw [← hD]; exact pow_le s1
      obtain ⟨F, hF⟩ : ∃ F, (t : Int) - (q : Int) = F := ⟨_, rfl⟩
      have hFb : -512 ≤ F ∧ F ≤ 512 := by omega
      have HN : hit z (t : Int) (x, p, q) = false → Hid (∀ (j : Nat) (d : Nat × Nat × Nat), j < i + 1 → C[j]? = some d → hit z (t : Int) d = false) := fun hno => Lib.hid (fun j d hj hd => by
        rcases Nat.lt_or_ge j i with h1 | h1
        · exact HA.out j d h1 hd
        · have e : j = i := by omega
          subst e
          rw [hc] at hd
          injection hd with hd
          subst hd
          exact hno)
      by_cases hx : (x : Int) = z
      · have e1 : ((x : Int) == z) = true := by simp [hx]
        by_cases h2 : 0 ≤ F
        · have e2 : decide (0 ≤ F) = true := decide_eq_true h2
          by_cases h3 : F < (D : Int)
          · have e3 : decide (F < (D : Int)) = true := decide_eq_true h3
            have hh : hit z (t : Int) (x, p, q) = true := by
              rw [hit_iff]
              simp only
              rw [hD]
              exact ⟨hx, by omega, by omega⟩
            obtain ⟨Wa, Wb, Wc, c0, f0, hWa, c1, f1, hWb, c2, f2, hWc, hS, hB⟩ := ST.out (i : Int) F (p : Int)
            have FN := Lib.hid (And.intro hS hB)
            have HE : Hid (.tuple #[stv (i : Int) F (p : Int), .int .i64 0] = T) := Lib.hid (by
              rw [← HT.out]
              unfold Tp pra pre
              rw [H.out.len, if_neg (by omega), if_neg (by omega), fst_some hc hh HA.out]
              simp only [hc, Option.getD_some, Option.isSome_some, if_true]
              have e : (((t : Int) - (q : Int)).toNat : Int) = F := by omega
              rw [e])
            have wF : IntKind.u64.wrap F = F := IntWalk.u64_in _ (by omega)
            clear hc hx HN hh hS hB hD h2 h3
            go_wp2_with (go_at_call 24; refine (SZ.out _).mono ?_; rintro e w1 ⟨rfl, rfl⟩)
            refine bodyPost_ret (results_cell2 rfl rfl (FN.out).1.load) rfl ?_
            exact ⟨by rw [← HE.out]; rfl, FN.out.2⟩
          · have e3 : decide (F < (D : Int)) = false := decide_eq_false h3
            have HM := HN (by
              cases hq : hit z (t : Int) (x, p, q) with
              | false => rfl
              | true => rw [hit_iff] at hq; simp only at hq; rw [hD] at hq; omega)
            clear hc hx HN hD h2 h3
            go_wp2_with (go_at_call 24; refine (SZ.out _).mono ?_; rintro e w1 ⟨rfl, rfl⟩)
            exact ⟨⟨i + 1, by omega, by simp, HM⟩, by simp [intOf]; omega⟩
        · have e2 : decide (0 ≤ F) = false := decide_eq_false h2
          have HM := HN (by
            cases hq : hit z (t : Int) (x, p, q) with
            | false => rfl
            | true => rw [hit_iff] at hq; simp only at hq; omega)
          clear hc hx HN hD h2
          go_wp2
          exact ⟨⟨i + 1, by omega, by simp, HM⟩, by simp [intOf]; omega⟩
      · have e1 : ((x : Int) == z) = false := by simp [hx]
        have HM := HN (hit_no hx)
        clear hc hx HN hD
        go_wp2
        exact ⟨⟨i + 1, by omega, by simp, HM⟩, by simp [intOf]; omega⟩
    · obtain ⟨Wa, Wb, Wc, c0, f0, hWa, c1, f1, hWb, c2, f2, hWc, hS, hB⟩ := ST.out 0 0 0
      have FN := Lib.hid (And.intro hS hB)
      have HE : Hid (.tuple #[stv 0 0 0, .int .i64 2] = T) := Lib.hid (by
        rw [← HT.out]
        unfold Tp pra pre
        rw [H.out.len, if_neg (by omega), if_neg (by omega), fst_none (fun j d hd => HA.out j d (by have := (List.getElem?_eq_some_iff.1 hd).1; rw [H.out.len] at this; omega) hd)]; rfl)
      clear hS hB
      go_wp2
      refine bodyPost_ret (results_cell2 rfl rfl (FN.out).1.load) rfl ?_
      exact ⟨by rw [← HE.out]; rfl, FN.out.2⟩
theorem ahead_any (w : World) (g s cp : Nat) (C : List (Nat × Nat × Nat)) (t z : Int) (h : Rc w g s cp C) :
    Calls Try.prog 20 #[.slice (some ⟨g, 0, none⟩) s cp, .int .i64 t, .int .i64 z] w fun e w' => e = .returned (Tp C t z) ∧ Below w.heap.size w w' := by
  by_cases ht : t < 0 ∨ (s : Int) ≤ t
  · exact ahead_far w g s cp C t z h ht
  · obtain ⟨t', rfl⟩ : ∃ t' : Nat, t = (t' : Int) := ⟨t.toNat, by omega⟩
    exact ahead_mid w g s cp C t' z h (by omega)

set_option maxRecDepth 100000 in
set_option maxHeartbeats 2000000 in
theorem begin_ok (w : World) (y s : Nat) (A : Option Addr) (l : List Int) (N c : Nat) (hN : l.length = N) (hv : Vt y l) (hse : 2 ^ y = s) (hR : Ri w A l) :
    Calls Try.prog 17 #[tb y A N c] w fun e w' => ∃ b, e = .returned (.pointer (some ⟨b, 0, none⟩)) ∧ Cdr w' w.heap.size b y s N l ∧ Below w.heap.size w w' := by
  have b1 := below_new w (.cells #[.int .i64 (y : Int), .slice A N c] 24)
  have t1 := Tb.new w (y : Int) A N c
  obtain ⟨w1, hw1⟩ : ∃ w1, w.alloc (.cells #[.int .i64 (y : Int), .slice A N c] 24) = w1 := ⟨_, rfl⟩
  rw [hw1] at b1 t1
  have c0 := t1.c0
  have c1 := t1.c1
  have NW := Lib.hid (new_ok w1 y s A l N c hN hv hse (hR.below b1))
  have B1 := Lib.hid b1
  clear b1 t1 hR hN hv hse
  go_enter Try.func17, Try.ntmps17
  go_wp2_with (go_at_call 12; refine NW.out.mono ?_; rintro e w2 ⟨b, rfl, hC, hb2⟩; have HC := Lib.hid (hC.base B1.out.size); have B2 := Lib.hid (below_on B1.out (Nat.le_refl _) hb2); clear hC hb2)
  go_ret
  exact ⟨b, rfl, HC.out, B2.out⟩

end Go.Proofs.Ytonapehlhkoplaa
