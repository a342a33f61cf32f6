/-
  What spread.Positions and the reference's Places and Same do: the indices of a symbol, in new memory; whether two slices are equal. Nothing that was there has changed. Conditions: the sizes that each theorem states.
-/
import Derived.Test.YtpiebkkaileocaaSpr
namespace Go.Proofs.Ytpiebkkaileocaa
open Go.RowKit Go.Shelf

/-- The places of a symbol in a list whose first place is i. -/
def pls : Nat → List Nat → Int → List Nat
  | _, [], _ => []
  | i, x :: k, z => if (x : Int) = z then i :: pls (i + 1) k z else pls (i + 1) k z
theorem pls_append (k m : List Nat) (z : Int) : ∀ i, pls i (k ++ m) z = pls i k z ++ pls (i + k.length) m z := by
  induction k with
  | nil => intro i; rfl
  | cons x k ih =>
    intro i
    simp only [List.cons_append, pls, List.length_cons]
    rw [ih, show i + 1 + k.length = i + (k.length + 1) by omega]
    split <;> rfl
theorem pls_step {k : List Nat} {j x : Nat} (z : Int) (h : k[j]? = some x) : pls 0 (k.take (j + 1)) z = pls 0 (k.take j) z ++ (if (x : Int) = z then [j] else []) := by
  have hl : j < k.length := (List.getElem?_eq_some_iff.1 h).1
  rw [take_succ_get h, pls_append, List.length_take, Nat.min_eq_left (Nat.le_of_lt hl), Nat.zero_add]
  rfl
theorem pls_len (z : Int) (k : List Nat) : ∀ i, (pls i k z).length ≤ k.length := by
  induction k with
  | nil => intro i; exact Nat.le_refl _
  | cons x k ih =>
    intro i
    have := ih (i + 1)
    simp only [pls, List.length_cons]
    split
    · simp; omega
    · omega
theorem pls_count (n : Nat) (k : List Nat) : ∀ i, (pls i k (n : Int)).length = k.count n := by
  induction k with
  | nil => intro i; rfl
  | cons x k ih =>
    intro i
    simp only [pls, List.count_cons]
    have h1 := ih (i + 1)
    by_cases h : x = n
    · subst h
      simp [h1]
    · rw [if_neg (by omega), h1]
      simp [h]
theorem pls_take (k : List Nat) (z : Int) (i : Nat) : (pls 0 (k.take i) z).length ≤ i := by
  have h1 := pls_len z (k.take i) 0
  rw [List.length_take] at h1
  omega

set_option maxRecDepth 100000 in
set_option maxHeartbeats 4000000 in
theorem pos_ok (w : World) (y s : Nat) (A : Option Addr) (l : List Int) (N c : Nat) (z : Int) (hN : l.length = N) (hv : Vt y l) (hse : 2 ^ y = s) (hR : Ri w A l) :
    Calls Try.prog 15 #[tb y A N c, .int .i64 z] w fun e w' => ∃ A' r c', e = .returned (.tuple #[.slice A' r c', .int .i64 0]) ∧ w'.ownsRow w.heap.size 3 1 (.slice A' r c') r ((pls 0 (spl s l) z).map nv) ∧ Below w.heap.size w w' := by
  have hs5 : s ≤ 512 := by rw [← hse]; exact hv.size
  have b1 : Below w.heap.size w (w.alloc (.cells #[.int .i64 (y : Int), .slice A N c] 24)) := (Below.refl _ w).alloc (Nat.le_refl _) _
  have t1 := Tb.new w (y : Int) A N c
  obtain ⟨w1, hw1⟩ : ∃ w1, w.alloc (.cells #[.int .i64 (y : Int), .slice A N c] 24) = w1 := ⟨_, rfl⟩
  rw [hw1] at b1 t1
  have c0 := t1.c0
  have c1 := t1.c1
  have SP := Lib.hid (spread_ok w1 y s A l N c hN hv hse (hR.below b1))
  have B1 := Lib.hid b1
  obtain ⟨K, hK⟩ : ∃ K, spl s l = K := ⟨_, rfl⟩
  have HL : Hid (K.length = s) := Lib.hid (by rw [← hK]; exact spl_len s l)
  rw [hK] at SP ⊢
  clear b1 t1 hR hN hv hse hK
  go_enter Try.func15, Try.ntmps15
  go_wp2_with (go_at_call 12; refine SP.out.mono ?_; rintro e w2 ⟨g, rfl, ho2, hb2⟩; have O2 := Lib.hid ho2; have B2 := Lib.hid (below_on B1.out (Nat.le_refl _) hb2); clear ho2 hb2)
  go_loopw [8, 21] (fun v p wr => ∃ (i r c' : Nat) (A' : Option Addr), i ≤ s ∧ r ≤ 512 ∧ p = .int .i64 (i : Int) ∧ v = .slice A' r c' ∧ Hid (wr.ownsRow w2.heap.size 3 1 (.slice A' r c') r ((pls 0 (K.take i) z).map nv)) ∧ Hid (Below w2.heap.size w2 wr)) (fun _ p _ => s - (intOf p).toNat)
  case atStart => exact ⟨0, 0, 0, none, Nat.zero_le _, Nat.zero_le _, rfl, rfl, Lib.hid (own_nil _ _), Lib.hid (Below.refl _ _)⟩
  case round =>
    obtain ⟨i, r, c', A', hi, hr, rfl, rfl, HO, HB⟩ := hrel
    by_cases hlt : i < s
    · obtain ⟨x, hx⟩ : ∃ x, K[i]? = some x := ⟨_, List.getElem?_eq_getElem (by rw [HL.out]; exact hlt)⟩
      have hc : wr.cell? ⟨g, i, none⟩ = some (.int .i64 (x : Int)) := by
        have h5 := O2.out.cellAt i (by omega)
        rw [List.getElem?_map, hx] at h5
        exact (HB.out.cell (cell_lt h5)).trans h5
      have HS := Lib.hid (pls_step z hx)
      have HT : Hid ((pls 0 (K.take (i + 1)) z).length ≤ i + 1) := Lib.hid (pls_take K z (i + 1))
      clear hx
      by_cases h1 : (x : Int) = z
      · have e1 : ((x : Int) == z) = true := by simp [h1]
        have HQ : Hid ((pls 0 (K.take i) z).map nv ++ [.int .i64 (i : Int)] = (pls 0 (K.take (i + 1)) z).map nv) := Lib.hid (by rw [HS.out, if_pos h1]; simp)
        have hrl : Hid (r + 1 ≤ 512) := Lib.hid (by
          have h4 := HT.out
          have h2 := HO.out.1
          rw [HS.out, if_pos h1] at h4
          simp at h4 h2
          omega)
        have H1 := Lib.hid (One.mk' (i : Int) HO.out HB.out)
        clear HS HB h1 HT
        go_wp2_with (at_builtin; refine wpList_append_vals Try.underlying22 int_info rfl rfl _ _ rfl w2.heap.size (.slice A' r c') r ((pls 0 (K.take i) z).map nv) rfl H1.out.own (some ⟨wr.heap.size, 0, none⟩) [.int .i64 (i : Int)] (by simp [Value.oneCell']) 1 1 rfl rfl H1.out.rd (by omega) (by omega) H1.out.size ?_; intro v5 w5 ho5 hg5 he5; obtain ⟨A5, c5, rfl, hc5⟩ := own_form ho5; have O5 := Lib.hid ho5; have B5 := Lib.hid (H1.out.grown hg5); clear ho5 hg5 he5)
        exact ⟨⟨i + 1, r + 1, c5, A5, by omega, hrl.out, by simp, rfl, Lib.hid (by rw [← HQ.out]; exact O5.out), B5⟩, by simp [intOf]; omega⟩
      · have e1 : ((x : Int) == z) = false := by simp [h1]
        have HQ : Hid (pls 0 (K.take (i + 1)) z = pls 0 (K.take i) z) := Lib.hid (by rw [HS.out, if_neg h1, List.append_nil])
        clear HS h1 HT
        go_wp2
        exact ⟨⟨i + 1, r, c', A', by omega, hr, by simp, rfl, Lib.hid (by rw [HQ.out]; exact HO.out), HB⟩, by simp [intOf]; omega⟩
    · have HE : Hid (K.take i = K) := Lib.hid (List.take_of_length_le (by rw [HL.out]; omega))
      go_wp2
      go_ret2
      exact ⟨A', r, c', rfl, own_base (by have := HO.out; rwa [HE.out] at this) B2.out.size, below_on B2.out (Nat.le_refl _) HB.out⟩

set_option maxRecDepth 100000 in
set_option maxHeartbeats 4000000 in
theorem pos_bad (w : World) (y : Int) (A : Option Addr) (l : List Int) (N c : Nat) (z : Int) (hN : l.length = N) (hb : N ≤ 1000000) (hv : vt y l 256 9 = false) (hR : Ri w A l) :
    Calls Try.prog 15 #[tb y A N c, .int .i64 z] w fun e w' => e = .returned (.tuple #[.slice none 0 0, .int .i64 13]) ∧ Below w.heap.size w w' := by
  have b1 : Below w.heap.size w (w.alloc (.cells #[.int .i64 y, .slice A N c] 24)) := (Below.refl _ w).alloc (Nat.le_refl _) _
  have t1 := Tb.new w y A N c
  obtain ⟨w1, hw1⟩ : ∃ w1, w.alloc (.cells #[.int .i64 y, .slice A N c] 24) = w1 := ⟨_, rfl⟩
  rw [hw1] at b1 t1
  have c0 := t1.c0
  have c1 := t1.c1
  have SP := Lib.hid (spread_bad w1 y A l N c hN hb hv (hR.below b1))
  have B1 := Lib.hid b1
  clear b1 t1 hR hN hv
  go_enter Try.func15, Try.ntmps15
  go_wp2_with (go_at_call 12; refine SP.out.mono ?_; rintro e w2 ⟨rfl, hb2⟩; have B2 := Lib.hid (below_on B1.out (Nat.le_refl _) hb2); clear hb2)
  go_ret2
  exact ⟨rfl, B2.out⟩

set_option maxRecDepth 100000 in
set_option maxHeartbeats 4000000 in
theorem places_any (w : World) (A : Option Addr) (K : List Nat) (s c : Nat) (z : Int) (hN : K.length = s) (hs5 : s ≤ 512) (hR : Rn w A K) :
    Calls Try.prog 16 #[.slice A s c, .int .i64 z] w fun e w' => ∃ A' r c', e = .returned (.slice A' r c') ∧ w'.ownsRow w.heap.size 3 1 (.slice A' r c') r ((pls 0 K z).map nv) ∧ Below w.heap.size w w' := by
  have HL := Lib.hid hN
  have HR := Lib.hid hR
  clear hR hN
  go_enter Try.func16, Try.ntmps16
  go_wp2
  go_loopw [5, 6] (fun v p wr => ∃ (i r c' : Nat) (A' : Option Addr), i ≤ s ∧ r ≤ 512 ∧ p = .int .i64 (i : Int) ∧ v = .slice A' r c' ∧ Hid (wr.ownsRow w.heap.size 3 1 (.slice A' r c') r ((pls 0 (K.take i) z).map nv)) ∧ Hid (Below w.heap.size w wr)) (fun _ p _ => s - (intOf p).toNat)
  case atStart => exact ⟨0, 0, 0, none, Nat.zero_le _, Nat.zero_le _, rfl, rfl, Lib.hid (own_nil _ _), Lib.hid (Below.refl _ _)⟩
  case round =>
    obtain ⟨i, r, c', A', hi, hr, rfl, rfl, HO, HB⟩ := hrel
    by_cases hlt : i < s
    · obtain ⟨x, hx⟩ : ∃ x, K[i]? = some x := ⟨_, List.getElem?_eq_getElem (by rw [HL.out]; exact hlt)⟩
      obtain ⟨ad, rfl, hc0⟩ := HR.out i (nv x) (by rw [List.getElem?_map, hx]; rfl)
      have hc := (HB.out.cell (cell_lt hc0)).trans hc0
      simp only [nv] at hc
      have HS := Lib.hid (pls_step z hx)
      have HT : Hid ((pls 0 (K.take (i + 1)) z).length ≤ i + 1) := Lib.hid (pls_take K z (i + 1))
      clear hx hc0
      by_cases h1 : (x : Int) = z
      · have e1 : ((x : Int) == z) = true := by simp [h1]
        have HQ : Hid ((pls 0 (K.take i) z).map nv ++ [.int .i64 (i : Int)] = (pls 0 (K.take (i + 1)) z).map nv) := Lib.hid (by rw [HS.out, if_pos h1]; simp)
        have hrl : Hid (r + 1 ≤ 512) := Lib.hid (by
          have h4 := HT.out
          have h2 := HO.out.1
          rw [HS.out, if_pos h1] at h4
          simp at h4 h2
          omega)
        have H1 := Lib.hid (One.mk' (i : Int) HO.out HB.out)
        clear HS HB h1 HT
        go_wp2_with (at_builtin; refine wpList_append_vals Try.underlying22 int_info rfl rfl _ _ rfl w.heap.size (.slice A' r c') r ((pls 0 (K.take i) z).map nv) rfl H1.out.own (some ⟨wr.heap.size, 0, none⟩) [.int .i64 (i : Int)] (by simp [Value.oneCell']) 1 1 rfl rfl H1.out.rd (by omega) (by omega) H1.out.size ?_; intro v5 w5 ho5 hg5 he5; obtain ⟨A5, c5, rfl, hc5⟩ := own_form ho5; have O5 := Lib.hid ho5; have B5 := Lib.hid (H1.out.grown hg5); clear ho5 hg5 he5)
        exact ⟨⟨i + 1, r + 1, c5, A5, by omega, hrl.out, by simp, rfl, Lib.hid (by rw [← HQ.out]; exact O5.out), B5⟩, by simp [intOf]; omega⟩
      · have e1 : ((x : Int) == z) = false := by simp [h1]
        have HQ : Hid (pls 0 (K.take (i + 1)) z = pls 0 (K.take i) z) := Lib.hid (by rw [HS.out, if_neg h1, List.append_nil])
        clear HS h1 HT
        go_wp2
        exact ⟨⟨i + 1, r, c', A', by omega, hr, by simp, rfl, Lib.hid (by rw [HQ.out]; exact HO.out), HB⟩, by simp [intOf]; omega⟩
    · have HE : Hid (K.take i = K) := Lib.hid (List.take_of_length_le (by rw [HL.out]; omega))
      go_wp2
      go_ret
      exact ⟨A', r, c', rfl, by have := HO.out; rwa [HE.out] at this, HB.out⟩

set_option maxRecDepth 100000 in
set_option maxHeartbeats 2000000 in
theorem same_any (w : World) (A A2 : Option Addr) (l m : List Nat) (n c n2 c2 : Nat) (hn : l.length = n) (hn2 : m.length = n2) (hb : n ≤ 1000000000) (hR : Rn w A l) (hR2 : Rn w A2 m) :
    Calls Try.prog 14 #[.slice A n c, .slice A2 n2 c2] w fun e w' => e = .returned (.bool (decide (l = m))) ∧ Below w.heap.size w w' := by
  obtain ⟨R, hRR⟩ : ∃ R, decide (l = m) = R := ⟨_, rfl⟩
  rw [hRR]
  have HR := Lib.hid hRR
  have R1 := Lib.hid hR
  have R2 := Lib.hid hR2
  have HN := Lib.hid hn
  have HN2 := Lib.hid hn2
  clear hRR hR hR2 hn hn2
  by_cases hl : n = n2
  · subst hl
    go_enter Try.func14, Try.ntmps14
    go_wp2
    go_loopw [5] (fun p wr => ∃ i : Nat, i ≤ n ∧ p = .int .i64 (i : Int) ∧ Hid (l.take i = m.take i) ∧ ∃ d, wr = w.drewN d) (fun p _ => n - (intOf p).toNat)
    case atStart => exact ⟨0, Nat.zero_le _, rfl, Lib.hid (by simp), 0, rfl⟩
    case round =>
      obtain ⟨i, hi, rfl, HA, d, rfl⟩ := hrel
      by_cases hlt : i < n
      · obtain ⟨x, hx⟩ : ∃ x, l[i]? = some x := ⟨_, List.getElem?_eq_getElem (by rw [HN.out]; exact hlt)⟩
        obtain ⟨u, hu⟩ : ∃ u, m[i]? = some u := ⟨_, List.getElem?_eq_getElem (by rw [HN2.out]; exact hlt)⟩
        obtain ⟨ad, rfl, hc⟩ := R1.out i (nv x) (by rw [List.getElem?_map, hx]; rfl)
        obtain ⟨ad2, rfl, hc2⟩ := R2.out i (nv u) (by rw [List.getElem?_map, hu]; rfl)
        have wi : IntKind.i64.wrap (i : Int) = (i : Int) := IntWalk.i64_in _ (by omega)
        by_cases hxu : x = u
        · subst hxu
          have HT : Hid (l.take (i + 1) = m.take (i + 1)) := Lib.hid (by rw [take_succ_get hx, take_succ_get hu, HA.out])
          clear hx hu
          go_wp2
          go_region
          all_goals
            go_wp2
            exact ⟨⟨i + 1, by omega, by simp, HT, d + 1, rfl⟩, by simp [intOf]; omega⟩
        · have HE : Hid (R = false) := Lib.hid (by
            rw [← HR.out, decide_eq_false_iff_not]
            rintro rfl
            rw [hx] at hu
            exact hxu (Option.some.inj hu))
          have hne : ((x : Int) != (u : Int)) = true := by simp; omega
          have hne2 : (x != u) = true := by simp [hxu]
          clear hx hu
          go_wp2
          go_region
          all_goals
            go_wp2
            go_ret
            exact ⟨by rw [HE.out]; rfl, below_drewN' (Below.refl _ w) (d + 1)⟩
      · have HE : Hid (R = true) := Lib.hid (by
          rw [← HR.out, decide_eq_true_iff]
          have := HA.out
          rwa [List.take_of_length_le (by rw [HN.out]; omega), List.take_of_length_le (by rw [HN2.out]; omega)] at this)
        go_wp2
        go_ret
        exact ⟨by rw [HE.out]; rfl, below_drewN' (Below.refl _ w) d⟩
  · have HE : Hid (R = false) := Lib.hid (by
      rw [← HR.out, decide_eq_false_iff_not]
      rintro rfl
      exact hl (HN.out.symm.trans HN2.out))
    go_enter Try.func14, Try.ntmps14
    go_wp2
    go_ret
    exact ⟨by rw [HE.out]; rfl, Below.refl _ _⟩

end Go.Proofs.Ytpiebkkaileocaa
