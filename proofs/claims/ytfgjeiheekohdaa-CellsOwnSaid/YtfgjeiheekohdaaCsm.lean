/-
  What the reference's Same of layer 9 does: it tells whether two rows of cells are equal. Only new memory. Condition: the rows are the call's own.
-/
import Derived.Test.YtfgjeiheekohdaaBui
namespace Go.Proofs.Ytfgjeiheekohdaa
open Go.RowKit Go.Shelf

theorem csm_len {C D : List (Nat × Nat × Nat)} (h : C.length ≠ D.length) : decide (C = D) = false := decide_eq_false (fun e => h (by rw [e]))
theorem csm_at {C D : List (Nat × Nat × Nat)} {i : Nat} {a b : Nat × Nat × Nat} (h1 : C[i]? = some a) (h2 : D[i]? = some b) (h : a ≠ b) : decide (C = D) = false :=
  decide_eq_false (fun e => h (by rw [e, h2] at h1; exact (Option.some.inj h1).symm))
theorem csm_yes {C D : List (Nat × Nat × Nat)} {i : Nat} (h : C.take i = D.take i) (h1 : C.length ≤ i) (h2 : D.length ≤ i) : decide (C = D) = true := by
  rw [List.take_of_length_le h1, List.take_of_length_le h2] at h
  exact decide_eq_true h
theorem ro_len3 {W : World} {B : Nat} {v : Value} {e : TypeId} {n : Nat} {C : List (Nat × Nat × Nat)} (h : W.ownsRow B e 3 v n (flat3 C)) : C.length = n := by
  have := h.1
  rw [flat3_len] at this
  omega

set_option maxRecDepth 100000 in
set_option maxHeartbeats 2000000 in
theorem csame_any (w : World) (A A2 : Option Addr) (C D : List (Nat × Nat × Nat)) (n c n2 c2 B B2 : Nat) (hb : n ≤ 1000000) (ho : w.ownsRow B 45 3 (.slice A n c) n (flat3 C)) (ho2 : w.ownsRow B2 45 3 (.slice A2 n2 c2) n2 (flat3 D)) :
    Calls Try.prog 14 #[.slice A n c, .slice A2 n2 c2] w fun e w' => e = .returned (.bool (decide (C = D))) ∧ Below w.heap.size w w' := by
  obtain ⟨R, hRR⟩ : ∃ R, decide (C = D) = R := ⟨_, rfl⟩
  rw [hRR]
  have HR := Lib.hid hRR
  clear hRR
  have HN := Lib.hid (ro_len3 ho)
  have HN2 := Lib.hid (ro_len3 ho2)
  have O1 := Lib.hid ho
  have O2 := Lib.hid ho2
  clear ho ho2
  by_cases hl : n = n2
  · subst hl
    go_enter Try.func14, Try.ntmps14
    go_wp2
    go_loopw [5] (fun p wr => ∃ i : Nat, i ≤ n ∧ p = .int .i64 (i : Int) ∧ Hid (C.take i = D.take i) ∧ ∃ d, wr = w.drewN d) (fun p _ => n - (intOf p).toNat)
    case atStart => exact ⟨0, Nat.zero_le _, rfl, Lib.hid (by simp), 0, rfl⟩
    case round =>
      obtain ⟨i, hi, rfl, HA, d, rfl⟩ := hrel
      by_cases hlt : i < n
      · obtain ⟨⟨x0, x1, x2⟩, hx⟩ : ∃ x, C[i]? = some x := ⟨_, List.getElem?_eq_getElem (by rw [HN.out]; exact hlt)⟩
        obtain ⟨⟨u0, u1, u2⟩, hu⟩ : ∃ u, D[i]? = some u := ⟨_, List.getElem?_eq_getElem (by rw [HN2.out]; exact hlt)⟩
        obtain ⟨g, rfl⟩ := ro_some (by omega) O1.out
        obtain ⟨g2, rfl⟩ := ro_some (by omega) O2.out
        obtain ⟨e0, e1, e2⟩ := row_at O1.out hx
        obtain ⟨f0, f1, f2⟩ := row_at O2.out hu
        simp only [nw] at e0 e1 e2 f0 f1 f2
        by_cases hxu : x0 = u0 ∧ x1 = u1 ∧ x2 = u2
        · obtain ⟨rfl, rfl, rfl⟩ := hxu
          have HT : Hid (C.take (i + 1) = D.take (i + 1)) := Lib.hid (by rw [take_succ_get hx, take_succ_get hu, HA.out])
          clear hx hu
          go_wp2
          go_quiet (fail)
          go_wp2
          exact ⟨⟨i + 1, by omega, by simp, HT, d + nq, rfl⟩, by simp [intOf]; omega⟩
        · have HE : Hid (R = false) := Lib.hid (by rw [← HR.out]; exact csm_at hx hu (fun e => hxu (by injection e with e1 e2; injection e2 with e2 e3; exact ⟨e1, e2, e3⟩)))
          clear hx hu
          by_cases h0 : x0 = u0
          · subst h0
            by_cases h1 : x1 = u1
            · subst h1
              have h2 : ¬ x2 = u2 := fun e => hxu ⟨rfl, rfl, e⟩
              have h2' : ((x2 : Int) == (u2 : Int)) = false := by simp; omega
              clear hxu
              go_wp2
              go_quiet (fail)
              go_wp2
              go_ret
              exact ⟨by rw [HE.out]; rfl, below_drewN' (below_drewN' (Below.refl _ w) d) nq⟩
            · have h1' : ((x1 : Int) == (u1 : Int)) = false := by simp; omega
              clear hxu
              go_wp2
              go_quiet (fail)
              go_wp2
              go_ret
              exact ⟨by rw [HE.out]; rfl, below_drewN' (below_drewN' (Below.refl _ w) d) nq⟩
          · have h0' : ((x0 : Int) == (u0 : Int)) = false := by simp; omega
            clear hxu
            go_wp2
            go_quiet (fail)
            go_wp2
            go_ret
            exact ⟨by rw [HE.out]; rfl, below_drewN' (below_drewN' (Below.refl _ w) d) nq⟩
      · have HE : Hid (R = true) := Lib.hid (by rw [← HR.out]; exact csm_yes HA.out (by rw [HN.out]; omega) (by rw [HN2.out]; omega))
        go_wp2
        go_ret
        exact ⟨by rw [HE.out]; rfl, below_drewN' (Below.refl _ w) d⟩
  · have HE : Hid (R = false) := Lib.hid (by rw [← HR.out]; exact csm_len (by rw [HN.out, HN2.out]; exact hl))
    go_enter Try.func14, Try.ntmps14
    go_wp2
    go_ret
    exact ⟨by rw [HE.out]; rfl, Below.refl _ _⟩

end Go.Proofs.Ytfgjeiheekohdaa
