/-
  What rareSymbols and otherStates do: they return the rare symbols, and the symbol of each other state, in new memory. Nothing that was there has changed. Condition: the norms are those of a valid table.
-/
import Derived.Test.YtonapehlhkoplaaMap
namespace Go.Proofs.Ytonapehlhkoplaa
open Go.RowKit Go.Shelf

theorem rs_take_le (l : List Int) (i : Nat) : (rs 0 (l.take i)).length ≤ (rs 0 l).length := by
  conv => rhs; rw [← List.take_append_drop i l, rs_append, List.length_append]
  omega
theorem ors_take_le (l : List Int) (i : Nat) : (ors 0 (l.take i)).length ≤ (ors 0 l).length := by
  conv => rhs; rw [← List.take_append_drop i l, ors_append, List.length_append]
  omega

set_option maxRecDepth 100000 in
set_option maxHeartbeats 2000000 in
theorem rare_any (w : World) (y : Nat) (A : Option Addr) (l : List Int) (N c : Nat) (hN : l.length = N) (hv : Vt y l) (hR : Ri w A l) :
    Calls Try.prog 40 #[.slice A N c] w fun e w' => ∃ A' r c', e = .returned (.slice A' r c') ∧ w'.ownsRow w.heap.size 3 1 (.slice A' r c') r ((rs 0 l).map nv) ∧ Below w.heap.size w w' := by
  have hN2 : N ≤ 256 := by rw [← hN]; exact hv.len
  have HT : Hid (∀ i, (rs 0 (l.take i)).length ≤ 512) := Lib.hid (fun i => by have h1 := rs_take_le l i; have h2 := hv.total; have h3 := hv.size; omega)
  have HN := Lib.hid hN
  have HR := Lib.hid hR
  clear hN hR hv
  go_enter Try.func40, Try.ntmps40
  go_wp2
  go_loopw [3, 8] (fun v p wr => ∃ (i r c' : Nat) (A' : Option Addr), i ≤ N ∧ r ≤ 512 ∧ p = .int .i64 (i : Int) ∧ v = .slice A' r c' ∧ Hid (wr.ownsRow w.heap.size 3 1 (.slice A' r c') r ((rs 0 (l.take i)).map nv)) ∧ Hid (Below w.heap.size w wr)) (fun _ p _ => N - (intOf p).toNat)
  case atStart => exact ⟨0, 0, 0, none, Nat.zero_le _, Nat.zero_le _, rfl, rfl, Lib.hid (own_nil _ _), Lib.hid (Below.refl _ _)⟩
  case round =>
    obtain ⟨i, r, c', A', hi, hr, rfl, rfl, HO, HB⟩ := hrel
    by_cases hlt : i < N
    · obtain ⟨x, hx⟩ : ∃ x, l[i]? = some x := ⟨_, List.getElem?_eq_getElem (by rw [HN.out]; exact hlt)⟩
      obtain ⟨ad, rfl, hc0⟩ := HR.out i (iv x) (by rw [List.getElem?_map, hx]; rfl)
      have hc := (HB.out.cell (cell_lt hc0)).trans hc0
      simp only [iv] at hc
      have HS := Lib.hid (rs_step hx)
      clear hc0 hx
      by_cases h1 : x = -1
      · subst h1
        have HQ : Hid ((rs 0 (l.take i)).map nv ++ [.int .i64 (i : Int)] = (rs 0 (l.take (i + 1))).map nv) := Lib.hid (by rw [HS.out]; simp)
        have hrl : Hid (r + 1 ≤ 512) := Lib.hid (by
          have h1 := HT.out (i + 1)
          have h2 := HO.out.1
          rw [HS.out] at h1
          simp at h1 h2
          omega)
        have H1 := Lib.hid (One.mk' (i : Int) HO.out HB.out)
        clear HS HB
        go_wp2_with (at_builtin; refine wpList_append_vals Try.underlying22 int_info rfl rfl _ _ rfl w.heap.size (.slice A' r c') r ((rs 0 (l.take i)).map nv) rfl H1.out.own (some ⟨wr.heap.size, 0, none⟩) [.int .i64 (i : Int)] (by simp [Value.oneCell']) 1 1 rfl rfl H1.out.rd (by omega) (by omega) H1.out.size ?_; intro v5 w5 ho5 hg5 he5; obtain ⟨A5, c5, rfl, hc5⟩ := own_form ho5; have O5 := Lib.hid ho5; have B5 := Lib.hid (H1.out.grown hg5); clear ho5 hg5 he5)
        exact ⟨⟨i + 1, r + 1, c5, A5, by omega, hrl.out, by simp, rfl, Lib.hid (by rw [← HQ.out]; exact O5.out), B5⟩, by simp [intOf]; omega⟩
      · have e1 : (x == -1) = false := by simp [h1]
        have HQ : Hid (rs 0 (l.take (i + 1)) = rs 0 (l.take i)) := Lib.hid (by rw [HS.out, if_neg h1, List.append_nil])
        clear HS h1
        go_wp2
        exact ⟨⟨i + 1, r, c', A', by omega, hr, by simp, rfl, Lib.hid (by rw [HQ.out]; exact HO.out), HB⟩, by simp [intOf]; omega⟩
    · have HE : Hid (l.take i = l) := Lib.hid (List.take_of_length_le (by rw [HN.out]; omega))
      go_wp2
      go_ret
      exact ⟨A', r, c', rfl, by have := HO.out; rwa [HE.out] at this, HB.out⟩

set_option maxRecDepth 100000 in
set_option maxHeartbeats 2000000 in
theorem other_any (w : World) (y : Nat) (A : Option Addr) (l : List Int) (N c : Nat) (hN : l.length = N) (hv : Vt y l) (hR : Ri w A l) :
    Calls Try.prog 42 #[.slice A N c] w fun e w' => ∃ A' r c', e = .returned (.slice A' r c') ∧ w'.ownsRow w.heap.size 3 1 (.slice A' r c') r ((ors 0 l).map nv) ∧ Below w.heap.size w w' := by
  have hN2 : N ≤ 256 := by rw [← hN]; exact hv.len
  have HT : Hid (∀ i, (ors 0 (l.take i)).length ≤ 512) := Lib.hid (fun i => by have h1 := ors_take_le l i; have h2 := hv.total; have h3 := hv.size; omega)
  have HN := Lib.hid hN
  have HR := Lib.hid hR
  clear hN hR hv
  go_enter Try.func42, Try.ntmps42
  go_wp2
  go_loopw [3, 8] (fun v p wr => ∃ (i r c' : Nat) (A' : Option Addr), i ≤ N ∧ r ≤ 512 ∧ p = .int .i64 (i : Int) ∧ v = .slice A' r c' ∧ Hid (wr.ownsRow w.heap.size 3 1 (.slice A' r c') r ((ors 0 (l.take i)).map nv)) ∧ Hid (Below w.heap.size w wr)) (fun _ p _ => N - (intOf p).toNat)
  case atStart => exact ⟨0, 0, 0, none, Nat.zero_le _, Nat.zero_le _, rfl, rfl, Lib.hid (own_nil _ _), Lib.hid (Below.refl _ _)⟩
  case round =>
    obtain ⟨i, r, c', A', hi, hr, rfl, rfl, HO, HB⟩ := hrel
    by_cases hlt : i < N
    · obtain ⟨x, hx⟩ : ∃ x, l[i]? = some x := ⟨_, List.getElem?_eq_getElem (by rw [HN.out]; exact hlt)⟩
      obtain ⟨ad, rfl, hc0⟩ := HR.out i (iv x) (by rw [List.getElem?_map, hx]; rfl)
      have hc := (HB.out.cell (cell_lt hc0)).trans hc0
      simp only [iv] at hc
      have HS := Lib.hid (ors_step hx)
      clear hc0 hx
      by_cases h1 : x ≤ 0
      · have HQ : Hid (ors 0 (l.take (i + 1)) = ors 0 (l.take i)) := Lib.hid (by rw [HS.out, show x.toNat = 0 by omega]; simp)
        have e1 : decide (0 < x) = false := decide_eq_false (by omega)
        clear HS
        go_wp2
        go_loopw [3, 14] (fun v p wr2 => v = .slice A' r c' ∧ p = .int .i64 0 ∧ wr2 = wr) (fun _ _ _ => 0)
        case atStart => exact ⟨rfl, rfl, rfl⟩
        case round =>
          obtain ⟨rfl, rfl, rfl⟩ := hrel
          go_wp2
          exact ⟨⟨i + 1, r, c', A', by omega, hr, by simp, rfl, Lib.hid (by rw [HQ.out]; exact HO.out), HB⟩, by simp [intOf]; omega⟩
      · obtain ⟨q, rfl⟩ : ∃ q : Nat, x = (q : Int) := ⟨x.toNat, by omega⟩
        have hq : Hid (r + q ≤ 512) := Lib.hid (by
          have h1 := HT.out (i + 1)
          have h2 := HO.out.1
          rw [HS.out] at h1
          simp at h1 h2
          omega)
        have hq5 : q ≤ 512 := by have := hq.out; omega
        have HQ : Hid (ors 0 (l.take (i + 1)) = ors 0 (l.take i) ++ List.replicate q i) := Lib.hid (by rw [HS.out, Int.toNat_natCast])
        clear HS h1
        go_wp2
        go_loopw [3, 14] (fun v p wr2 => ∃ (j r2 c2 : Nat) (A2 : Option Addr), j ≤ q ∧ r2 ≤ 512 ∧ p = .int .i64 (j : Int) ∧ v = .slice A2 r2 c2 ∧ Hid (r2 = r + j) ∧ Hid (wr2.ownsRow w.heap.size 3 1 (.slice A2 r2 c2) r2 ((ors 0 (l.take i) ++ List.replicate j i).map nv)) ∧ Hid (Below w.heap.size w wr2)) (fun _ p _ => q - (intOf p).toNat)
        case atStart => exact ⟨0, r, c', A', Nat.zero_le _, hr, rfl, rfl, Lib.hid rfl, Lib.hid (by simpa using HO.out), HB⟩
        case round =>
          obtain ⟨j, r2, c2, A2, hj, hr2, rfl, rfl, HE2, HO2, HB2⟩ := hrel
          by_cases hjq : j < q
          · have hr3 : Hid (r2 + 1 ≤ 512) := Lib.hid (by have h1 := hq.out; have h2 := HE2.out; omega)
            have HE3 : Hid (r2 + 1 = r + (j + 1)) := Lib.hid (by have h2 := HE2.out; omega)
            have HQ2 : Hid ((ors 0 (l.take i) ++ List.replicate j i).map nv ++ [.int .i64 (i : Int)] = (ors 0 (l.take i) ++ List.replicate (j + 1) i).map nv) := Lib.hid (by rw [List.replicate_succ']; simp)
            have H1 := Lib.hid (One.mk' (i : Int) HO2.out HB2.out)
            clear HB2 HE2
            go_wp2_with (at_builtin; refine wpList_append_vals Try.underlying22 int_info rfl rfl _ _ rfl w.heap.size (.slice A2 r2 c2) r2 ((ors 0 (l.take i) ++ List.replicate j i).map nv) rfl H1.out.own (some ⟨wr.heap.size, 0, none⟩) [.int .i64 (i : Int)] (by simp [Value.oneCell']) 1 1 rfl rfl H1.out.rd (by omega) (by omega) H1.out.size ?_; intro v5 w5 ho5 hg5 he5; obtain ⟨A5, c5, rfl, hc5⟩ := own_form ho5; have O5 := Lib.hid ho5; have B5 := Lib.hid (H1.out.grown hg5); clear ho5 hg5 he5)
            exact ⟨⟨j + 1, r2 + 1, c5, A5, by omega, hr3.out, by simp, rfl, HE3, Lib.hid (by rw [← HQ2.out]; exact O5.out), B5⟩, by simp [intOf]; omega⟩
          · have HJ : Hid (j = q) := Lib.hid (by omega)
            go_wp2
            exact ⟨⟨i + 1, r2, c2, A2, by omega, hr2, by simp, rfl, Lib.hid (by rw [HQ.out, ← HJ.out]; exact HO2.out), HB2⟩, by simp [intOf]; omega⟩
    · have HE : Hid (l.take i = l) := Lib.hid (List.take_of_length_le (by rw [HN.out]; omega))
      go_wp2
      go_ret
      exact ⟨A', r, c', rfl, by have := HO.out; rwa [HE.out] at this, HB.out⟩

end Go.Proofs.Ytonapehlhkoplaa
