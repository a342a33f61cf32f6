/-
  What fromTop and list do: the rare symbols get the highest indices; the symbols in the order of their indices. Only the map and new memory differ. Conditions: the sizes are those of a valid table.
-/
import Derived.Test.YtonapehlhkoplaaMap
namespace Go.Proofs.Ytonapehlhkoplaa
open Go.RowKit Go.Shelf

set_option maxRecDepth 100000 in
set_option maxHeartbeats 2000000 in
theorem top_any (w : World) (b s : Nat) (A : Option Addr) (k : List Nat) (N c : Nat) (hN : k.length = N) (hs : s ≤ 512) (hNs : N ≤ s) (hk : ∀ x ∈ k, x ≤ 1000) (hm : Mp w b 0 (fun _ => none)) (hR : Rn w A k) (hA : ∀ ad, A = some ad → ad.block ≠ b) :
    Calls Try.prog 39 #[.map (some b), .int .i64 (s : Int), .slice A N c] w fun e w' => e = .returned (.tuple #[]) ∧ Mp w' b N (m0 s k) ∧ w.grownBy w' (some b) := by
  have HN := Lib.hid hN
  have HR := Lib.hid hR
  have HA := Lib.hid hA
  have HK := Lib.hid hk
  have HM := Lib.hid hm
  clear hN hR hA hk hm
  go_enter Try.func39, Try.ntmps39
  go_wp2
  go_loopw [10] (fun p wr => ∃ i : Nat, i ≤ N ∧ p = .int .i64 (i : Int) ∧ Hid (Mp wr b i (m0 s (k.take i))) ∧ Hid (w.grownBy wr (some b))) (fun p _ => N - (intOf p).toNat)
  case atStart => exact ⟨0, Nat.zero_le _, rfl, Lib.hid (by rw [List.take_zero, m0_nil]; exact HM.out), Lib.hid (World.grownBy.refl _ _)⟩
  case round =>
    obtain ⟨i, hi, rfl, HI, HG⟩ := hrel
    by_cases hlt : i < N
    · obtain ⟨x, hx⟩ : ∃ x, k[i]? = some x := ⟨_, List.getElem?_eq_getElem (by rw [HN.out]; exact hlt)⟩
      obtain ⟨ad, hA, hc0⟩ := HR.out i (nv x) (by rw [List.getElem?_map, hx]; rfl)
      have hc : wr.cell? (ad.add i) = some (.int .i64 (x : Int)) := by
        rw [← hc0]
        exact World.cell?_of_block (HG.out.block _ (cell_lt hc0) (by rw [addr_add_block]; exact fun e => HA.out ad hA (Option.some.inj e)))
      subst hA
      have hxb : x ≤ 1000 := HK.out x (List.mem_of_getElem? hx)
      obtain ⟨w1, hrun, hm1, hg1⟩ := HI.out.store (i := s - 1 - i) (x := x) (by omega) (by omega) (by omega)
      rw [m0_step (by omega) hx] at hm1
      have he : (s : Int) - 1 - (i : Int) = ((s - 1 - i : Nat) : Int) := by omega
      obtain ⟨q, hq⟩ : ∃ q, s - 1 - i = q := ⟨_, rfl⟩
      rw [hq] at hrun he
      have hqb : q ≤ 512 := by omega
      have M1 := Lib.hid hm1
      have G1 := Lib.hid (grown_trans HG.out hg1)
      clear hc0 hx hm1 hg1 hq
      go_wp2
      exact ⟨⟨i + 1, by omega, by simp, M1, G1⟩, by simp [intOf]; omega⟩
    · have HE : Hid (i = N) := Lib.hid (by omega)
      go_wp2
      go_end0
      refine ⟨rfl, ?_, HG.out⟩
      have := HI.out
      rw [HE.out, List.take_of_length_le (by rw [HN.out]; exact Nat.le_refl _)] at this
      exact this

/-- The symbols of the first i indices; what is behind them is 0. -/
def lis (m : Nat → Option Nat) (s i : Nat) : List Nat := (List.range s).map (fun j => if j < i then (m j).getD 0 else 0)
theorem lis_zero (m : Nat → Option Nat) (s : Nat) : lis m s 0 = List.replicate s 0 := by
  refine List.ext_getElem? fun j => ?_
  rcases Nat.lt_or_ge j s with h | h
  · simp [lis, h]
  · simp [lis, h]
theorem lis_set (m : Nat → Option Nat) (s i : Nat) : (lis m s i).set i ((m i).getD 0) = lis m s (i + 1) := by
  refine List.ext_getElem? fun j => ?_
  rw [List.getElem?_set]
  rcases Nat.lt_or_ge j s with h | h
  · by_cases hij : i = j
    · subst hij
      simp [lis, h]
    · have h3 : (j < i + 1) = (j < i) := by apply propext; omega
      simp [lis, h, hij, h3]
  · have h2 : (lis m s (i + 1))[j]? = none := List.getElem?_eq_none (by simp [lis]; exact h)
    rw [h2]
    split
    · rw [if_neg (by simp [lis]; omega)]
    · exact List.getElem?_eq_none (by simp [lis]; exact h)
theorem lis_all (m : Nat → Option Nat) (s : Nat) : lis m s s = (List.range s).map (fun j => (m j).getD 0) := by
  refine List.map_congr_left fun j hj => ?_
  rw [if_pos (List.mem_range.1 hj)]

set_option maxRecDepth 100000 in
set_option maxHeartbeats 2000000 in
theorem list_any (w : World) (b s n : Nat) (m : Nat → Option Nat) (hs : s ≤ 512) (hm : Mp w b n m) :
    Calls Try.prog 43 #[.map (some b), .int .i64 (s : Int)] w fun e w' => ∃ g, e = .returned (.slice (some ⟨g, 0, none⟩) s s) ∧ w'.ownsRow w.heap.size 3 1 (.slice (some ⟨g, 0, none⟩) s s) s (((List.range s).map (fun j => (m j).getD 0)).map nv) ∧ Below w.heap.size w w' := by
  obtain ⟨w1, mk, ho1, hb1⟩ := make_ints s (by omega) w
  have e0 : (List.replicate s (0 : Int)).map iv = (lis m s 0).map nv := by rw [lis_zero]; simp
  rw [e0] at ho1
  obtain ⟨g, hg⟩ : ∃ g, w.heap.size = g := ⟨_, rfl⟩
  have HW : Hid (w.heap.size = g) := Lib.hid hg
  rw [hg] at mk ho1
  have O1 := Lib.hid ho1
  have B1 := Lib.hid hb1
  have HM := Lib.hid hm
  clear ho1 hb1 hm hg
  go_enter Try.func43, Try.ntmps43
  go_wp2
  go_loopw [11] (fun p wr => ∃ i : Nat, i ≤ s ∧ p = .int .i64 (i : Int) ∧ Hid (wr.ownsRow g 3 1 (.slice (some ⟨g, 0, none⟩) s s) s ((lis m s i).map nv)) ∧ Hid (Below w.heap.size w wr)) (fun p _ => s - (intOf p).toNat)
  case atStart => exact ⟨0, Nat.zero_le _, rfl, O1, B1⟩
  case round =>
    obtain ⟨i, hi, rfl, HO, HB⟩ := hrel
    by_cases hlt : i < s
    · have hlk := (HM.out.below HB.out).look (i := i) (by omega)
      obtain ⟨x, hx⟩ : ∃ x, (m i).getD 0 = x := ⟨_, rfl⟩
      rw [hx] at hlk
      obtain ⟨w2, hw2⟩ : ∃ w2, wr.setCell ⟨g, i, none⟩ (.int .i64 (x : Int)) = w2 := ⟨_, rfl⟩
      have O2 : Hid (w2.ownsRow g 3 1 (.slice (some ⟨g, 0, none⟩) s s) s ((lis m s (i + 1)).map nv)) := Lib.hid (by
        rw [← hw2, ← lis_set, hx, List.map_set]
        exact (HO.out.stored i _).1)
      have B2 : Hid (Below w.heap.size w w2) := Lib.hid (by
        rw [← hw2]
        exact HB.out.setCell (p := ⟨g, i, none⟩) (by rw [HW.out]; exact Nat.le_refl _) _)
      have hce : wr.cell? ⟨g, i, none⟩ = some (.int .i64 (((if i < i then (m i).getD 0 else 0 : Nat) : Nat) : Int)) := by
        rw [HO.out.cellAt i (by omega), List.getElem?_map]
        simp [lis, hlt]
      have hfr := HO.out.frozenAt i
      clear hx
      go_wp2
      exact ⟨⟨i + 1, by omega, by simp, O2, B2⟩, by simp [intOf]; omega⟩
    · have HE : Hid (i = s) := Lib.hid (by omega)
      go_wp2
      go_ret
      refine ⟨g, rfl, ?_, HB.out⟩
      have := HO.out
      rw [HE.out, lis_all] at this
      rw [HW.out]
      exact this

end Go.Proofs.Ytonapehlhkoplaa
