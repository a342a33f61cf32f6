/-
  What the reference's Same of layer 7 does: it tells whether two tables are equal. Only new memory. Condition: the slices are not longer than memory allows.
-/
import Derived.Test.YtpjbjbohbdlciaaTab
namespace Go.Proofs.Ytpjbjbohbdlciaa
open Go.RowKit Go.Shelf

/-- Two tables are equal. -/
def sam (z y : Int) (l m : List Int) : Bool := decide (z = y) && decide (l = m)
theorem sam_ne {z y : Int} {l m : List Int} (h : z ≠ y) : sam z y l m = false := by simp [sam, h]
theorem sam_len {z y : Int} {l m : List Int} (h : l.length ≠ m.length) : sam z y l m = false := by
  have : l ≠ m := fun e => h (by rw [e])
  simp [sam, this]
theorem sam_at {z y : Int} {l m : List Int} {i : Nat} {a b : Int} (h1 : l[i]? = some a) (h2 : m[i]? = some b) (h : a ≠ b) : sam z y l m = false := by
  have : l ≠ m := fun e => h (by rw [e, h2] at h1; exact (Option.some.inj h1).symm)
  simp [sam, this]
theorem sam_yes {z : Int} {l m : List Int} {i : Nat} (h : l.take i = m.take i) (h1 : l.length ≤ i) (h2 : m.length ≤ i) : sam z z l m = true := by
  rw [List.take_of_length_le h1, List.take_of_length_le h2] at h
  simp [sam, h]

set_option maxRecDepth 100000 in
set_option maxHeartbeats 2000000 in
theorem rsame_any (w : World) (z y : Int) (A A2 : Option Addr) (l m : List Int) (n c n2 c2 : Nat) (hn : l.length = n) (hn2 : m.length = n2) (hb : n ≤ 1000000000) (hR : Ri w A l) (hR2 : Ri w A2 m) :
    Calls Try.prog 22 #[tb z A n c, tb y A2 n2 c2] w fun e w' => e = .returned (.bool (sam z y l m)) ∧ Below w.heap.size w w' := by
  obtain ⟨R, hRR⟩ : ∃ R, sam z y l m = R := ⟨_, rfl⟩
  rw [hRR]
  have HR := Lib.hid hRR
  clear hRR
  have t0 : Tb ((w.alloc (.cells #[.int .i64 z, .slice A n c] 24)).alloc (.cells #[.int .i64 y, .slice A2 n2 c2] 24)) w.heap.size z A n c := (Tb.new w z A n c).same (Below.heap_alloc _ _ _ (by simp))
  have t1 : Tb ((w.alloc (.cells #[.int .i64 z, .slice A n c] 24)).alloc (.cells #[.int .i64 y, .slice A2 n2 c2] 24)) (w.heap.size + 1) y A2 n2 c2 := by
    have := Tb.new (w.alloc (.cells #[.int .i64 z, .slice A n c] 24)) y A2 n2 c2
    rwa [World.size_alloc] at this
  have g1 : Below w.heap.size w ((w.alloc (.cells #[.int .i64 z, .slice A n c] 24)).alloc (.cells #[.int .i64 y, .slice A2 n2 c2] 24)) := ((Below.refl _ w).alloc (Nat.le_refl _) _).alloc (by simp) _
  obtain ⟨w1, hw1⟩ : ∃ w1, (w.alloc (.cells #[.int .i64 z, .slice A n c] 24)).alloc (.cells #[.int .i64 y, .slice A2 n2 c2] 24) = w1 := ⟨_, rfl⟩
  rw [hw1] at t0 t1 g1
  have a0 := t0.c0
  have a1 := t0.c1
  have b0 := t1.c0
  have b1 := t1.c1
  have G1 := Lib.hid g1
  have R1 := Lib.hid (hR.below g1)
  have R2 := Lib.hid (hR2.below g1)
  have HN := Lib.hid hn
  have HN2 := Lib.hid hn2
  clear t0 t1 g1 hR hR2 hn hn2
  by_cases hz : z = y
  · subst hz
    by_cases hl : n = n2
    · subst hl
      go_enter Try.func22, Try.ntmps22
      go_wp2
      go_loopw [5] (fun p wr => ∃ i : Nat, i ≤ n ∧ p = .int .i64 (i : Int) ∧ Hid (l.take i = m.take i) ∧ ∃ d, wr = w1.drewN d) (fun p _ => n - (intOf p).toNat)
      case atStart => exact ⟨0, Nat.zero_le _, rfl, Lib.hid (by simp), 0, rfl⟩
      case round =>
        obtain ⟨i, hi, rfl, HA, d, rfl⟩ := hrel
        by_cases hlt : i < n
        · obtain ⟨x, hx⟩ : ∃ x, l[i]? = some x := ⟨_, List.getElem?_eq_getElem (by rw [HN.out]; exact hlt)⟩
          obtain ⟨u, hu⟩ : ∃ u, m[i]? = some u := ⟨_, List.getElem?_eq_getElem (by rw [HN2.out]; exact hlt)⟩
          obtain ⟨ad, rfl, hc⟩ := R1.out i (iv x) (by rw [List.getElem?_map, hx]; rfl)
          obtain ⟨ad2, rfl, hc2⟩ := R2.out i (iv u) (by rw [List.getElem?_map, hu]; rfl)
          have wi : IntKind.i64.wrap (i : Int) = (i : Int) := IntWalk.i64_in _ (by omega)
          by_cases hxu : x = u
          · subst hxu
            have HT : Hid (l.take (i + 1) = m.take (i + 1)) := Lib.hid (by rw [take_succ_get hx, take_succ_get hu, HA.out])
            clear hx hu
            go_wp2
            go_region
            all_goals
              go_wp2
              exact ⟨⟨i + 1, by omega, by simp, HT, d + 1, rfl⟩, by simp [intOf]; omega⟩
          · have HE : Hid (R = false) := Lib.hid (by rw [← HR.out]; exact sam_at hx hu hxu)
            have hne : (x != u) = true := by simp [hxu]
            clear hx hu
            go_wp2
            go_region
            all_goals
              go_wp2
              go_ret
              exact ⟨by rw [HE.out]; rfl, below_drewN' G1.out (d + 1)⟩
        · have HE : Hid (R = true) := Lib.hid (by rw [← HR.out]; exact sam_yes HA.out (by rw [HN.out]; omega) (by rw [HN2.out]; omega))
          go_wp2
          go_ret
          exact ⟨by rw [HE.out]; rfl, below_drewN' G1.out d⟩
    · have HE : Hid (R = false) := Lib.hid (by rw [← HR.out]; exact sam_len (by rw [HN.out, HN2.out]; exact hl))
      go_enter Try.func22, Try.ntmps22
      go_wp2
      go_ret
      exact ⟨by rw [HE.out]; rfl, G1.out⟩
  · have HE : Hid (R = false) := Lib.hid (by rw [← HR.out]; exact sam_ne hz)
    go_enter Try.func22, Try.ntmps22
    go_wp2
    go_ret
    exact ⟨by rw [HE.out]; rfl, G1.out⟩

end Go.Proofs.Ytpjbjbohbdlciaa
