/-
  The mathematics of encoding symbols from the last to the first: the states and the bits. Conditions: those that each theorem states.
-/
import Derived.Test.YtonapehlhkoplaaBak
namespace Go.Proofs.Ytonapehlhkoplaa
open Go.RowKit Go.Shelf

/-- Symbol j. -/
def sy (m : List Int) (j : Nat) : Nat := (m[j]?.getD 0).toNat
theorem sy_get {y : Nat} {l m : List Int} (hv : Vt y l) {j : Nat} (hj : j < m.length) (h : hsb l (m[j]?.getD 0) = true) : m[j]? = some (sy m j : Int) ∧ 1 ≤ nos l (sy m j) := by
  obtain ⟨z, hz⟩ : ∃ z, m[j]? = some z := ⟨_, List.getElem?_eq_getElem hj⟩
  unfold sy
  rw [hz, Option.getD_some] at h ⊢
  obtain ⟨x, rfl, hx, _⟩ := hsb_pos hv h
  exact ⟨by rw [Int.toNat_natCast], by rw [Int.toNat_natCast]; exact hx⟩
/-- The state after k steps, and the bits of step k. -/
def stw (C : List (Nat × Nat × Nat)) (m : List Int) (r : Nat) : Nat → Nat
  | 0 => lwa C (sy m (r - 1) : Int)
  | k + 1 => (pra C (stw C m r k : Int) (sy m (r - 2 - k) : Int)).1
def btw (C : List (Nat × Nat × Nat)) (m : List Int) (r k : Nat) : Nat := (pra C (stw C m r k : Int) (sy m (r - 2 - k) : Int)).2.1
section
variable {y s : Nat} {l m : List Int}
theorem back_pr (hv : Vt y l) (hse : 2 ^ y = s) {x t : Nat} (hx : 1 ≤ nos l x) (ht : t < s) : ∃ i p q, i < s ∧ (cls y l (spl s l))[i]? = some (x, p, q) ∧ p ≤ 9 ∧ q ≤ t ∧ t < q + 2 ^ p ∧ pra (cls y l (spl s l)) (t : Int) (x : Int) = (i, t - q, p) ∧ pre (cls y l (spl s l)) (t : Int) (x : Int) = 0 := by
  have hle := nos_le hv hse x
  obtain ⟨j, h1, h2⟩ := halves hx (s + t) (by omega)
  obtain ⟨i, c, r1, r2, r3, r4, r5, r6, r7, r8⟩ := vt_place hv (x := x) (t := t) (j := j) hx (by rw [hse]; exact ht) (by rw [hse]) h1 h2
  obtain ⟨x', p, q⟩ := c
  simp only at r4 r5 r6 r7
  subst r4
  rw [hse] at r2 r3 r8
  refine ⟨i, p, q, r2, r3, r5, r6, r7, ?_, ?_⟩
  · unfold pra
    rw [cls_s hv hse, if_neg (by omega), r8]
    simp only [r3, Option.getD_some]
    have e : ((t : Int) - (q : Int)).toNat = t - q := by omega
    rw [e]
  · unfold pre
    rw [cls_s hv hse, if_neg (by omega), r8]
    rfl
theorem stw_ok (hv : Vt y l) (hse : 2 ^ y = s) {r : Nat} (hx : ∀ j, j < r → 1 ≤ nos l (sy m j)) : ∀ k, k < r → ∃ p q, (cls y l (spl s l))[stw (cls y l (spl s l)) m r k]? = some (sy m (r - 1 - k), p, q) ∧ stw (cls y l (spl s l)) m r k < s := by
  intro k
  induction k with
  | zero =>
    intro hk
    obtain ⟨i, hi, hf⟩ := vt_low hv (x := sy m (r - 1)) (hx _ (by omega))
    rw [hse] at hf
    obtain ⟨⟨x, p, q⟩, hc, hp, _⟩ := fst_get hf
    have e : stw (cls y l (spl s l)) m r 0 = i := by
      unfold stw lwa
      rw [hf]; rfl
    have ex : x = sy m (r - 1) := by
      unfold isz at hp
      simp only [decide_eq_true_iff] at hp
      omega
    subst ex
    rw [e]
    refine ⟨p, q, by simpa using hc, ?_⟩
    have := (List.getElem?_eq_some_iff.1 hc).1
    rwa [cls_s hv hse] at this
  | succ k ih =>
    intro hk
    obtain ⟨_, _, _, ht⟩ := ih (by omega)
    obtain ⟨i, p, q, h1, h2, _, _, _, h6, _⟩ := back_pr hv hse (hx (r - 2 - k) (by omega)) ht
    have e : stw (cls y l (spl s l)) m r (k + 1) = i := by
      show (pra (cls y l (spl s l)) (stw (cls y l (spl s l)) m r k : Int) (sy m (r - 2 - k) : Int)).1 = i
      rw [h6]
    rw [e, show r - 1 - (k + 1) = r - 2 - k by omega]
    exact ⟨p, q, h2, h1⟩
theorem stw_steps (hv : Vt y l) (hse : 2 ^ y = s) {r : Nat} (hx : ∀ j, j < r → 1 ≤ nos l (sy m j)) {k : Nat} (hk : k + 1 < r) : ∃ n : Nat, n ≤ 9 ∧ btw (cls y l (spl s l)) m r k ≤ 512 ∧
    Tp (cls y l (spl s l)) (stw (cls y l (spl s l)) m r k : Int) (sy m (r - 2 - k) : Int) = .tuple #[stv (stw (cls y l (spl s l)) m r (k + 1) : Int) (btw (cls y l (spl s l)) m r k : Int) (n : Int), .int .i64 0] ∧
    Tn (cls y l (spl s l)) (stw (cls y l (spl s l)) m r (k + 1) : Int) (btw (cls y l (spl s l)) m r k) = .tuple #[.int .i64 (stw (cls y l (spl s l)) m r k : Int), .int .i64 0] := by
  obtain ⟨_, _, _, ht⟩ := stw_ok hv hse hx k (by omega)
  have hs5 : s ≤ 512 := by rw [← hse]; exact hv.size
  obtain ⟨i, p, q, h1, h2, h3, h4, h5, h6, h7⟩ := back_pr hv hse (hx (r - 2 - k) (by omega)) ht
  have e : stw (cls y l (spl s l)) m r (k + 1) = i := by
    show (pra (cls y l (spl s l)) (stw (cls y l (spl s l)) m r k : Int) (sy m (r - 2 - k) : Int)).1 = i
    rw [h6]
  have e2 : btw (cls y l (spl s l)) m r k = stw (cls y l (spl s l)) m r k - q := by
    unfold btw
    rw [h6]
  refine ⟨p, h3, by rw [e2]; omega, ?_, ?_⟩
  · unfold Tp
    rw [h7, h6, e, e2]
  · rw [e, tn_at h2, e2, Nat.mod_eq_of_lt (by omega), show q + (stw (cls y l (spl s l)) m r k - q) = stw (cls y l (spl s l)) m r k by omega]
end

/-- Rows of uint64. -/
theorem u64_info : (Try.prog.info? 42).map (fun i => (i.zero, i.size, i.bytes)) = some (some (.int .u64 0), 1, 8) := by kernel_rfl
theorem lit_rv8 (W : World) (v : Value) (H : Nat) (hH : W.heap.size = H) : Rv (W.alloc (.cells #[v] 42)) (some ⟨H, 0, none⟩) [v] := by
  subst hH
  intro j u hj
  match j with
  | 0 =>
    refine ⟨_, rfl, ?_⟩
    rw [addr_zero, cell_of_row _ _ 0 _ _ _ (World.alloc_heap_new W _)]
    simpa using hj
  | j + 1 => simp at hj
abbrev uv (n : Nat) : Value := .int .u64 (n : Int)

end Go.Proofs.Ytonapehlhkoplaa
