/-
  What the laws share: a table that is stored into a new variable, a cell that is stored into one; the single symbol's table is valid and has one cell. Conditions: those that each theorem states.
-/
import Derived.Test.YtfgjeiheekohdaaFrm
namespace Go.Proofs.Ytfgjeiheekohdaa
open Go.RowKit Go.Shelf

theorem put_tab (W : World) (z : Int) (A : Option Addr) (n c : Nat) : ∃ W1 Wa Wb, W.alloc (.cells #[.int .i64 0, .slice none 0 0] 24) = W1 ∧
    W1.cell? ⟨W.heap.size, 0, none⟩ = some (.int .i64 0) ∧ W1.frozen? ⟨W.heap.size, 0, none⟩ = false ∧ W1.setCell ⟨W.heap.size, 0, none⟩ (.int .i64 z) = Wa ∧
    Wa.cell? ⟨W.heap.size, 1, none⟩ = some (.slice none 0 0) ∧ Wa.frozen? ⟨W.heap.size, 1, none⟩ = false ∧ Wa.setCell ⟨W.heap.size, 1, none⟩ (.slice A n c) = Wb ∧
    Tb Wb W.heap.size z A n c ∧ Below W.heap.size W Wb := by
  have t1 := Tb.new W 0 none 0 0
  have ta := t1.set0 z
  exact ⟨_, _, _, rfl, t1.c0, t1.free 0, rfl, ta.c1, ta.free 1, rfl, ta.set1 A n c, (((Below.refl _ W).alloc (Nat.le_refl _) _).setCell (p := ⟨W.heap.size, 0, none⟩) (Nat.le_refl _) _).setCell (p := ⟨W.heap.size, 1, none⟩) (Nat.le_refl _) _⟩
theorem put_cell (W : World) (x p q : Int) : ∃ W1 Wa Wb Wc, W.alloc (.cells #[.int .i64 0, .int .i64 0, .int .i64 0] 45) = W1 ∧
    W1.cell? ⟨W.heap.size, 0, none⟩ = some (.int .i64 0) ∧ W1.frozen? ⟨W.heap.size, 0, none⟩ = false ∧ W1.setCell ⟨W.heap.size, 0, none⟩ (.int .i64 x) = Wa ∧
    Wa.cell? ⟨W.heap.size, 1, none⟩ = some (.int .i64 0) ∧ Wa.frozen? ⟨W.heap.size, 1, none⟩ = false ∧ Wa.setCell ⟨W.heap.size, 1, none⟩ (.int .i64 p) = Wb ∧
    Wb.cell? ⟨W.heap.size, 2, none⟩ = some (.int .i64 0) ∧ Wb.frozen? ⟨W.heap.size, 2, none⟩ = false ∧ Wb.setCell ⟨W.heap.size, 2, none⟩ (.int .i64 q) = Wc ∧
    Ce Wc W.heap.size x p q ∧ Below W.heap.size W Wc := by
  have t1 := Ce.new W 0 0 0
  have ta := t1.set0 x
  have tb := ta.set1 p
  exact ⟨_, _, _, _, rfl, t1.c0, t1.free 0, rfl, ta.c1, ta.free 1, rfl, tb.c2, tb.free 2, rfl, tb.set2 q, ((((Below.refl _ W).alloc (Nat.le_refl _) _).setCell (p := ⟨W.heap.size, 0, none⟩) (Nat.le_refl _) _).setCell (p := ⟨W.heap.size, 1, none⟩) (Nat.le_refl _) _).setCell (p := ⟨W.heap.size, 2, none⟩) (Nat.le_refl _) _⟩

theorem sts_zero : sts 0 = 0 := by decide
theorem one_sum (x : Nat) : ssum (one x) = 1 := by
  unfold one
  rw [ssum_append]
  have : ssum (List.replicate x 0) = 0 := by
    induction x with
    | zero => rfl
    | succ x ih => rw [List.replicate_succ, ssum_cons, ih]; rfl
  rw [this]; rfl
theorem one_ok (x : Nat) : okn (one x) = true := by
  unfold one okn
  rw [List.all_append, List.all_replicate]
  simp
theorem one_vt {x : Nat} (hx : x ≤ 255) : Vt 0 (one x) :=
  ⟨by omega, by rw [one_len]; omega, by rw [one_len]; omega, by unfold one; simp, one_ok x, one_sum x⟩
theorem one_at {x i : Nat} {z : Int} (h : (one x)[i]? = some z) : z = if i = x then 1 else 0 := by
  have hl := (List.getElem?_eq_some_iff.1 h).1
  rw [one_len] at hl
  by_cases hi : i = x
  · rw [one_get1 hi] at h; rw [if_pos hi]; injection h with h; exact h.symm
  · rw [one_get0 (by omega)] at h; rw [if_neg hi]; injection h with h; exact h.symm
theorem one_spl {x : Nat} (hx : x ≤ 255) : spl (2 ^ 0) (one x) = [x] := by
  have hv := one_vt hx
  have hl : (spl (2 ^ 0) (one x)).length = 1 := spl_len _ _
  match hK : spl (2 ^ 0) (one x), hl with
  | [u], _ =>
    obtain ⟨z, n, h1, h2, h3, h4⟩ := vt_norm hv (i := 0) (x := u) (by rw [hK]; rfl)
    have h5 := hv.count u
    rw [hK, h1] at h5
    simp only [List.count_singleton, beq_self_eq_true, if_true] at h5
    have h6 := one_at h1
    by_cases hu : u = x
    · rw [hu]
    · rw [if_neg hu] at h6
      rw [h6, sts_zero] at h5
      omega
theorem one_cex {x : Nat} (hx : x ≤ 255) : cls 0 (one x) (spl (2 ^ 0) (one x)) = [(x, 0, 0)] := by
  rw [one_spl hx]
  have e : xof (one x) [x] 0 = 1 := by
    unfold xof nos
    rw [show ([x] : List Nat)[0]?.getD 0 = x from rfl, one_get1 rfl]
    simp [sts]
  show [cel 0 (one x) [x] 0] = _
  unfold cel
  rw [e]
  rfl
theorem one_may {x : Nat} (hx : x ≤ 255) : vt 0 (one x) 256 0 = true := by
  have h := one_vt hx
  have h1 := vt_iff.2 ⟨0, rfl, h⟩
  unfold vt at h1 ⊢
  simpa using h1

end Go.Proofs.Ytfgjeiheekohdaa
