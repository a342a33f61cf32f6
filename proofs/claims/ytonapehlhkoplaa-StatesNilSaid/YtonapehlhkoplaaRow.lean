/-
  Rows of ints of a call's own: made, literal, grown by one number. Conditions: those that each theorem states.
-/
import Derived.Test.YtonapehlhkoplaaSpm
namespace Go.Proofs.Ytonapehlhkoplaa
open Go.RowKit Go.Shelf

theorem lit_rv (W : World) (xs : List Value) (H : Nat) (hH : W.heap.size = H) : Rv (W.alloc (.cells xs.toArray 3)) (some ⟨H, 0, none⟩) xs := by
  subst hH
  intro j v hj
  refine ⟨_, rfl, ?_⟩
  have e : (Addr.add ⟨W.heap.size, 0, none⟩ j) = ⟨W.heap.size, j, none⟩ := by
    unfold Addr.add
    by_cases h0 : j = 0
    · rw [if_pos h0, h0]
    · rw [if_neg h0]; simp
  rw [e, cell_of_row _ _ j _ _ _ (World.alloc_heap_new W _)]
  simpa using hj

theorem int_info : (Try.prog.info? 3).map (fun i => (i.zero, i.size, i.bytes)) = some (some (.int .i64 0), 1, 8) := by kernel_rfl
theorem made_ints (n : Nat) : (madeCells (Value.int .i64 0).cells (n * 1)).toList = (List.replicate n 0).map iv := by
  refine List.ext_getElem? fun j => ?_
  simp only [madeCells, Nat.mul_one, Value.cells]
  rcases Nat.lt_or_ge j n with h | h
  · simp [h, Nat.mod_one]
  · simp [h]
theorem make_ints (n : Nat) (hn : n ≤ 10000000) (W : World) : ∃ w1, (Instr.makeSlice 22 (.int .i64 (n : Int)) (.int .i64 (n : Int))).run Try.prog W = .ok (.slice (some ⟨W.heap.size, 0, none⟩) n n) w1 ∧
    w1.ownsRow W.heap.size 3 1 (.slice (some ⟨W.heap.size, 0, none⟩) n n) n ((List.replicate n 0).map iv) ∧ Below W.heap.size W w1 := by
  obtain ⟨i0, hi, hz0, hz1, hz2⟩ := info_parts int_info
  obtain ⟨w1, h1, h2, h3⟩ := run_makeSlice_full (P := Try.prog) W W.heap.size 22 3 i0 (.int .i64 0) 1 Try.underlying22 hi hz0 hz1 .i64 .i64 n (by omega) (by rw [hz2]; omega) (by unfold maxLen; omega) (Nat.le_refl _)
  rw [made_ints] at h2
  exact ⟨w1, h1, h2, (Below.refl _ _).grown h3 (Nat.le_refl _) (fun k e => by cases e)⟩

theorem own_ge {W : World} {B : Nat} {v : Value} {e : TypeId} {z n : Nat} {xs : List Value} (h : W.ownsRow B e z v n xs) {g : Nat} (hg : v.ownBlock = some g) : B ≤ g := by
  rcases h.2 with ⟨rfl, _⟩ | ⟨g', c, cur, rfl, h2, _⟩
  · cases hg
  · injection hg with hg
    subst hg
    exact h2
theorem own_nil (W : World) (B : Nat) : W.ownsRow B 3 1 (.slice none 0 0) 0 [] := ⟨rfl, .inl ⟨rfl, rfl⟩⟩
theorem rn_own {w : World} {base n cap : Nat} {A : Option Addr} {k : List Nat} (h : w.ownsRow base 3 1 (.slice A n cap) n (k.map nv)) : Rn w A k := Rv.of_own h
theorem rn_ri {w : World} {A : Option Addr} {k : List Nat} (h : Rn w A k) : Ri w A (k.map (fun n : Nat => (n : Int))) := by
  unfold Ri
  rw [ri_nats]
  exact h
/-- What a literal of one number, made in world wr, is to an append. -/
structure One (w wr : World) (v : Value) (r : Nat) (xs : List Value) (q : Int) : Prop where
  own : (wr.alloc (.cells #[.int .i64 q] 3)).ownsRow w.heap.size 3 1 v r xs
  rd : Rv (wr.alloc (.cells #[.int .i64 q] 3)) (some ⟨wr.heap.size, 0, none⟩) [.int .i64 q]
  bel : Below w.heap.size w (wr.alloc (.cells #[.int .i64 q] 3))
theorem One.mk' {w wr : World} {v : Value} {r : Nat} {xs : List Value} (q : Int) (ho : wr.ownsRow w.heap.size 3 1 v r xs) (hb : Below w.heap.size w wr) : One w wr v r xs q :=
  ⟨own_below ho ((Below.refl _ wr).alloc (Nat.le_refl _) _), lit_rv wr [.int .i64 q] _ rfl, below_on hb (Nat.le_refl _) ((Below.refl _ wr).alloc (Nat.le_refl _) _)⟩
theorem One.size {w wr : World} {v : Value} {r : Nat} {xs : List Value} {q : Int} (h : One w wr v r xs q) : w.heap.size ≤ (wr.alloc (.cells #[.int .i64 q] 3)).heap.size := h.bel.size
theorem One.grown {w wr w' : World} {v : Value} {r : Nat} {xs : List Value} {q : Int} (h : One w wr v r xs q) (hg : (wr.alloc (.cells #[.int .i64 q] 3)).grownBy w' v.ownBlock) : Below w.heap.size w w' :=
  h.bel.grown hg h.size (fun _ ej => own_ge h.own ej)

end Go.Proofs.Ytonapehlhkoplaa
