/-
  A Coder in memory, and what New of package states does: it returns a Coder of a valid table, in new memory, or the error. Nothing that was there has changed. Conditions: those that each theorem states.
-/
import Derived.Deep.RegionHeld3
import Derived.Test.YtonapehlhkoplaaCol
namespace Go.Proofs.Ytonapehlhkoplaa
open Go.RowKit Go.Shelf

/-- A Coder as a block. -/
def Cb (W : World) (b : Nat) (y : Int) (A : Option Addr) (n c : Nat) (A' : Option Addr) (n' c' : Nat) : Prop := W.heap[b]? = some (.cells #[.int .i64 y, .slice A n c, .slice A' n' c'] 64 (0, 0))
section
variable {W W' : World} {b : Nat} {y : Int} {A : Option Addr} {n c : Nat} {A' : Option Addr} {n' c' : Nat}
theorem Cb.lt (h : Cb W b y A n c A' n' c') : b < W.heap.size := (Array.getElem?_eq_some_iff.1 h).1
theorem Cb.c0 (h : Cb W b y A n c A' n' c') : W.cell? ⟨b, 0, none⟩ = some (.int .i64 y) := by rw [cell_of_row W b 0 _ _ _ h]; rfl
theorem Cb.c1 (h : Cb W b y A n c A' n' c') : W.cell? ⟨b, 1, none⟩ = some (.slice A n c) := by rw [cell_of_row W b 1 _ _ _ h]; rfl
theorem Cb.c2 (h : Cb W b y A n c A' n' c') : W.cell? ⟨b, 2, none⟩ = some (.slice A' n' c') := by rw [cell_of_row W b 2 _ _ _ h]; rfl
theorem Cb.same (h : Cb W b y A n c A' n' c') (hb : W'.heap[b]? = W.heap[b]?) : Cb W' b y A n c A' n' c' := hb.trans h
theorem Cb.below (h : Cb W b y A n c A' n' c') (hb : Below W.heap.size W W') : Cb W' b y A n c A' n' c' := hb.block b h.lt |>.trans h
theorem Cb.new (W : World) (y : Int) (A : Option Addr) (n c : Nat) (A' : Option Addr) (n' c' : Nat) : Cb (W.alloc (.cells #[.int .i64 y, .slice A n c, .slice A' n' c'] 64)) W.heap.size y A n c A' n' c' := World.alloc_heap_new W _
end

theorem Ows.base {W : World} {B B' go N : Nat} {K : List Nat} {V : Nat → Value} (h : Ows W B go N K V) (hb : B' ≤ B) : Ows W B' go N K V := ⟨Nat.le_trans hb h.ge, own_base h.row hb, h.list, h.ne⟩
/-- A Coder of a valid table: block b, its cells at gc, the states of its symbols at go. -/
structure Cd (W : World) (B b gc go y s N : Nat) (l : List Int) (V : Nat → Value) : Prop where
  blk : Cb W b (y : Int) (some ⟨gc, 0, none⟩) s s (some ⟨go, 0, none⟩) N N
  ge : B ≤ b
  cel : W.ownsRow B 35 3 (.slice (some ⟨gc, 0, none⟩) s s) s (flat3 (cls y l (spl s l)))
  ows : Ows W B go N (spl s l) V
def Cdr (W : World) (B b y s N : Nat) (l : List Int) : Prop := ∃ gc go V, Cd W B b gc go y s N l V
section
variable {W W' : World} {B b gc go y s N : Nat} {l : List Int} {V : Nat → Value}
theorem ro_ge {e : TypeId} {z n : Nat} {v : Value} {xs : List Value} (h : W.ownsRow B e z v n xs) {g : Nat} (hg : v.ownBlock = some g) : B ≤ g := own_ge h hg
theorem Cd.same (h : Cd W B b gc go y s N l V) (hb : ∀ k, B ≤ k → k < W.heap.size → W'.heap[k]? = W.heap[k]?) : Cd W' B b gc go y s N l V :=
  ⟨h.blk.same (hb _ h.ge h.blk.lt), h.ge, ro_same h.cel (fun _ hg => hb _ (own_ge h.cel hg) (ro_lt h.cel hg)), h.ows.same hb⟩
theorem Cdr.same (h : Cdr W B b y s N l) (hb : ∀ k, B ≤ k → k < W.heap.size → W'.heap[k]? = W.heap[k]?) : Cdr W' B b y s N l := by
  obtain ⟨gc, go, V, h⟩ := h
  exact ⟨gc, go, V, h.same hb⟩
theorem Cdr.below (h : Cdr W B b y s N l) (hb : Below W.heap.size W W') : Cdr W' B b y s N l := h.same fun k _ hk => hb.block k hk
theorem Cdr.base {B' : Nat} (h : Cdr W B b y s N l) (hb : B' ≤ B) : Cdr W B' b y s N l := by
  obtain ⟨gc, go, V, h⟩ := h
  exact ⟨gc, go, V, h.blk, Nat.le_trans hb h.ge, ro_base h.cel hb, h.ows.base hb⟩
end

set_option maxRecDepth 100000 in
set_option maxHeartbeats 4000000 in
theorem new_bad (w : World) (y : Int) (A : Option Addr) (l : List Int) (N c : Nat) (hN : l.length = N) (hb : N ≤ 1000000) (hv : vt y l 256 9 = false) (hR : Ri w A l) :
    Calls Try.prog 12 #[tb y A N c] w fun e w' => e = .returned (.tuple #[.pointer none, .int .i64 13]) ∧ Below w.heap.size w w' := by
  have b1 : Below w.heap.size w (w.alloc (.cells #[.int .i64 y, .slice A N c] 24)) := (Below.refl _ w).alloc (Nat.le_refl _) _
  have t1 := Tb.new w y A N c
  obtain ⟨w1, hw1⟩ : ∃ w1, w.alloc (.cells #[.int .i64 y, .slice A N c] 24) = w1 := ⟨_, rfl⟩
  rw [hw1] at b1 t1
  have c0 := t1.c0
  have c1 := t1.c1
  have SP := Lib.hid (spread_bad w1 y A l N c hN hb hv (hR.below b1))
  have B1 := Lib.hid b1
  clear b1 t1 hR hN hv
  go_enter Try.func12, Try.ntmps12
  go_wp2_with (go_at_call 29; refine SP.out.mono ?_; rintro e w2 ⟨rfl, hb2⟩; have B2 := Lib.hid (below_on B1.out (Nat.le_refl _) hb2); clear hb2)
  go_ret2
  exact ⟨rfl, B2.out⟩

set_option maxRecDepth 100000 in
set_option maxHeartbeats 4000000 in
theorem new_ok (w : World) (y s : Nat) (A : Option Addr) (l : List Int) (N c : Nat) (hN : l.length = N) (hv : Vt y l) (hse : 2 ^ y = s) (hR : Ri w A l) :
    Calls Try.prog 12 #[tb y A N c] w fun e w' => ∃ b, e = .returned (.tuple #[.pointer (some ⟨b, 0, none⟩), .int .i64 0]) ∧ Cdr w' w.heap.size b y s N l ∧ Below w.heap.size w w' := by
  have b1 : Below w.heap.size w (w.alloc (.cells #[.int .i64 (y : Int), .slice A N c] 24)) := (Below.refl _ w).alloc (Nat.le_refl _) _
  have t1 := Tb.new w (y : Int) A N c
  obtain ⟨w1, hw1⟩ : ∃ w1, w.alloc (.cells #[.int .i64 (y : Int), .slice A N c] 24) = w1 := ⟨_, rfl⟩
  rw [hw1] at b1 t1
  have c0 := t1.c0
  have c1 := t1.c1
  have SP := Lib.hid (spread_ok w1 y s A l N c hN hv hse (hR.below b1))
  have BU : Hid (∀ W, Below w1.heap.size w1 W → Calls Try.prog 30 #[tb y A N c] W fun e w' => ∃ g, e = .returned (.tuple #[.slice (some ⟨g, 0, none⟩) s s, .int .i64 0]) ∧ w'.ownsRow W.heap.size 35 3 (.slice (some ⟨g, 0, none⟩) s s) s (flat3 (cls y l (spl s l))) ∧ Below W.heap.size W w') := Lib.hid (fun W hb => build_ok W y s A l N c hN hv hse ((hR.below b1).below hb))
  have CO : Hid (∀ (W : World) (g : Nat), W.ownsRow 0 3 1 (.slice (some ⟨g, 0, none⟩) s s) s ((spl s l).map nv) → Calls Try.prog 31 #[tb y A N c, .slice (some ⟨g, 0, none⟩) s s] W fun e w' => ∃ go V, e = .returned (.slice (some ⟨go, 0, none⟩) N N) ∧ Ows w' W.heap.size go N (spl s l) V ∧ Below W.heap.size W w') := Lib.hid (fun W g hK => collect_ok W y s g N c A l hN hv hse hK)
  have B1 := Lib.hid b1
  have T1 := Lib.hid t1
  clear b1 t1 hR hN hv hse
  go_enter Try.func12, Try.ntmps12
  go_wp2_with (first
    | (go_at_call 29; refine SP.out.mono ?_; rintro e w2 ⟨g2, rfl, ho2, hb2⟩; have O2 := Lib.hid ho2; have P2 := Lib.hid hb2; have q2 := T1.out.below hb2; have a0 := q2.c0; have a1 := q2.c1; clear ho2 hb2 q2)
    | (go_at_call 30; refine (BU.out w2 P2.out).mono ?_; rintro e w3 ⟨g3, rfl, ho3, hb3⟩; have O3 := Lib.hid ho3; have K3 := Lib.hid (own_zero (own_below O2.out hb3)); have P3 := Lib.hid (below_on P2.out (Nat.le_refl _) hb3); have q3 := T1.out.below P3.out; have d0 := q3.c0; have d1 := q3.c1; clear ho3 hb3 q3))
  have f0 : w3.drew.cell? ⟨w.heap.size, 0, none⟩ = some (.int .i64 (y : Int)) := d0
  have f1 : w3.drew.cell? ⟨w.heap.size, 1, none⟩ = some (.slice A N c) := d1
  clear a0 a1 c0 c1 d0 d1 SP BU
  go_region_held3 (fun W => W.cell? ⟨w.heap.size, 0, none⟩ = some (.int .i64 (y : Int)) ∧ W.cell? ⟨w.heap.size, 1, none⟩ = some (.slice A N c)) (first | exact ⟨f0, f1⟩ | exact ⟨g0, g1⟩ | exact ⟨h0, h1⟩) (first
    | (go_at_call 31; refine (CO.out _ g2 K3.out.drew).mono ?_; rintro e w4 ⟨go, V, rfl, ho4, hb4⟩; have O4 := Lib.hid ho4; have B4 := Lib.hid hb4; have P4 := Lib.hid (below_on P3.out.drew (Nat.le_refl _) hb4); have q4 := T1.out.below P4.out; have g0 := q4.c0; have g1 := q4.c1; have q5 := q4.below ((Below.refl _ w4).alloc (Nat.le_refl _) (.cells #[.int .i64 (y : Int), .slice (some ⟨g3, 0, none⟩) s s, .slice (some ⟨go, 0, none⟩) N N] 64)); have h0 := q5.c0; have h1 := q5.c1; clear ho4 hb4 q4 q5))
  all_goals
    go_wp2
    go_ret2
    have hl1 : w.heap.size ≤ w1.heap.size := B1.out.size
    have hl2 : w1.heap.size ≤ w2.heap.size := P2.out.size
    have hl3 : w1.heap.size ≤ w3.heap.size := P3.out.size
    have hl4 : w1.heap.size ≤ w4.heap.size := P4.out.size
    have b5 : Below w4.heap.size w4 (w4.alloc (.cells #[.int .i64 (y : Int), .slice (some ⟨g3, 0, none⟩) s s, .slice (some ⟨go, 0, none⟩) N N] 64)) := (Below.refl _ w4).alloc (Nat.le_refl _) _
    refine ⟨w4.heap.size, rfl, ⟨g3, go, V, Cb.new w4 _ _ _ _ _ _ _, by omega, ?_, ?_⟩, ?_⟩
    · exact ro_base (ro_below (ro_below O3.out.drew B4.out) b5) (by omega)
    · exact (O4.out.below b5).base (by simp only [World.drew] at *; omega)
    · exact below_on B1.out (Nat.le_refl _) (below_on P4.out (Nat.le_refl _) b5)

end Go.Proofs.Ytonapehlhkoplaa
