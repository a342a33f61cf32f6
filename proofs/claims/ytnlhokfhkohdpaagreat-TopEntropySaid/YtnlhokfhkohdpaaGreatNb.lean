/-
  What the closures of division.settle do: whether something is left to adjust, whether a portion may be changed, how great its claim is. Only new memory. Condition: the numbers are in their ranges.
  What norm.greatest does with the closures of division.settle: it finds the symbol to adjust. Only new memory. Condition: the numbers are in their ranges.
-/
import Derived.Deep.RegionHeld3
import Derived.RangeFuncCalls
import Derived.Test.YtnlhokfhkohdpaaGreatNa
namespace Go.Proofs.YtnlhokfhkohdpaaGreat.No
open Go.RowKit Go.Shelf

/-- A portion as a value. -/
abbrev por (i sh st : Int) : Value := .agg #[.int .i64 i, .int .i64 sh, .int .i64 st]

set_option maxRecDepth 100000 in
set_option maxHeartbeats 1000000 in
theorem due_up (w : World) (z : Int) : Calls Tryz.prog 45 #[.int .i64 z] w fun e w' => e = .returned (.bool (decide (0 < z))) ∧ w' = w := by
  go_enter Tryz.func45, Tryz.ntmps45
  go_wp2
  go_ret
  exact ⟨by simp, rfl⟩

set_option maxRecDepth 100000 in
set_option maxHeartbeats 1000000 in
theorem due_dn (w : World) (z : Int) : Calls Tryz.prog 47 #[.int .i64 z] w fun e w' => e = .returned (.bool (decide (z < 0))) ∧ w' = w := by
  go_enter Tryz.func47, Tryz.ntmps47
  go_wp2
  go_ret
  exact ⟨by simp, rfl⟩

set_option maxRecDepth 100000 in
set_option maxHeartbeats 1000000 in
theorem open_up (w : World) (i sh st : Int) : Calls Tryz.prog 46 #[por i sh st] w fun e w' => e = .returned (.bool true) ∧ Below w.heap.size w w' := by
  have B0 : Hid (Below w.heap.size w (w.alloc (.cells #[.int .i64 i, .int .i64 sh, .int .i64 st] 101))) := Lib.hid ((Below.refl _ w).alloc (Nat.le_refl _) _)
  go_enter Tryz.func46, Tryz.ntmps46
  go_wp2
  go_ret
  exact ⟨rfl, B0.out⟩

set_option maxRecDepth 100000 in
set_option maxHeartbeats 1000000 in
theorem open_dn (w : World) (i sh st : Int) : Calls Tryz.prog 48 #[por i sh st] w fun e w' => e = .returned (.bool (decide (1 < st))) ∧ Below w.heap.size w w' := by
  have B0 : Hid (Below w.heap.size w (w.alloc (.cells #[.int .i64 i, .int .i64 sh, .int .i64 st] 101))) := Lib.hid ((Below.refl _ w).alloc (Nat.le_refl _) _)
  go_enter Tryz.func48, Tryz.ntmps48
  go_wp2
  go_ret
  exact ⟨by simp, B0.out⟩

/-- What the claims read: the boxed division and its total. -/
structure Env (w : World) (bd b : Nat) (T : Nat) : Prop where
  box : w.cell? ⟨bd, 0, none⟩ = some (.pointer (some ⟨b, 0, none⟩))
  tot : w.cell? ⟨b, 1, none⟩ = some (.int .i64 (T : Int))
theorem Env.below {w w' : World} {bd b T : Nat} (h : Env w bd b T) (hb : Below w.heap.size w w') : Env w' bd b T :=
  ⟨(hb.cell (cell_lt h.box)).trans h.box, (hb.cell (cell_lt h.tot)).trans h.tot⟩
theorem Env.drew {w : World} {bd b T : Nat} (h : Env w bd b T) : Env w.drew bd b T := ⟨h.box, h.tot⟩

set_option maxRecDepth 100000 in
set_option maxHeartbeats 1000000 in
theorem claim_up (w : World) (i sh st : Int) (bd b T : Nat) (he : Env w bd b T) (hT : T ≤ 1099511627776) (h1 : 0 ≤ sh ∧ sh ≤ 562949953421312) (h2 : 0 ≤ st ∧ st ≤ 1000000) :
    Calls Tryz.prog 43 #[por i sh st, .pointer (some ⟨bd, 0, none⟩)] w fun e w' => e = .returned (.int .i64 (sh - st * (T : Int))) ∧ Below w.heap.size w w' := by
  have B0 : Hid (Below w.heap.size w (w.alloc (.cells #[.int .i64 i, .int .i64 sh, .int .i64 st] 101))) := Lib.hid ((Below.refl _ w).alloc (Nat.le_refl _) _)
  have c0 := (he.below B0.out).box
  have c1 := (he.below B0.out).tot
  have h3 : 0 ≤ st * (T : Int) ∧ st * (T : Int) ≤ 1099511627776000000 := by
    have h4 := Int.mul_le_mul h2.2 (show (T : Int) ≤ 1099511627776 by omega) (by omega) (by omega)
    have h5 := Int.mul_nonneg h2.1 (show (0 : Int) ≤ (T : Int) by omega)
    omega
  obtain ⟨P, hP⟩ : ∃ P, st * (T : Int) = P := ⟨_, rfl⟩
  rw [hP] at h3 ⊢
  have w1 : IntKind.i64.wrap P = P := IntWalk.i64_in _ (by omega)
  have w2 : IntKind.i64.wrap (sh - P) = sh - P := IntWalk.i64_in _ (by omega)
  clear he
  go_enter Tryz.func43, Tryz.ntmps43
  go_wp2
  go_region
  all_goals
    go_wp2
    go_ret
    exact ⟨rfl, B0.out.drew⟩

set_option maxRecDepth 100000 in
set_option maxHeartbeats 1000000 in
theorem claim_dn (w : World) (i sh st : Int) (bl bd b T : Nat) (hl : w.cell? ⟨bl, 0, none⟩ = some (.func (Fn.func 43) #[] #[.pointer (some ⟨bd, 0, none⟩)])) (he : Env w bd b T) (hT : T ≤ 1099511627776) (h1 : 0 ≤ sh ∧ sh ≤ 562949953421312) (h2 : 0 ≤ st ∧ st ≤ 1000000) :
    Calls Tryz.prog 49 #[por i sh st, .pointer (some ⟨bl, 0, none⟩)] w fun e w' => e = .returned (.int .i64 (-(sh - st * (T : Int)))) ∧ Below w.heap.size w w' := by
  have B0 : Hid (Below w.heap.size w (w.alloc (.cells #[.int .i64 i, .int .i64 sh, .int .i64 st] 101))) := Lib.hid ((Below.refl _ w).alloc (Nat.le_refl _) _)
  have c0 := (B0.out.cell (cell_lt hl)).trans hl
  have HC := Lib.hid (claim_up _ i sh st bd b T (he.below B0.out) hT h1 h2)
  have h3 : 0 ≤ st * (T : Int) ∧ st * (T : Int) ≤ 1099511627776000000 := by
    have h4 := Int.mul_le_mul h2.2 (show (T : Int) ≤ 1099511627776 by omega) (by omega) (by omega)
    have h5 := Int.mul_nonneg h2.1 (show (0 : Int) ≤ (T : Int) by omega)
    omega
  obtain ⟨P, hP⟩ : ∃ P, st * (T : Int) = P := ⟨_, rfl⟩
  rw [hP] at h3 HC ⊢
  clear he hl
  go_enter Tryz.func49, Tryz.ntmps49
  go_wp2_with (go_at_call 43; refine HC.out.mono ?_; rintro e w1 ⟨rfl, hb1⟩; have B1 := Lib.hid (below_on B0.out (Nat.le_refl _) hb1); clear hb1)
  go_ret
  exact ⟨rfl, B1.out⟩

end Go.Proofs.YtnlhokfhkohdpaaGreat.No

namespace Go.Proofs.YtnlhokfhkohdpaaGreat.No
open Go.RowKit Go.Shelf

/-- What is found among the first m symbols: no one, or the place of one. -/
def Bst (ok : Nat → Bool) (key : Nat → Int) (U : List Nat) (m : Nat) (r : Int) : Prop :=
  (r = -1 ∧ pick ok key (U.take m) = none) ∨ ∃ j i : Nat, j < m ∧ r = (j : Int) ∧ U[j]? = some i ∧ pick ok key (U.take m) = some i
theorem Bst.zero (ok : Nat → Bool) (key : Nat → Int) (U : List Nat) : Bst ok key U 0 (-1) := .inl ⟨rfl, by simp [pick]⟩
section
variable {ok : Nat → Bool} {key : Nat → Int} {U : List Nat} {m i : Nat}
theorem Bst.no {r : Int} (h : Bst ok key U m r) (hi : U[m]? = some i) (ho : ok i = false) : Bst ok key U (m + 1) r := by
  rcases h with ⟨h1, h2⟩ | ⟨j, a, h1, h2, h3, h4⟩
  · exact .inl ⟨h1, by rw [take_succ_get hi, pick_snoc, h2]; simp [pickF, ho]⟩
  · exact .inr ⟨j, a, by omega, h2, h3, by rw [take_succ_get hi, pick_snoc, h4]; simp [pickF, ho]⟩
theorem Bst.first (h : pick ok key (U.take m) = none) (hi : U[m]? = some i) (ho : ok i = true) : Bst ok key U (m + 1) (m : Int) :=
  .inr ⟨m, i, by omega, rfl, hi, by rw [take_succ_get hi, pick_snoc, h]; simp [pickF, ho]⟩
theorem Bst.more {a : Nat} (h : pick ok key (U.take m) = some a) (hi : U[m]? = some i) (ho : ok i = true) (hk : key a < key i) : Bst ok key U (m + 1) (m : Int) :=
  .inr ⟨m, i, by omega, rfl, hi, by rw [take_succ_get hi, pick_snoc, h]; simp [pickF, ho, hk]⟩
theorem Bst.less {a j : Nat} (h : pick ok key (U.take m) = some a) (hj : j < m) (ha : U[j]? = some a) (hi : U[m]? = some i) (hk : ¬ key a < key i) : Bst ok key U (m + 1) (j : Int) :=
  .inr ⟨j, a, by omega, rfl, ha, by rw [take_succ_get hi, pick_snoc, h]; simp [pickF, hk]⟩
end

/-- The numbers of a division are in their ranges. -/
structure Rg (U : List Nat) (sh st : Nat → Int) (M : Int) : Prop where
  sh : ∀ i ∈ U, 0 ≤ sh i ∧ sh i ≤ 562949953421312
  st : ∀ i ∈ U, 0 ≤ st i ∧ st i ≤ M

theorem three_below {W W' : World} (hb : Below W.heap.size W W') {a : Nat} {o : Nat} {x y z : Value} (h : W.cell? ⟨a, o, none⟩ = some x ∧ W.cell? ⟨a, o + 1, none⟩ = some y ∧ W.cell? ⟨a, o + 2, none⟩ = some z) :
    W'.cell? ⟨a, o, none⟩ = some x ∧ W'.cell? ⟨a, o + 1, none⟩ = some y ∧ W'.cell? ⟨a, o + 2, none⟩ = some z :=
  ⟨(hb.cell (cell_lt h.1)).trans h.1, (hb.cell (cell_lt h.2.1)).trans h.2.1, (hb.cell (cell_lt h.2.2)).trans h.2.2⟩
abbrev fv (f : Nat) (cap : Array Value) : Value := .func (Fn.func f) #[] cap


set_option maxRecDepth 100000 in
set_option maxHeartbeats 2000000 in
theorem greatest_up (w : World) (B g n c : Nat) (U : List Nat) (sh st : Nat → Int) (bd b T : Nat) (ho : w.ownsRow B 101 3 (.slice (some ⟨g, 0, none⟩) n c) n (flat U sh st)) (hn : U.length = n) (hnb : n ≤ 512) (he : Env w bd b T) (hT : T ≤ 1099511627776) (hr : Rg U sh st 1000000) :
    Calls Tryz.prog 78 #[.slice (some ⟨g, 0, none⟩) n c, fv 46 #[], fv 43 #[.pointer (some ⟨bd, 0, none⟩)]] w
      fun e w' => ∃ r, e = .returned (.int .i64 r) ∧ Bst (fun i => upOk (st i)) (fun i => upKf (sh i - st i * (T : Int))) U n r ∧ Below w.heap.size w w' := by
  simp only [fv]
  have HO := Lib.hid ho
  have HN := Lib.hid hn
  have HE := Lib.hid he
  have HR := Lib.hid hr
  clear ho hn he hr
  go_enter Tryz.func78, Tryz.ntmps78
  go_wp2
  go_loopw [7, 12] (fun q p wr => ∃ m : Nat, ∃ r : Int, m ≤ n ∧ p = .int .i64 (m : Int) ∧ q = .int .i64 r ∧ Hid (Bst (fun i => upOk (st i)) (fun i => upKf (sh i - st i * (T : Int))) U m r) ∧ Hid (Below w.heap.size w wr)) (fun _ p _ => n - (intOf p).toNat)
  case atStart => exact ⟨0, -1, Nat.zero_le _, rfl, rfl, Lib.hid (Bst.zero _ _ U), Lib.hid (Below.refl _ _)⟩
  case round =>
    obtain ⟨m, r, hm, rfl, rfl, HS, HB⟩ := hrel
    by_cases hlt : m < n
    · obtain ⟨i, hi⟩ : ∃ i, U[m]? = some i := ⟨_, List.getElem?_eq_getElem (by rw [HN.out]; exact hlt)⟩
      obtain ⟨f0, f1, f2⟩ := flat_get (sh := sh) (st := st) hi
      have ow := own_same3 HO.out (W' := wr) (fun g' e => HB.out.block _ (own_lt3 HO.out e))
      have HI := Lib.hid hi
      have rb := And.intro (HR.out.sh i (List.mem_of_getElem? hi)) (HR.out.st i (List.mem_of_getElem? hi))
      obtain ⟨a, ha⟩ : ∃ a, sh i = a := ⟨_, rfl⟩
      obtain ⟨x, hx⟩ : ∃ x, st i = x := ⟨_, rfl⟩
      rw [ha] at f1 rb
      rw [hx] at f2 rb
      have HA := Lib.hid ha
      have HX := Lib.hid hx
      have c0 : wr.cell? ⟨g, m * 3, none⟩ = some (.int .i64 (i : Int)) := by rw [ow.cellAt _ (by omega)]; exact f0
      have c1 : wr.cell? ⟨g, m * 3 + 1, none⟩ = some (.int .i64 a) := by rw [ow.cellAt _ (by omega)]; exact f1
      have c2 : wr.cell? ⟨g, m * 3 + 2, none⟩ = some (.int .i64 x) := by rw [ow.cellAt _ (by omega)]; exact f2
      have RB := Lib.hid rb
      have OW := Lib.hid ow
      clear ow f0 f1 f2 hi ha hx rb
      have P0 : Hid (((wr.alloc (.cells #[.int .i64 (i : Int), .int .i64 a, .int .i64 x] 101)).cell? ⟨wr.heap.size, 0, none⟩ = some (.int .i64 (i : Int)) ∧ (wr.alloc (.cells #[.int .i64 (i : Int), .int .i64 a, .int .i64 x] 101)).cell? ⟨wr.heap.size, 0 + 1, none⟩ = some (.int .i64 a) ∧ (wr.alloc (.cells #[.int .i64 (i : Int), .int .i64 a, .int .i64 x] 101)).cell? ⟨wr.heap.size, 0 + 2, none⟩ = some (.int .i64 x))) :=
        Lib.hid ⟨by rw [cell_of_row _ _ 0 _ _ _ (World.alloc_heap_new wr _)]; rfl, by rw [cell_of_row _ _ 1 _ _ _ (World.alloc_heap_new wr _)]; rfl, by rw [cell_of_row _ _ 2 _ _ _ (World.alloc_heap_new wr _)]; rfl⟩
      have P1 : Hid (Below wr.heap.size wr (wr.alloc (.cells #[.int .i64 (i : Int), .int .i64 a, .int .i64 x] 101))) := Lib.hid ((Below.refl _ wr).alloc (Nat.le_refl _) _)
      have HOP : Hid (upOk (st i) = true) := Lib.hid rfl
      rcases HS.out with ⟨hr1, hpk⟩ | ⟨j, e, hj, hr1, he1, hpk⟩
      · subst hr1
        have HF := Lib.hid (Bst.first hpk HI.out HOP.out)
        clear hpk HS
        go_wp2
        generalize wr.alloc (.cells #[.int .i64 (i : Int), .int .i64 a, .int .i64 x] 101) = wa at P0 P1 ⊢
        have BA := Lib.hid (below_on HB.out (Nat.le_refl _) P1.out)
        have Ewa := Lib.hid (HE.out.below BA.out)
        refine wp_region_noPanic ?_
        refine wp_region_held_drew (S := fun W => W.cell? ⟨wr.heap.size, 0, none⟩ = some (.int .i64 (i : Int)) ∧ W.cell? ⟨wr.heap.size, 0 + 1, none⟩ = some (.int .i64 a) ∧ W.cell? ⟨wr.heap.size, 0 + 2, none⟩ = some (.int .i64 x)) (by kernel_rfl) (by exact P0.out) (fun hHeld => ?_)
        refine wpAnyH_take (i := 0) (oi := { dst := some 17, op := Op.move (Operand.tmp 1), type := 105, pos := "division.go:88", after := #[], guard := none }) (v := ?_) rfl (by kernel_rfl) (by kernel_rfl) (by kernel_rfl) (fun _ _ _ h => h) (Or.inl ⟨by rfl, ?_⟩) (by assumption) ?_
        rotate_left
        · intro w hSw; (try dsimp only at hSw); go_simp; all_goals (with_reducible rfl)
        (try simp only [Act.put, List.setIfInBounds_toArray, List.set_cons_zero, List.set_cons_succ])
        refine wpAnyH_take (i := 1) (oi := { dst := some 18, op := Op.load 101 (Operand.tmp 9), type := 101, pos := "division.go:88", after := #[], guard := none }) (v := ?_) rfl (by kernel_rfl) (by kernel_rfl) (by kernel_rfl) (fun _ _ _ h => h) (Or.inl ⟨by rfl, ?_⟩) (by assumption) ?_
        rotate_left
        · intro w hSw; (try dsimp only at hSw); go_simp; all_goals (with_reducible rfl)
        (try simp only [Act.put, List.setIfInBounds_toArray, List.set_cons_zero, List.set_cons_succ])
        refine wpAnyH_ready (rs := [2]) (by kernel_rfl) (by simp) ?_
        refine AllReadyH.cons (o := { dst := some 19, op := Op.call { callee := Callee.value (Operand.tmp 17), args := #[Operand.tmp 18], argTypes := #[101] }, type := 4, pos := "division.go:88", after := #[{ on := 0, ground := Ground.data }, { on := 1, ground := Ground.data }], guard := none }) rfl (fun K hK => ?_) AllReadyH.nil
        go_simp
        refine (open_up _ (i : Int) a x).mono ?_
        rintro e0 wb ⟨rfl, hq⟩
        have hbwb : Below wa.heap.size wa wb := ⟨hq.os, hq.tape, hq.output, hq.size, hq.block⟩
        have BB := Lib.hid (below_on BA.out (Nat.le_refl _) hbwb)
        have p1 := three_below hbwb P0.out
        clear hbwb hq
        go_wp2_with fail
        refine hK.out _ _ (by exact p1) (fun hHeld => ?_)
        clear hK K
        (try simp only [Act.put, List.setIfInBounds_toArray, List.set_cons_zero, List.set_cons_succ])
        refine wpAnyH_take (i := 3) (oi := { dst := some 20, op := Op.move (Operand.tmp 19), type := 4, pos := "division.go:88", after := #[{ on := 2, ground := Ground.data }, { on := 2, ground := Ground.chain }], guard := none }) (v := ?_) rfl (by kernel_rfl) (by kernel_rfl) (by kernel_rfl) (fun _ _ _ h => h) (Or.inl ⟨by rfl, ?_⟩) (by assumption) ?_
        rotate_left
        · intro w hSw; (try dsimp only at hSw); go_simp; all_goals (with_reducible rfl)
        (try simp only [Act.put, List.setIfInBounds_toArray, List.set_cons_zero, List.set_cons_succ])
        refine wpAnyH_take (i := 4) (oi := { dst := some 21, op := Op.move (Operand.tmp 7), type := 3, pos := "division.go:88", after := #[{ on := 3, ground := Ground.guard }], guard := some (3, true) }) (v := ?_) rfl (by kernel_rfl) (by kernel_rfl) (by kernel_rfl) (fun _ _ _ h => h) (Or.inl ⟨by rfl, ?_⟩) (by assumption) ?_
        rotate_left
        · intro w hSw; (try dsimp only at hSw); go_simp; all_goals (with_reducible rfl)
        (try simp only [Act.put, List.setIfInBounds_toArray, List.set_cons_zero, List.set_cons_succ])
        refine wpAnyH_take (i := 5) (oi := { dst := some 22, op := Op.binOp BinOp.lss 3 (Operand.tmp 21) (Operand.const (Value.int IntKind.i64 0)) 3, type := 4, pos := "division.go:88", after := #[{ on := 4, ground := Ground.data }, { on := 3, ground := Ground.guard }], guard := some (3, true) }) (v := ?_) rfl (by kernel_rfl) (by kernel_rfl) (by kernel_rfl) (fun _ _ _ h => h) (Or.inl ⟨by rfl, ?_⟩) (by assumption) ?_
        rotate_left
        · intro w hSw; (try dsimp only at hSw); go_simp; all_goals (with_reducible rfl)
        (try simp only [Act.put, List.setIfInBounds_toArray, List.set_cons_zero, List.set_cons_succ])
        refine wpAnyH_take (i := 6) (oi := { dst := some 23, op := Op.move (Operand.tmp 22), type := 4, pos := "division.go:88", after := #[{ on := 5, ground := Ground.data }, { on := 3, ground := Ground.chain }, { on := 3, ground := Ground.guard }], guard := some (3, true) }) (v := ?_) rfl (by kernel_rfl) (by kernel_rfl) (by kernel_rfl) (fun _ _ _ h => h) (Or.inl ⟨by rfl, ?_⟩) (by assumption) ?_
        rotate_left
        · intro w hSw; (try dsimp only at hSw); go_simp; all_goals (with_reducible rfl)
        (try simp only [Act.put, List.setIfInBounds_toArray, List.set_cons_zero, List.set_cons_succ])
        refine wpAnyH_take (i := 7) (oi := { dst := some 24, op := Op.move (Operand.tmp 2), type := 102, pos := "division.go:88", after := #[{ on := 6, ground := Ground.guard }], guard := some (6, false) }) (v := undef) rfl (by kernel_rfl) (by kernel_rfl) (by kernel_rfl) (fun _ _ _ h => h) (Or.inr ⟨by rfl, rfl⟩) (by assumption) ?_
        (try simp only [Act.put, List.setIfInBounds_toArray, List.set_cons_zero, List.set_cons_succ])
        refine wpAnyH_take (i := 8) (oi := { dst := some 25, op := Op.load 101 (Operand.tmp 9), type := 101, pos := "division.go:88", after := #[{ on := 6, ground := Ground.guard }], guard := some (6, false) }) (v := undef) rfl (by kernel_rfl) (by kernel_rfl) (by kernel_rfl) (fun _ _ _ h => h) (Or.inr ⟨by rfl, rfl⟩) (by assumption) ?_
        (try simp only [Act.put, List.setIfInBounds_toArray, List.set_cons_zero, List.set_cons_succ])
        refine wpAnyH_take (i := 9) (oi := { dst := some 26, op := Op.call { callee := Callee.value (Operand.tmp 24), args := #[Operand.tmp 25], argTypes := #[101] }, type := 3, pos := "division.go:88", after := #[{ on := 7, ground := Ground.data }, { on := 8, ground := Ground.data }, { on := 6, ground := Ground.chain }, { on := 6, ground := Ground.guard }], guard := some (6, false) }) (v := undef) rfl (by kernel_rfl) (by kernel_rfl) (by kernel_rfl) (fun _ _ _ h => h) (Or.inr ⟨by rfl, rfl⟩) (by assumption) ?_
        (try simp only [Act.put, List.setIfInBounds_toArray, List.set_cons_zero, List.set_cons_succ])
        refine wpAnyH_take (i := 10) (oi := { dst := some 27, op := Op.move (Operand.tmp 2), type := 102, pos := "division.go:88", after := #[{ on := 6, ground := Ground.guard }], guard := some (6, false) }) (v := undef) rfl (by kernel_rfl) (by kernel_rfl) (by kernel_rfl) (fun _ _ _ h => h) (Or.inr ⟨by rfl, rfl⟩) (by assumption) ?_
        (try simp only [Act.put, List.setIfInBounds_toArray, List.set_cons_zero, List.set_cons_succ])
        refine wpAnyH_take (i := 11) (oi := { dst := some 28, op := Op.move (Operand.tmp 0), type := 97, pos := "division.go:88", after := #[{ on := 6, ground := Ground.guard }], guard := some (6, false) }) (v := undef) rfl (by kernel_rfl) (by kernel_rfl) (by kernel_rfl) (fun _ _ _ h => h) (Or.inr ⟨by rfl, rfl⟩) (by assumption) ?_
        (try simp only [Act.put, List.setIfInBounds_toArray, List.set_cons_zero, List.set_cons_succ])
        refine wpAnyH_take (i := 12) (oi := { dst := some 29, op := Op.move (Operand.tmp 7), type := 3, pos := "division.go:88", after := #[{ on := 6, ground := Ground.guard }], guard := some (6, false) }) (v := undef) rfl (by kernel_rfl) (by kernel_rfl) (by kernel_rfl) (fun _ _ _ h => h) (Or.inr ⟨by rfl, rfl⟩) (by assumption) ?_
        (try simp only [Act.put, List.setIfInBounds_toArray, List.set_cons_zero, List.set_cons_succ])
        refine wpAnyH_take (i := 13) (oi := { dst := some 30, op := Op.indexAddr 97 (Operand.tmp 28) (Operand.tmp 29), type := 0, pos := "division.go:88", after := #[{ on := 11, ground := Ground.data }, { on := 12, ground := Ground.data }, { on := 6, ground := Ground.guard }], guard := some (6, false) }) (v := undef) rfl (by kernel_rfl) (by kernel_rfl) (by kernel_rfl) (fun _ _ _ h => h) (Or.inr ⟨by rfl, rfl⟩) (by assumption) ?_
        (try simp only [Act.put, List.setIfInBounds_toArray, List.set_cons_zero, List.set_cons_succ])
        refine wpAnyH_take (i := 14) (oi := { dst := some 31, op := Op.load 101 (Operand.tmp 30), type := 101, pos := "division.go:88", after := #[{ on := 13, ground := Ground.data }, { on := 6, ground := Ground.guard }], guard := some (6, false) }) (v := undef) rfl (by kernel_rfl) (by kernel_rfl) (by kernel_rfl) (fun _ _ _ h => h) (Or.inr ⟨by rfl, rfl⟩) (by assumption) ?_
        (try simp only [Act.put, List.setIfInBounds_toArray, List.set_cons_zero, List.set_cons_succ])
        refine wpAnyH_take (i := 15) (oi := { dst := some 32, op := Op.call { callee := Callee.value (Operand.tmp 27), args := #[Operand.tmp 31], argTypes := #[101] }, type := 3, pos := "division.go:88", after := #[{ on := 10, ground := Ground.data }, { on := 14, ground := Ground.data }, { on := 9, ground := Ground.chain }, { on := 6, ground := Ground.guard }], guard := some (6, false) }) (v := undef) rfl (by kernel_rfl) (by kernel_rfl) (by kernel_rfl) (fun _ _ _ h => h) (Or.inr ⟨by rfl, rfl⟩) (by assumption) ?_
        (try simp only [Act.put, List.setIfInBounds_toArray, List.set_cons_zero, List.set_cons_succ])
        refine wpAnyH_take (i := 16) (oi := { dst := some 33, op := Op.binOp BinOp.gtr 3 (Operand.tmp 26) (Operand.tmp 32) 3, type := 4, pos := "division.go:88", after := #[{ on := 9, ground := Ground.data }, { on := 15, ground := Ground.data }, { on := 6, ground := Ground.guard }], guard := some (6, false) }) (v := undef) rfl (by kernel_rfl) (by kernel_rfl) (by kernel_rfl) (fun _ _ _ h => h) (Or.inr ⟨by rfl, rfl⟩) (by assumption) ?_
        (try simp only [Act.put, List.setIfInBounds_toArray, List.set_cons_zero, List.set_cons_succ])
        refine wpAnyH_take (i := 17) (oi := { dst := some 34, op := Op.pick (Operand.tmp 23) (Operand.const (Value.bool true)) (Operand.tmp 33), type := 4, pos := "division.go:88", after := #[{ on := 6, ground := Ground.data }, { on := 16, ground := Ground.data }, { on := 3, ground := Ground.guard }], guard := some (3, true) }) (v := ?_) rfl (by kernel_rfl) (by kernel_rfl) (by kernel_rfl) (fun _ _ _ h => h) (Or.inl ⟨by rfl, ?_⟩) (by assumption) ?_
        rotate_left
        · intro w hSw; (try dsimp only at hSw); go_simp; all_goals (with_reducible rfl)
        (try simp only [Act.put, List.setIfInBounds_toArray, List.set_cons_zero, List.set_cons_succ])
        refine wpAnyH_take (i := 18) (oi := { dst := some 35, op := Op.pick (Operand.tmp 20) (Operand.tmp 34) (Operand.const (Value.bool false)), type := 4, pos := "division.go:88", after := #[{ on := 3, ground := Ground.data }, { on := 17, ground := Ground.data }], guard := none }) (v := ?_) rfl (by kernel_rfl) (by kernel_rfl) (by kernel_rfl) (fun _ _ _ h => h) (Or.inl ⟨by rfl, ?_⟩) (by assumption) ?_
        rotate_left
        · intro w hSw; (try dsimp only at hSw); go_simp; all_goals (with_reducible rfl)
        (try simp only [Act.put, List.setIfInBounds_toArray, List.set_cons_zero, List.set_cons_succ])
        refine wpAnyH_done (by kernel_rfl) ?_ _
        refine NoPanic.normal ?_
        all_goals
          go_wp2
          exact ⟨⟨m + 1, m, by omega, by simp, rfl, HF, BB⟩, by simp [intOf]; omega⟩
      · subst hr1
        obtain ⟨f0, f1, f2⟩ := flat_get (sh := sh) (st := st) he1
        have rb := And.intro (HR.out.sh e (List.mem_of_getElem? he1)) (HR.out.st e (List.mem_of_getElem? he1))
        have HK1 : Hid (upKf (sh e - st e * (T : Int)) < upKf (sh i - st i * (T : Int)) → Bst (fun i => upOk (st i)) (fun i => upKf (sh i - st i * (T : Int))) U (m + 1) (m : Int)) := Lib.hid (fun h => Bst.more hpk HI.out HOP.out h)
        have HK2 : Hid (¬ upKf (sh e - st e * (T : Int)) < upKf (sh i - st i * (T : Int)) → Bst (fun i => upOk (st i)) (fun i => upKf (sh i - st i * (T : Int))) U (m + 1) (j : Int)) := Lib.hid (fun h => Bst.less hpk hj he1 HI.out h)
        obtain ⟨f, hf⟩ : ∃ f, sh e = f := ⟨_, rfl⟩
        obtain ⟨y, hy⟩ : ∃ y, st e = y := ⟨_, rfl⟩
        rw [hf] at f1 rb
        rw [hy] at f2 rb
        rw [hf, hy, HA.out, HX.out] at HK1 HK2
        have d0 : wr.cell? ⟨g, j * 3, none⟩ = some (.int .i64 (e : Int)) ∧ wr.cell? ⟨g, j * 3 + 1, none⟩ = some (.int .i64 f) ∧ wr.cell? ⟨g, j * 3 + 2, none⟩ = some (.int .i64 y) := ⟨by rw [OW.out.cellAt _ (by omega)]; exact f0, by rw [OW.out.cellAt _ (by omega)]; exact f1, by rw [OW.out.cellAt _ (by omega)]; exact f2⟩
        have D0 := Lib.hid (three_below P1.out d0)
        have RE := Lib.hid rb
        have hjn : j < n := by omega
        clear f0 f1 f2 hf hy rb hpk he1 HS d0
        obtain ⟨v1, hv1⟩ : ∃ v, a - x * (T : Int) = v := ⟨_, rfl⟩
        obtain ⟨v2, hv2⟩ : ∃ v, f - y * (T : Int) = v := ⟨_, rfl⟩
        have hk1 : v2 < v1 → Bst (fun i => upOk (st i)) (fun i => upKf (sh i - st i * (T : Int))) U (m + 1) (m : Int) := fun h => HK1.out (by rw [← hv1, ← hv2] at h; exact h)
        have hk2 : ¬ v2 < v1 → Bst (fun i => upOk (st i)) (fun i => upKf (sh i - st i * (T : Int))) U (m + 1) (j : Int) := fun h => HK2.out (by rw [← hv1, ← hv2] at h; exact h)
        have HV1 := Lib.hid hk1
        have HV2 := Lib.hid hk2
        have Q1 : Hid (∀ W, Env W bd b T → Calls Tryz.prog 43 #[por (i : Int) a x, .pointer (some ⟨bd, 0, none⟩)] W fun e w' => e = .returned (.int .i64 v1) ∧ Below W.heap.size W w') := Lib.hid (by rw [← hv1]; exact fun W h => claim_up W _ _ _ bd b T h hT RB.out.1 RB.out.2)
        have Q2 : Hid (∀ W, Env W bd b T → Calls Tryz.prog 43 #[por (e : Int) f y, .pointer (some ⟨bd, 0, none⟩)] W fun e w' => e = .returned (.int .i64 v2) ∧ Below W.heap.size W w') := Lib.hid (by rw [← hv2]; exact fun W h => claim_up W _ _ _ bd b T h hT RE.out.1 RE.out.2)
        clear hk1 hk2 hv1 hv2 HK1 HK2 HI HA HX HO
        by_cases hcmp : v2 < v1
        · have hcd : decide (v2 < v1) = true := decide_eq_true hcmp
          have HV := Lib.hid (HV1.out hcmp)
          clear HV1 HV2
          go_wp2
          generalize wr.alloc (.cells #[.int .i64 (i : Int), .int .i64 a, .int .i64 x] 101) = wa at P0 P1 D0 ⊢
          have BA := Lib.hid (below_on HB.out (Nat.le_refl _) P1.out)
          have Ewa := Lib.hid (HE.out.below BA.out)
          have s0 := And.intro P0.out D0.out
          go_region_held3 (fun W => (W.cell? ⟨wr.heap.size, 0, none⟩ = some (.int .i64 (i : Int)) ∧ W.cell? ⟨wr.heap.size, 0 + 1, none⟩ = some (.int .i64 a) ∧ W.cell? ⟨wr.heap.size, 0 + 2, none⟩ = some (.int .i64 x)) ∧ W.cell? ⟨g, j * 3, none⟩ = some (.int .i64 (e : Int)) ∧ W.cell? ⟨g, j * 3 + 1, none⟩ = some (.int .i64 f) ∧ W.cell? ⟨g, j * 3 + 2, none⟩ = some (.int .i64 y)) (first | exact s0 | exact s1 | exact s2 | exact s3) (first
            | (go_at_call 46; refine (open_up _ (i : Int) a x).mono ?_; rintro e0 wb ⟨rfl, hq⟩; have hbwb : Below wa.heap.size wa wb := ⟨hq.os, hq.tape, hq.output, hq.size, hq.block⟩; have Ewb := Lib.hid (Ewa.out.below hbwb); have BB := Lib.hid (below_on BA.out (Nat.le_refl _) hbwb); have s1 := And.intro (three_below hbwb s0.1) (three_below hbwb s0.2); clear hbwb hq)
            | (go_at_call 43; refine (Q2.out _ Ewc.out).mono ?_; rintro e0 wd ⟨rfl, hq⟩; have hbwd : Below wc.heap.size wc wd := ⟨hq.os, hq.tape, hq.output, hq.size, hq.block⟩; have s3 := And.intro (three_below hbwd s2.1) (three_below hbwd s2.2); have BD := Lib.hid (below_on BC.out (Nat.le_refl _) hbwd); clear hbwd hq)
            | (go_at_call 43; refine (Q1.out _ Ewb.out).mono ?_; rintro e0 wc ⟨rfl, hq⟩; have hbwc : Below wb.heap.size wb wc := ⟨hq.os, hq.tape, hq.output, hq.size, hq.block⟩; have Ewc := Lib.hid (Ewb.out.below hbwc); have s2 := And.intro (three_below hbwc s1.1) (three_below hbwc s1.2); have BC := Lib.hid (below_on BB.out (Nat.le_refl _) hbwc); clear hbwc hq))
          all_goals
            go_wp2
            exact ⟨⟨m + 1, m, by omega, by simp, rfl, HV, BD⟩, by simp [intOf]; omega⟩
        
        · have hcd : decide (v2 < v1) = false := decide_eq_false hcmp
          have HV := Lib.hid (HV2.out hcmp)
          clear HV1 HV2
          go_wp2
          generalize wr.alloc (.cells #[.int .i64 (i : Int), .int .i64 a, .int .i64 x] 101) = wa at P0 P1 D0 ⊢
          have BA := Lib.hid (below_on HB.out (Nat.le_refl _) P1.out)
          have Ewa := Lib.hid (HE.out.below BA.out)
          have s0 := And.intro P0.out D0.out
          go_region_held3 (fun W => (W.cell? ⟨wr.heap.size, 0, none⟩ = some (.int .i64 (i : Int)) ∧ W.cell? ⟨wr.heap.size, 0 + 1, none⟩ = some (.int .i64 a) ∧ W.cell? ⟨wr.heap.size, 0 + 2, none⟩ = some (.int .i64 x)) ∧ W.cell? ⟨g, j * 3, none⟩ = some (.int .i64 (e : Int)) ∧ W.cell? ⟨g, j * 3 + 1, none⟩ = some (.int .i64 f) ∧ W.cell? ⟨g, j * 3 + 2, none⟩ = some (.int .i64 y)) (first | exact s0 | exact s1 | exact s2 | exact s3) (first
            | (go_at_call 46; refine (open_up _ (i : Int) a x).mono ?_; rintro e0 wb ⟨rfl, hq⟩; have hbwb : Below wa.heap.size wa wb := ⟨hq.os, hq.tape, hq.output, hq.size, hq.block⟩; have Ewb := Lib.hid (Ewa.out.below hbwb); have BB := Lib.hid (below_on BA.out (Nat.le_refl _) hbwb); have s1 := And.intro (three_below hbwb s0.1) (three_below hbwb s0.2); clear hbwb hq)
            | (go_at_call 43; refine (Q2.out _ Ewc.out).mono ?_; rintro e0 wd ⟨rfl, hq⟩; have hbwd : Below wc.heap.size wc wd := ⟨hq.os, hq.tape, hq.output, hq.size, hq.block⟩; have s3 := And.intro (three_below hbwd s2.1) (three_below hbwd s2.2); have BD := Lib.hid (below_on BC.out (Nat.le_refl _) hbwd); clear hbwd hq)
            | (go_at_call 43; refine (Q1.out _ Ewb.out).mono ?_; rintro e0 wc ⟨rfl, hq⟩; have hbwc : Below wb.heap.size wb wc := ⟨hq.os, hq.tape, hq.output, hq.size, hq.block⟩; have Ewc := Lib.hid (Ewb.out.below hbwc); have s2 := And.intro (three_below hbwc s1.1) (three_below hbwc s1.2); have BC := Lib.hid (below_on BB.out (Nat.le_refl _) hbwc); clear hbwc hq))
          all_goals
            go_wp2
            exact ⟨⟨m + 1, j, by omega, by simp, rfl, HV, BD⟩, by simp [intOf]; omega⟩
    · go_wp2
      go_ret
      exact ⟨r, rfl, by rw [show n = m by omega]; exact HS.out, HB.out⟩

set_option maxRecDepth 100000 in
set_option maxHeartbeats 2000000 in
theorem greatest_dn (w : World) (B g n c : Nat) (U : List Nat) (sh st : Nat → Int) (bl bd b T : Nat) (hl : w.cell? ⟨bl, 0, none⟩ = some (.func (Fn.func 43) #[] #[.pointer (some ⟨bd, 0, none⟩)])) (ho : w.ownsRow B 101 3 (.slice (some ⟨g, 0, none⟩) n c) n (flat U sh st)) (hn : U.length = n) (hnb : n ≤ 512) (he : Env w bd b T) (hT : T ≤ 1099511627776) (hr : Rg U sh st 1000000) :
    Calls Tryz.prog 78 #[.slice (some ⟨g, 0, none⟩) n c, fv 48 #[], fv 49 #[.pointer (some ⟨bl, 0, none⟩)]] w
      fun e w' => ∃ r, e = .returned (.int .i64 r) ∧ Bst (fun i => dnOk (st i)) (fun i => dnKf (sh i - st i * (T : Int))) U n r ∧ Below w.heap.size w w' := by
  simp only [fv]
  have HO := Lib.hid ho
  have HN := Lib.hid hn
  have HE := Lib.hid he
  have HR := Lib.hid hr
  have HL := Lib.hid hl
  clear hl
  clear ho hn he hr
  go_enter Tryz.func78, Tryz.ntmps78
  go_wp2
  go_loopw [7, 12] (fun q p wr => ∃ m : Nat, ∃ r : Int, m ≤ n ∧ p = .int .i64 (m : Int) ∧ q = .int .i64 r ∧ Hid (Bst (fun i => dnOk (st i)) (fun i => dnKf (sh i - st i * (T : Int))) U m r) ∧ Hid (Below w.heap.size w wr)) (fun _ p _ => n - (intOf p).toNat)
  case atStart => exact ⟨0, -1, Nat.zero_le _, rfl, rfl, Lib.hid (Bst.zero _ _ U), Lib.hid (Below.refl _ _)⟩
  case round =>
    obtain ⟨m, r, hm, rfl, rfl, HS, HB⟩ := hrel
    by_cases hlt : m < n
    · obtain ⟨i, hi⟩ : ∃ i, U[m]? = some i := ⟨_, List.getElem?_eq_getElem (by rw [HN.out]; exact hlt)⟩
      obtain ⟨f0, f1, f2⟩ := flat_get (sh := sh) (st := st) hi
      have ow := own_same3 HO.out (W' := wr) (fun g' e => HB.out.block _ (own_lt3 HO.out e))
      have HI := Lib.hid hi
      have rb := And.intro (HR.out.sh i (List.mem_of_getElem? hi)) (HR.out.st i (List.mem_of_getElem? hi))
      obtain ⟨a, ha⟩ : ∃ a, sh i = a := ⟨_, rfl⟩
      obtain ⟨x, hx⟩ : ∃ x, st i = x := ⟨_, rfl⟩
      rw [ha] at f1 rb
      rw [hx] at f2 rb
      have HA := Lib.hid ha
      have HX := Lib.hid hx
      have c0 : wr.cell? ⟨g, m * 3, none⟩ = some (.int .i64 (i : Int)) := by rw [ow.cellAt _ (by omega)]; exact f0
      have c1 : wr.cell? ⟨g, m * 3 + 1, none⟩ = some (.int .i64 a) := by rw [ow.cellAt _ (by omega)]; exact f1
      have c2 : wr.cell? ⟨g, m * 3 + 2, none⟩ = some (.int .i64 x) := by rw [ow.cellAt _ (by omega)]; exact f2
      have RB := Lib.hid rb
      have OW := Lib.hid ow
      clear ow f0 f1 f2 hi ha hx rb
      have P0 : Hid (((wr.alloc (.cells #[.int .i64 (i : Int), .int .i64 a, .int .i64 x] 101)).cell? ⟨wr.heap.size, 0, none⟩ = some (.int .i64 (i : Int)) ∧ (wr.alloc (.cells #[.int .i64 (i : Int), .int .i64 a, .int .i64 x] 101)).cell? ⟨wr.heap.size, 0 + 1, none⟩ = some (.int .i64 a) ∧ (wr.alloc (.cells #[.int .i64 (i : Int), .int .i64 a, .int .i64 x] 101)).cell? ⟨wr.heap.size, 0 + 2, none⟩ = some (.int .i64 x))) :=
        Lib.hid ⟨by rw [cell_of_row _ _ 0 _ _ _ (World.alloc_heap_new wr _)]; rfl, by rw [cell_of_row _ _ 1 _ _ _ (World.alloc_heap_new wr _)]; rfl, by rw [cell_of_row _ _ 2 _ _ _ (World.alloc_heap_new wr _)]; rfl⟩
      have P1 : Hid (Below wr.heap.size wr (wr.alloc (.cells #[.int .i64 (i : Int), .int .i64 a, .int .i64 x] 101))) := Lib.hid ((Below.refl _ wr).alloc (Nat.le_refl _) _)
      by_cases hop : 1 < x
      · have HOP : Hid (dnOk (st i) = true) := Lib.hid (by rw [HX.out]; simp [hop])
        rcases HS.out with ⟨hr1, hpk⟩ | ⟨j, e, hj, hr1, he1, hpk⟩
        · subst hr1
          have HF := Lib.hid (Bst.first hpk HI.out HOP.out)
          clear hpk HS
          go_wp2
          generalize wr.alloc (.cells #[.int .i64 (i : Int), .int .i64 a, .int .i64 x] 101) = wa at P0 P1 ⊢
          have BA := Lib.hid (below_on HB.out (Nat.le_refl _) P1.out)
          have Ewa := Lib.hid (HE.out.below BA.out)
          have Kwa := Lib.hid ((BA.out.cell (cell_lt HL.out)).trans HL.out)
          refine wp_region_noPanic ?_
          refine wp_region_held_drew (S := fun W => W.cell? ⟨wr.heap.size, 0, none⟩ = some (.int .i64 (i : Int)) ∧ W.cell? ⟨wr.heap.size, 0 + 1, none⟩ = some (.int .i64 a) ∧ W.cell? ⟨wr.heap.size, 0 + 2, none⟩ = some (.int .i64 x)) (by kernel_rfl) (by exact P0.out) (fun hHeld => ?_)
          refine wpAnyH_take (i := 0) (oi := { dst := some 17, op := Op.move (Operand.tmp 1), type := 105, pos := "division.go:88", after := #[], guard := none }) (v := ?_) rfl (by kernel_rfl) (by kernel_rfl) (by kernel_rfl) (fun _ _ _ h => h) (Or.inl ⟨by rfl, ?_⟩) (by assumption) ?_
          rotate_left
          · intro w hSw; (try dsimp only at hSw); go_simp; all_goals (with_reducible rfl)
          (try simp only [Act.put, List.setIfInBounds_toArray, List.set_cons_zero, List.set_cons_succ])
          refine wpAnyH_take (i := 1) (oi := { dst := some 18, op := Op.load 101 (Operand.tmp 9), type := 101, pos := "division.go:88", after := #[], guard := none }) (v := ?_) rfl (by kernel_rfl) (by kernel_rfl) (by kernel_rfl) (fun _ _ _ h => h) (Or.inl ⟨by rfl, ?_⟩) (by assumption) ?_
          rotate_left
          · intro w hSw; (try dsimp only at hSw); go_simp; all_goals (with_reducible rfl)
          (try simp only [Act.put, List.setIfInBounds_toArray, List.set_cons_zero, List.set_cons_succ])
          refine wpAnyH_ready (rs := [2]) (by kernel_rfl) (by simp) ?_
          refine AllReadyH.cons (o := { dst := some 19, op := Op.call { callee := Callee.value (Operand.tmp 17), args := #[Operand.tmp 18], argTypes := #[101] }, type := 4, pos := "division.go:88", after := #[{ on := 0, ground := Ground.data }, { on := 1, ground := Ground.data }], guard := none }) rfl (fun K hK => ?_) AllReadyH.nil
          go_simp
          refine (open_dn _ (i : Int) a x).mono ?_
          rintro e0 wb ⟨rfl, hq⟩
          have hbwb : Below wa.heap.size wa wb := ⟨hq.os, hq.tape, hq.output, hq.size, hq.block⟩
          have BB := Lib.hid (below_on BA.out (Nat.le_refl _) hbwb)
          have p1 := three_below hbwb P0.out
          clear hbwb hq
          rw [decide_eq_true hop]
          go_wp2_with fail
          refine hK.out _ _ (by exact p1) (fun hHeld => ?_)
          clear hK K
          (try simp only [Act.put, List.setIfInBounds_toArray, List.set_cons_zero, List.set_cons_succ])
          refine wpAnyH_take (i := 3) (oi := { dst := some 20, op := Op.move (Operand.tmp 19), type := 4, pos := "division.go:88", after := #[{ on := 2, ground := Ground.data }, { on := 2, ground := Ground.chain }], guard := none }) (v := ?_) rfl (by kernel_rfl) (by kernel_rfl) (by kernel_rfl) (fun _ _ _ h => h) (Or.inl ⟨by rfl, ?_⟩) (by assumption) ?_
          rotate_left
          · intro w hSw; (try dsimp only at hSw); go_simp; all_goals (with_reducible rfl)
          (try simp only [Act.put, List.setIfInBounds_toArray, List.set_cons_zero, List.set_cons_succ])
          refine wpAnyH_take (i := 4) (oi := { dst := some 21, op := Op.move (Operand.tmp 7), type := 3, pos := "division.go:88", after := #[{ on := 3, ground := Ground.guard }], guard := some (3, true) }) (v := ?_) rfl (by kernel_rfl) (by kernel_rfl) (by kernel_rfl) (fun _ _ _ h => h) (Or.inl ⟨by rfl, ?_⟩) (by assumption) ?_
          rotate_left
          · intro w hSw; (try dsimp only at hSw); go_simp; all_goals (with_reducible rfl)
          (try simp only [Act.put, List.setIfInBounds_toArray, List.set_cons_zero, List.set_cons_succ])
          refine wpAnyH_take (i := 5) (oi := { dst := some 22, op := Op.binOp BinOp.lss 3 (Operand.tmp 21) (Operand.const (Value.int IntKind.i64 0)) 3, type := 4, pos := "division.go:88", after := #[{ on := 4, ground := Ground.data }, { on := 3, ground := Ground.guard }], guard := some (3, true) }) (v := ?_) rfl (by kernel_rfl) (by kernel_rfl) (by kernel_rfl) (fun _ _ _ h => h) (Or.inl ⟨by rfl, ?_⟩) (by assumption) ?_
          rotate_left
          · intro w hSw; (try dsimp only at hSw); go_simp; all_goals (with_reducible rfl)
          (try simp only [Act.put, List.setIfInBounds_toArray, List.set_cons_zero, List.set_cons_succ])
          refine wpAnyH_take (i := 6) (oi := { dst := some 23, op := Op.move (Operand.tmp 22), type := 4, pos := "division.go:88", after := #[{ on := 5, ground := Ground.data }, { on := 3, ground := Ground.chain }, { on := 3, ground := Ground.guard }], guard := some (3, true) }) (v := ?_) rfl (by kernel_rfl) (by kernel_rfl) (by kernel_rfl) (fun _ _ _ h => h) (Or.inl ⟨by rfl, ?_⟩) (by assumption) ?_
          rotate_left
          · intro w hSw; (try dsimp only at hSw); go_simp; all_goals (with_reducible rfl)
          (try simp only [Act.put, List.setIfInBounds_toArray, List.set_cons_zero, List.set_cons_succ])
          refine wpAnyH_take (i := 7) (oi := { dst := some 24, op := Op.move (Operand.tmp 2), type := 102, pos := "division.go:88", after := #[{ on := 6, ground := Ground.guard }], guard := some (6, false) }) (v := undef) rfl (by kernel_rfl) (by kernel_rfl) (by kernel_rfl) (fun _ _ _ h => h) (Or.inr ⟨by rfl, rfl⟩) (by assumption) ?_
          (try simp only [Act.put, List.setIfInBounds_toArray, List.set_cons_zero, List.set_cons_succ])
          refine wpAnyH_take (i := 8) (oi := { dst := some 25, op := Op.load 101 (Operand.tmp 9), type := 101, pos := "division.go:88", after := #[{ on := 6, ground := Ground.guard }], guard := some (6, false) }) (v := undef) rfl (by kernel_rfl) (by kernel_rfl) (by kernel_rfl) (fun _ _ _ h => h) (Or.inr ⟨by rfl, rfl⟩) (by assumption) ?_
          (try simp only [Act.put, List.setIfInBounds_toArray, List.set_cons_zero, List.set_cons_succ])
          refine wpAnyH_take (i := 9) (oi := { dst := some 26, op := Op.call { callee := Callee.value (Operand.tmp 24), args := #[Operand.tmp 25], argTypes := #[101] }, type := 3, pos := "division.go:88", after := #[{ on := 7, ground := Ground.data }, { on := 8, ground := Ground.data }, { on := 6, ground := Ground.chain }, { on := 6, ground := Ground.guard }], guard := some (6, false) }) (v := undef) rfl (by kernel_rfl) (by kernel_rfl) (by kernel_rfl) (fun _ _ _ h => h) (Or.inr ⟨by rfl, rfl⟩) (by assumption) ?_
          (try simp only [Act.put, List.setIfInBounds_toArray, List.set_cons_zero, List.set_cons_succ])
          refine wpAnyH_take (i := 10) (oi := { dst := some 27, op := Op.move (Operand.tmp 2), type := 102, pos := "division.go:88", after := #[{ on := 6, ground := Ground.guard }], guard := some (6, false) }) (v := undef) rfl (by kernel_rfl) (by kernel_rfl) (by kernel_rfl) (fun _ _ _ h => h) (Or.inr ⟨by rfl, rfl⟩) (by assumption) ?_
          (try simp only [Act.put, List.setIfInBounds_toArray, List.set_cons_zero, List.set_cons_succ])
          refine wpAnyH_take (i := 11) (oi := { dst := some 28, op := Op.move (Operand.tmp 0), type := 97, pos := "division.go:88", after := #[{ on := 6, ground := Ground.guard }], guard := some (6, false) }) (v := undef) rfl (by kernel_rfl) (by kernel_rfl) (by kernel_rfl) (fun _ _ _ h => h) (Or.inr ⟨by rfl, rfl⟩) (by assumption) ?_
          (try simp only [Act.put, List.setIfInBounds_toArray, List.set_cons_zero, List.set_cons_succ])
          refine wpAnyH_take (i := 12) (oi := { dst := some 29, op := Op.move (Operand.tmp 7), type := 3, pos := "division.go:88", after := #[{ on := 6, ground := Ground.guard }], guard := some (6, false) }) (v := undef) rfl (by kernel_rfl) (by kernel_rfl) (by kernel_rfl) (fun _ _ _ h => h) (Or.inr ⟨by rfl, rfl⟩) (by assumption) ?_
          (try simp only [Act.put, List.setIfInBounds_toArray, List.set_cons_zero, List.set_cons_succ])
          refine wpAnyH_take (i := 13) (oi := { dst := some 30, op := Op.indexAddr 97 (Operand.tmp 28) (Operand.tmp 29), type := 0, pos := "division.go:88", after := #[{ on := 11, ground := Ground.data }, { on := 12, ground := Ground.data }, { on := 6, ground := Ground.guard }], guard := some (6, false) }) (v := undef) rfl (by kernel_rfl) (by kernel_rfl) (by kernel_rfl) (fun _ _ _ h => h) (Or.inr ⟨by rfl, rfl⟩) (by assumption) ?_
          (try simp only [Act.put, List.setIfInBounds_toArray, List.set_cons_zero, List.set_cons_succ])
          refine wpAnyH_take (i := 14) (oi := { dst := some 31, op := Op.load 101 (Operand.tmp 30), type := 101, pos := "division.go:88", after := #[{ on := 13, ground := Ground.data }, { on := 6, ground := Ground.guard }], guard := some (6, false) }) (v := undef) rfl (by kernel_rfl) (by kernel_rfl) (by kernel_rfl) (fun _ _ _ h => h) (Or.inr ⟨by rfl, rfl⟩) (by assumption) ?_
          (try simp only [Act.put, List.setIfInBounds_toArray, List.set_cons_zero, List.set_cons_succ])
          refine wpAnyH_take (i := 15) (oi := { dst := some 32, op := Op.call { callee := Callee.value (Operand.tmp 27), args := #[Operand.tmp 31], argTypes := #[101] }, type := 3, pos := "division.go:88", after := #[{ on := 10, ground := Ground.data }, { on := 14, ground := Ground.data }, { on := 9, ground := Ground.chain }, { on := 6, ground := Ground.guard }], guard := some (6, false) }) (v := undef) rfl (by kernel_rfl) (by kernel_rfl) (by kernel_rfl) (fun _ _ _ h => h) (Or.inr ⟨by rfl, rfl⟩) (by assumption) ?_
          (try simp only [Act.put, List.setIfInBounds_toArray, List.set_cons_zero, List.set_cons_succ])
          refine wpAnyH_take (i := 16) (oi := { dst := some 33, op := Op.binOp BinOp.gtr 3 (Operand.tmp 26) (Operand.tmp 32) 3, type := 4, pos := "division.go:88", after := #[{ on := 9, ground := Ground.data }, { on := 15, ground := Ground.data }, { on := 6, ground := Ground.guard }], guard := some (6, false) }) (v := undef) rfl (by kernel_rfl) (by kernel_rfl) (by kernel_rfl) (fun _ _ _ h => h) (Or.inr ⟨by rfl, rfl⟩) (by assumption) ?_
          (try simp only [Act.put, List.setIfInBounds_toArray, List.set_cons_zero, List.set_cons_succ])
          refine wpAnyH_take (i := 17) (oi := { dst := some 34, op := Op.pick (Operand.tmp 23) (Operand.const (Value.bool true)) (Operand.tmp 33), type := 4, pos := "division.go:88", after := #[{ on := 6, ground := Ground.data }, { on := 16, ground := Ground.data }, { on := 3, ground := Ground.guard }], guard := some (3, true) }) (v := ?_) rfl (by kernel_rfl) (by kernel_rfl) (by kernel_rfl) (fun _ _ _ h => h) (Or.inl ⟨by rfl, ?_⟩) (by assumption) ?_
          rotate_left
          · intro w hSw; (try dsimp only at hSw); go_simp; all_goals (with_reducible rfl)
          (try simp only [Act.put, List.setIfInBounds_toArray, List.set_cons_zero, List.set_cons_succ])
          refine wpAnyH_take (i := 18) (oi := { dst := some 35, op := Op.pick (Operand.tmp 20) (Operand.tmp 34) (Operand.const (Value.bool false)), type := 4, pos := "division.go:88", after := #[{ on := 3, ground := Ground.data }, { on := 17, ground := Ground.data }], guard := none }) (v := ?_) rfl (by kernel_rfl) (by kernel_rfl) (by kernel_rfl) (fun _ _ _ h => h) (Or.inl ⟨by rfl, ?_⟩) (by assumption) ?_
          rotate_left
          · intro w hSw; (try dsimp only at hSw); go_simp; all_goals (with_reducible rfl)
          (try simp only [Act.put, List.setIfInBounds_toArray, List.set_cons_zero, List.set_cons_succ])
          refine wpAnyH_done (by kernel_rfl) ?_ _
          refine NoPanic.normal ?_
          all_goals
            go_wp2
            exact ⟨⟨m + 1, m, by omega, by simp, rfl, HF, BB⟩, by simp [intOf]; omega⟩
        · subst hr1
          obtain ⟨f0, f1, f2⟩ := flat_get (sh := sh) (st := st) he1
          have rb := And.intro (HR.out.sh e (List.mem_of_getElem? he1)) (HR.out.st e (List.mem_of_getElem? he1))
          have HK1 : Hid (dnKf (sh e - st e * (T : Int)) < dnKf (sh i - st i * (T : Int)) → Bst (fun i => dnOk (st i)) (fun i => dnKf (sh i - st i * (T : Int))) U (m + 1) (m : Int)) := Lib.hid (fun h => Bst.more hpk HI.out HOP.out h)
          have HK2 : Hid (¬ dnKf (sh e - st e * (T : Int)) < dnKf (sh i - st i * (T : Int)) → Bst (fun i => dnOk (st i)) (fun i => dnKf (sh i - st i * (T : Int))) U (m + 1) (j : Int)) := Lib.hid (fun h => Bst.less hpk hj he1 HI.out h)
          obtain ⟨f, hf⟩ : ∃ f, sh e = f := ⟨_, rfl⟩
          obtain ⟨y, hy⟩ : ∃ y, st e = y := ⟨_, rfl⟩
          rw [hf] at f1 rb
          rw [hy] at f2 rb
          rw [hf, hy, HA.out, HX.out] at HK1 HK2
          have d0 : wr.cell? ⟨g, j * 3, none⟩ = some (.int .i64 (e : Int)) ∧ wr.cell? ⟨g, j * 3 + 1, none⟩ = some (.int .i64 f) ∧ wr.cell? ⟨g, j * 3 + 2, none⟩ = some (.int .i64 y) := ⟨by rw [OW.out.cellAt _ (by omega)]; exact f0, by rw [OW.out.cellAt _ (by omega)]; exact f1, by rw [OW.out.cellAt _ (by omega)]; exact f2⟩
          have D0 := Lib.hid (three_below P1.out d0)
          have RE := Lib.hid rb
          have hjn : j < n := by omega
          clear f0 f1 f2 hf hy rb hpk he1 HS d0
          obtain ⟨v1, hv1⟩ : ∃ v, -(a - x * (T : Int)) = v := ⟨_, rfl⟩
          obtain ⟨v2, hv2⟩ : ∃ v, -(f - y * (T : Int)) = v := ⟨_, rfl⟩
          have hk1 : v2 < v1 → Bst (fun i => dnOk (st i)) (fun i => dnKf (sh i - st i * (T : Int))) U (m + 1) (m : Int) := fun h => HK1.out (by rw [← hv1, ← hv2] at h; exact h)
          have hk2 : ¬ v2 < v1 → Bst (fun i => dnOk (st i)) (fun i => dnKf (sh i - st i * (T : Int))) U (m + 1) (j : Int) := fun h => HK2.out (by rw [← hv1, ← hv2] at h; exact h)
          have HV1 := Lib.hid hk1
          have HV2 := Lib.hid hk2
          have Q1 : Hid (∀ W, W.cell? ⟨bl, 0, none⟩ = some (.func (Fn.func 43) #[] #[.pointer (some ⟨bd, 0, none⟩)]) → Env W bd b T → Calls Tryz.prog 49 #[por (i : Int) a x, .pointer (some ⟨bl, 0, none⟩)] W fun e w' => e = .returned (.int .i64 v1) ∧ Below W.heap.size W w') := Lib.hid (by rw [← hv1]; exact fun W hk h => claim_dn W _ _ _ bl bd b T hk h hT RB.out.1 RB.out.2)
          have Q2 : Hid (∀ W, W.cell? ⟨bl, 0, none⟩ = some (.func (Fn.func 43) #[] #[.pointer (some ⟨bd, 0, none⟩)]) → Env W bd b T → Calls Tryz.prog 49 #[por (e : Int) f y, .pointer (some ⟨bl, 0, none⟩)] W fun e w' => e = .returned (.int .i64 v2) ∧ Below W.heap.size W w') := Lib.hid (by rw [← hv2]; exact fun W hk h => claim_dn W _ _ _ bl bd b T hk h hT RE.out.1 RE.out.2)
          clear hk1 hk2 hv1 hv2 HK1 HK2 HI HA HX HO
          by_cases hcmp : v2 < v1
          · have hcd : decide (v2 < v1) = true := decide_eq_true hcmp
            have HV := Lib.hid (HV1.out hcmp)
            clear HV1 HV2
            go_wp2
            generalize wr.alloc (.cells #[.int .i64 (i : Int), .int .i64 a, .int .i64 x] 101) = wa at P0 P1 D0 ⊢
            have BA := Lib.hid (below_on HB.out (Nat.le_refl _) P1.out)
            have Ewa := Lib.hid (HE.out.below BA.out)
            have Kwa := Lib.hid ((BA.out.cell (cell_lt HL.out)).trans HL.out)
            have s0 := And.intro P0.out D0.out
            go_region_held3 (fun W => (W.cell? ⟨wr.heap.size, 0, none⟩ = some (.int .i64 (i : Int)) ∧ W.cell? ⟨wr.heap.size, 0 + 1, none⟩ = some (.int .i64 a) ∧ W.cell? ⟨wr.heap.size, 0 + 2, none⟩ = some (.int .i64 x)) ∧ W.cell? ⟨g, j * 3, none⟩ = some (.int .i64 (e : Int)) ∧ W.cell? ⟨g, j * 3 + 1, none⟩ = some (.int .i64 f) ∧ W.cell? ⟨g, j * 3 + 2, none⟩ = some (.int .i64 y)) (first | exact s0 | exact s1 | exact s2 | exact s3) (first
              | (go_at_call 48; refine (open_dn _ (i : Int) a x).mono ?_; rintro e0 wb ⟨rfl, hq⟩; have hbwb : Below wa.heap.size wa wb := ⟨hq.os, hq.tape, hq.output, hq.size, hq.block⟩; have Ewb := Lib.hid (Ewa.out.below hbwb); have Kwb := Lib.hid ((hbwb.cell (cell_lt Kwa.out)).trans Kwa.out); have BB := Lib.hid (below_on BA.out (Nat.le_refl _) hbwb); have s1 := And.intro (three_below hbwb s0.1) (three_below hbwb s0.2); clear hbwb hq)
              | (go_at_call 49; refine (Q2.out _ Kwc.out Ewc.out).mono ?_; rintro e0 wd ⟨rfl, hq⟩; have hbwd : Below wc.heap.size wc wd := ⟨hq.os, hq.tape, hq.output, hq.size, hq.block⟩; have s3 := And.intro (three_below hbwd s2.1) (three_below hbwd s2.2); have BD := Lib.hid (below_on BC.out (Nat.le_refl _) hbwd); clear hbwd hq)
              | (go_at_call 49; refine (Q1.out _ Kwb.out Ewb.out).mono ?_; rintro e0 wc ⟨rfl, hq⟩; have hbwc : Below wb.heap.size wb wc := ⟨hq.os, hq.tape, hq.output, hq.size, hq.block⟩; have Ewc := Lib.hid (Ewb.out.below hbwc); have Kwc := Lib.hid ((hbwc.cell (cell_lt Kwb.out)).trans Kwb.out); have s2 := And.intro (three_below hbwc s1.1) (three_below hbwc s1.2); have BC := Lib.hid (below_on BB.out (Nat.le_refl _) hbwc); clear hbwc hq))
            all_goals
              go_wp2
              exact ⟨⟨m + 1, m, by omega, by simp, rfl, HV, BD⟩, by simp [intOf]; omega⟩
          
          · have hcd : decide (v2 < v1) = false := decide_eq_false hcmp
            have HV := Lib.hid (HV2.out hcmp)
            clear HV1 HV2
            go_wp2
            generalize wr.alloc (.cells #[.int .i64 (i : Int), .int .i64 a, .int .i64 x] 101) = wa at P0 P1 D0 ⊢
            have BA := Lib.hid (below_on HB.out (Nat.le_refl _) P1.out)
            have Ewa := Lib.hid (HE.out.below BA.out)
            have Kwa := Lib.hid ((BA.out.cell (cell_lt HL.out)).trans HL.out)
            have s0 := And.intro P0.out D0.out
            go_region_held3 (fun W => (W.cell? ⟨wr.heap.size, 0, none⟩ = some (.int .i64 (i : Int)) ∧ W.cell? ⟨wr.heap.size, 0 + 1, none⟩ = some (.int .i64 a) ∧ W.cell? ⟨wr.heap.size, 0 + 2, none⟩ = some (.int .i64 x)) ∧ W.cell? ⟨g, j * 3, none⟩ = some (.int .i64 (e : Int)) ∧ W.cell? ⟨g, j * 3 + 1, none⟩ = some (.int .i64 f) ∧ W.cell? ⟨g, j * 3 + 2, none⟩ = some (.int .i64 y)) (first | exact s0 | exact s1 | exact s2 | exact s3) (first
              | (go_at_call 48; refine (open_dn _ (i : Int) a x).mono ?_; rintro e0 wb ⟨rfl, hq⟩; have hbwb : Below wa.heap.size wa wb := ⟨hq.os, hq.tape, hq.output, hq.size, hq.block⟩; have Ewb := Lib.hid (Ewa.out.below hbwb); have Kwb := Lib.hid ((hbwb.cell (cell_lt Kwa.out)).trans Kwa.out); have BB := Lib.hid (below_on BA.out (Nat.le_refl _) hbwb); have s1 := And.intro (three_below hbwb s0.1) (three_below hbwb s0.2); clear hbwb hq)
              | (go_at_call 49; refine (Q2.out _ Kwc.out Ewc.out).mono ?_; rintro e0 wd ⟨rfl, hq⟩; have hbwd : Below wc.heap.size wc wd := ⟨hq.os, hq.tape, hq.output, hq.size, hq.block⟩; have s3 := And.intro (three_below hbwd s2.1) (three_below hbwd s2.2); have BD := Lib.hid (below_on BC.out (Nat.le_refl _) hbwd); clear hbwd hq)
              | (go_at_call 49; refine (Q1.out _ Kwb.out Ewb.out).mono ?_; rintro e0 wc ⟨rfl, hq⟩; have hbwc : Below wb.heap.size wb wc := ⟨hq.os, hq.tape, hq.output, hq.size, hq.block⟩; have Ewc := Lib.hid (Ewb.out.below hbwc); have Kwc := Lib.hid ((hbwc.cell (cell_lt Kwb.out)).trans Kwb.out); have s2 := And.intro (three_below hbwc s1.1) (three_below hbwc s1.2); have BC := Lib.hid (below_on BB.out (Nat.le_refl _) hbwc); clear hbwc hq))
            all_goals
              go_wp2
              exact ⟨⟨m + 1, j, by omega, by simp, rfl, HV, BD⟩, by simp [intOf]; omega⟩
      · have HF := Lib.hid (HS.out.no HI.out (show dnOk (st i) = false by rw [HX.out]; simp [hop]))
        clear HS
        go_wp2
        generalize wr.alloc (.cells #[.int .i64 (i : Int), .int .i64 a, .int .i64 x] 101) = wa at P0 P1 ⊢
        have BA := Lib.hid (below_on HB.out (Nat.le_refl _) P1.out)
        have Ewa := Lib.hid (HE.out.below BA.out)
        have Kwa := Lib.hid ((BA.out.cell (cell_lt HL.out)).trans HL.out)
        refine wp_region_noPanic ?_
        refine wp_region_held_drew (S := fun W => W.cell? ⟨wr.heap.size, 0, none⟩ = some (.int .i64 (i : Int)) ∧ W.cell? ⟨wr.heap.size, 0 + 1, none⟩ = some (.int .i64 a) ∧ W.cell? ⟨wr.heap.size, 0 + 2, none⟩ = some (.int .i64 x)) (by kernel_rfl) (by exact P0.out) (fun hHeld => ?_)
        refine wpAnyH_take (i := 0) (oi := { dst := some 17, op := Op.move (Operand.tmp 1), type := 105, pos := "division.go:88", after := #[], guard := none }) (v := ?_) rfl (by kernel_rfl) (by kernel_rfl) (by kernel_rfl) (fun _ _ _ h => h) (Or.inl ⟨by rfl, ?_⟩) (by assumption) ?_
        rotate_left
        · intro w hSw; (try dsimp only at hSw); go_simp; all_goals (with_reducible rfl)
        (try simp only [Act.put, List.setIfInBounds_toArray, List.set_cons_zero, List.set_cons_succ])
        refine wpAnyH_take (i := 1) (oi := { dst := some 18, op := Op.load 101 (Operand.tmp 9), type := 101, pos := "division.go:88", after := #[], guard := none }) (v := ?_) rfl (by kernel_rfl) (by kernel_rfl) (by kernel_rfl) (fun _ _ _ h => h) (Or.inl ⟨by rfl, ?_⟩) (by assumption) ?_
        rotate_left
        · intro w hSw; (try dsimp only at hSw); go_simp; all_goals (with_reducible rfl)
        (try simp only [Act.put, List.setIfInBounds_toArray, List.set_cons_zero, List.set_cons_succ])
        refine wpAnyH_ready (rs := [2]) (by kernel_rfl) (by simp) ?_
        refine AllReadyH.cons (o := { dst := some 19, op := Op.call { callee := Callee.value (Operand.tmp 17), args := #[Operand.tmp 18], argTypes := #[101] }, type := 4, pos := "division.go:88", after := #[{ on := 0, ground := Ground.data }, { on := 1, ground := Ground.data }], guard := none }) rfl (fun K hK => ?_) AllReadyH.nil
        go_simp
        refine (open_dn _ (i : Int) a x).mono ?_
        rintro e0 wb ⟨rfl, hq⟩
        have hbwb : Below wa.heap.size wa wb := ⟨hq.os, hq.tape, hq.output, hq.size, hq.block⟩
        have BB := Lib.hid (below_on BA.out (Nat.le_refl _) hbwb)
        have p1 := three_below hbwb P0.out
        clear hbwb hq
        rw [decide_eq_false (show ¬ 1 < x by omega)]
        go_wp2_with fail
        refine hK.out _ _ (by exact p1) (fun hHeld => ?_)
        clear hK K
        (try simp only [Act.put, List.setIfInBounds_toArray, List.set_cons_zero, List.set_cons_succ])
        refine wpAnyH_take (i := 3) (oi := { dst := some 20, op := Op.move (Operand.tmp 19), type := 4, pos := "division.go:88", after := #[{ on := 2, ground := Ground.data }, { on := 2, ground := Ground.chain }], guard := none }) (v := ?_) rfl (by kernel_rfl) (by kernel_rfl) (by kernel_rfl) (fun _ _ _ h => h) (Or.inl ⟨by rfl, ?_⟩) (by assumption) ?_
        rotate_left
        · intro w hSw; (try dsimp only at hSw); go_simp; all_goals (with_reducible rfl)
        (try simp only [Act.put, List.setIfInBounds_toArray, List.set_cons_zero, List.set_cons_succ])
        refine wpAnyH_take (i := 4) (oi := { dst := some 21, op := Op.move (Operand.tmp 7), type := 3, pos := "division.go:88", after := #[{ on := 3, ground := Ground.guard }], guard := some (3, true) }) (v := undef) rfl (by kernel_rfl) (by kernel_rfl) (by kernel_rfl) (fun _ _ _ h => h) (Or.inr ⟨by rfl, rfl⟩) (by assumption) ?_
        (try simp only [Act.put, List.setIfInBounds_toArray, List.set_cons_zero, List.set_cons_succ])
        refine wpAnyH_take (i := 5) (oi := { dst := some 22, op := Op.binOp BinOp.lss 3 (Operand.tmp 21) (Operand.const (Value.int IntKind.i64 0)) 3, type := 4, pos := "division.go:88", after := #[{ on := 4, ground := Ground.data }, { on := 3, ground := Ground.guard }], guard := some (3, true) }) (v := undef) rfl (by kernel_rfl) (by kernel_rfl) (by kernel_rfl) (fun _ _ _ h => h) (Or.inr ⟨by rfl, rfl⟩) (by assumption) ?_
        (try simp only [Act.put, List.setIfInBounds_toArray, List.set_cons_zero, List.set_cons_succ])
        refine wpAnyH_take (i := 6) (oi := { dst := some 23, op := Op.move (Operand.tmp 22), type := 4, pos := "division.go:88", after := #[{ on := 5, ground := Ground.data }, { on := 3, ground := Ground.chain }, { on := 3, ground := Ground.guard }], guard := some (3, true) }) (v := undef) rfl (by kernel_rfl) (by kernel_rfl) (by kernel_rfl) (fun _ _ _ h => h) (Or.inr ⟨by rfl, rfl⟩) (by assumption) ?_
        (try simp only [Act.put, List.setIfInBounds_toArray, List.set_cons_zero, List.set_cons_succ])
        refine wpAnyH_take (i := 7) (oi := { dst := some 24, op := Op.move (Operand.tmp 2), type := 102, pos := "division.go:88", after := #[{ on := 6, ground := Ground.guard }], guard := some (6, false) }) (v := undef) rfl (by kernel_rfl) (by kernel_rfl) (by kernel_rfl) (fun _ _ _ h => h) (Or.inr ⟨by rfl, rfl⟩) (by assumption) ?_
        (try simp only [Act.put, List.setIfInBounds_toArray, List.set_cons_zero, List.set_cons_succ])
        refine wpAnyH_take (i := 8) (oi := { dst := some 25, op := Op.load 101 (Operand.tmp 9), type := 101, pos := "division.go:88", after := #[{ on := 6, ground := Ground.guard }], guard := some (6, false) }) (v := undef) rfl (by kernel_rfl) (by kernel_rfl) (by kernel_rfl) (fun _ _ _ h => h) (Or.inr ⟨by rfl, rfl⟩) (by assumption) ?_
        (try simp only [Act.put, List.setIfInBounds_toArray, List.set_cons_zero, List.set_cons_succ])
        refine wpAnyH_take (i := 9) (oi := { dst := some 26, op := Op.call { callee := Callee.value (Operand.tmp 24), args := #[Operand.tmp 25], argTypes := #[101] }, type := 3, pos := "division.go:88", after := #[{ on := 7, ground := Ground.data }, { on := 8, ground := Ground.data }, { on := 6, ground := Ground.chain }, { on := 6, ground := Ground.guard }], guard := some (6, false) }) (v := undef) rfl (by kernel_rfl) (by kernel_rfl) (by kernel_rfl) (fun _ _ _ h => h) (Or.inr ⟨by rfl, rfl⟩) (by assumption) ?_
        (try simp only [Act.put, List.setIfInBounds_toArray, List.set_cons_zero, List.set_cons_succ])
        refine wpAnyH_take (i := 10) (oi := { dst := some 27, op := Op.move (Operand.tmp 2), type := 102, pos := "division.go:88", after := #[{ on := 6, ground := Ground.guard }], guard := some (6, false) }) (v := undef) rfl (by kernel_rfl) (by kernel_rfl) (by kernel_rfl) (fun _ _ _ h => h) (Or.inr ⟨by rfl, rfl⟩) (by assumption) ?_
        (try simp only [Act.put, List.setIfInBounds_toArray, List.set_cons_zero, List.set_cons_succ])
        refine wpAnyH_take (i := 11) (oi := { dst := some 28, op := Op.move (Operand.tmp 0), type := 97, pos := "division.go:88", after := #[{ on := 6, ground := Ground.guard }], guard := some (6, false) }) (v := undef) rfl (by kernel_rfl) (by kernel_rfl) (by kernel_rfl) (fun _ _ _ h => h) (Or.inr ⟨by rfl, rfl⟩) (by assumption) ?_
        (try simp only [Act.put, List.setIfInBounds_toArray, List.set_cons_zero, List.set_cons_succ])
        refine wpAnyH_take (i := 12) (oi := { dst := some 29, op := Op.move (Operand.tmp 7), type := 3, pos := "division.go:88", after := #[{ on := 6, ground := Ground.guard }], guard := some (6, false) }) (v := undef) rfl (by kernel_rfl) (by kernel_rfl) (by kernel_rfl) (fun _ _ _ h => h) (Or.inr ⟨by rfl, rfl⟩) (by assumption) ?_
        (try simp only [Act.put, List.setIfInBounds_toArray, List.set_cons_zero, List.set_cons_succ])
        refine wpAnyH_take (i := 13) (oi := { dst := some 30, op := Op.indexAddr 97 (Operand.tmp 28) (Operand.tmp 29), type := 0, pos := "division.go:88", after := #[{ on := 11, ground := Ground.data }, { on := 12, ground := Ground.data }, { on := 6, ground := Ground.guard }], guard := some (6, false) }) (v := undef) rfl (by kernel_rfl) (by kernel_rfl) (by kernel_rfl) (fun _ _ _ h => h) (Or.inr ⟨by rfl, rfl⟩) (by assumption) ?_
        (try simp only [Act.put, List.setIfInBounds_toArray, List.set_cons_zero, List.set_cons_succ])
        refine wpAnyH_take (i := 14) (oi := { dst := some 31, op := Op.load 101 (Operand.tmp 30), type := 101, pos := "division.go:88", after := #[{ on := 13, ground := Ground.data }, { on := 6, ground := Ground.guard }], guard := some (6, false) }) (v := undef) rfl (by kernel_rfl) (by kernel_rfl) (by kernel_rfl) (fun _ _ _ h => h) (Or.inr ⟨by rfl, rfl⟩) (by assumption) ?_
        (try simp only [Act.put, List.setIfInBounds_toArray, List.set_cons_zero, List.set_cons_succ])
        refine wpAnyH_take (i := 15) (oi := { dst := some 32, op := Op.call { callee := Callee.value (Operand.tmp 27), args := #[Operand.tmp 31], argTypes := #[101] }, type := 3, pos := "division.go:88", after := #[{ on := 10, ground := Ground.data }, { on := 14, ground := Ground.data }, { on := 9, ground := Ground.chain }, { on := 6, ground := Ground.guard }], guard := some (6, false) }) (v := undef) rfl (by kernel_rfl) (by kernel_rfl) (by kernel_rfl) (fun _ _ _ h => h) (Or.inr ⟨by rfl, rfl⟩) (by assumption) ?_
        (try simp only [Act.put, List.setIfInBounds_toArray, List.set_cons_zero, List.set_cons_succ])
        refine wpAnyH_take (i := 16) (oi := { dst := some 33, op := Op.binOp BinOp.gtr 3 (Operand.tmp 26) (Operand.tmp 32) 3, type := 4, pos := "division.go:88", after := #[{ on := 9, ground := Ground.data }, { on := 15, ground := Ground.data }, { on := 6, ground := Ground.guard }], guard := some (6, false) }) (v := undef) rfl (by kernel_rfl) (by kernel_rfl) (by kernel_rfl) (fun _ _ _ h => h) (Or.inr ⟨by rfl, rfl⟩) (by assumption) ?_
        (try simp only [Act.put, List.setIfInBounds_toArray, List.set_cons_zero, List.set_cons_succ])
        refine wpAnyH_take (i := 17) (oi := { dst := some 34, op := Op.pick (Operand.tmp 23) (Operand.const (Value.bool true)) (Operand.tmp 33), type := 4, pos := "division.go:88", after := #[{ on := 6, ground := Ground.data }, { on := 16, ground := Ground.data }, { on := 3, ground := Ground.guard }], guard := some (3, true) }) (v := undef) rfl (by kernel_rfl) (by kernel_rfl) (by kernel_rfl) (fun _ _ _ h => h) (Or.inr ⟨by rfl, rfl⟩) (by assumption) ?_
        (try simp only [Act.put, List.setIfInBounds_toArray, List.set_cons_zero, List.set_cons_succ])
        refine wpAnyH_take (i := 18) (oi := { dst := some 35, op := Op.pick (Operand.tmp 20) (Operand.tmp 34) (Operand.const (Value.bool false)), type := 4, pos := "division.go:88", after := #[{ on := 3, ground := Ground.data }, { on := 17, ground := Ground.data }], guard := none }) (v := ?_) rfl (by kernel_rfl) (by kernel_rfl) (by kernel_rfl) (fun _ _ _ h => h) (Or.inl ⟨by rfl, ?_⟩) (by assumption) ?_
        rotate_left
        · intro w hSw; (try dsimp only at hSw); go_simp; all_goals (with_reducible rfl)
        (try simp only [Act.put, List.setIfInBounds_toArray, List.set_cons_zero, List.set_cons_succ])
        refine wpAnyH_done (by kernel_rfl) ?_ _
        refine NoPanic.normal ?_
        all_goals
          go_wp2
          exact ⟨⟨m + 1, r, by omega, by simp, rfl, HF, BB⟩, by simp [intOf]; omega⟩
    · go_wp2
      go_ret
      exact ⟨r, rfl, by rw [show n = m by omega]; exact HS.out, HB.out⟩

end Go.Proofs.YtnlhokfhkohdpaaGreat.No
