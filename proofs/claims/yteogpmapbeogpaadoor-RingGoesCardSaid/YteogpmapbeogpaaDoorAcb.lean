/-
  What the laws' helper act does where a copy is refused. Conditions: those that the theorem states of the arguments.
-/
import Derived.Test.YteogpmapbeogpaaDoorAcc
namespace Go.Proofs.YteogpmapbeogpaaDoor
open Go.RowKit

/-- What is left once the second result's block is written. -/
theorem acb_fin {w w1 w7 w8 w9 Wc : World} {u0 u1 u2 : Value} (hb : Below w.heap.size w w1) (b7 : Below w1.heap.size w1 w7) (b8 : Below w7.heap.size w7 w8) (b9 : Below w8.heap.size w8 w9)
    (hW : ((w9.drew.setCell ⟨w.heap.size + 1 + 1, 0, none⟩ u0).setCell ⟨w.heap.size + 1 + 1, 1, none⟩ u1).setCell ⟨w.heap.size + 1 + 1, 2, none⟩ u2 = Wc) : Below w.heap.size w Wc := by
  have i9 : Below w.heap.size w w9.drew := below_on (below_on (below_on hb (Nat.le_refl _) b7) (Nat.le_refl _) b8) (Nat.le_refl _) (below_drewN' b9 1)
  rw [← hW]
  exact ((i9.setCell (p := ⟨w.heap.size + 1 + 1, 0, none⟩) (by show _ ≤ w.heap.size + 1 + 1; omega) _).setCell (p := ⟨w.heap.size + 1 + 1, 1, none⟩) (by show _ ≤ w.heap.size + 1 + 1; omega) _).setCell (p := ⟨w.heap.size + 1 + 1, 2, none⟩) (by show _ ≤ w.heap.size + 1 + 1; omega) _

set_option maxRecDepth 100000 in
set_option maxHeartbeats 4000000 in
theorem act_cbad {w0 w : World} {x lim t : Nat} {v : Value} {l : List UInt8} (h : At w0 w x v lim l t) (A : Option Addr) (n c : Nat) (hn : l.length = n) (wh : Int) (hwh : wh = 3 ∨ wh = 4) (B : Option Addr) (M cm : Nat) (d k R : Int) (hO : obj n d k = R) (hR0 : R ≠ 0) :
    Calls Tryd.prog 16 #[.pointer (some ⟨x, 0, none⟩), rv lim A n c t, .agg #[.int .i64 wh, .slice B M cm, .int .i64 d, .int .i64 k]] w fun e w' => e = .returned (.tuple #[.pointer (some ⟨x, 0, none⟩), rv lim A n c t, .bool true]) ∧ Below w.heap.size w w' := by
  obtain ⟨w1, hw1⟩ : ∃ w1, ((w.alloc (.cells #[.int .i64 (lim : Int), .slice A n c, .int .i64 (t : Int)] 31)).alloc (.cells #[.int .i64 wh, .slice B M cm, .int .i64 d, .int .i64 k] 38)).alloc (.cells #[.int .i64 0, .slice none 0 0, .int .i64 0] 31) = w1 := ⟨_, rfl⟩
  obtain ⟨g1, z1, p1, x1, q1⟩ := act_start w lim A n c t wh B M cm d k w1 hw1
  have c0 := x1.c0
  have c2 := x1.c2
  have c3 := x1.c3
  have r0 := p1.c0
  have r1 := p1.c1
  have r2 := p1.c2
  have RC := Lib.hid (rcopy_bad w1 lim A n c t d k R hO hR0)
  have PC : Hid (∀ W, At w0 W x v lim l t → Calls Tryd.prog 26 #[.pointer (some ⟨x, 0, none⟩), .int .i64 d, .int .i64 k] W fun e w' => e = .returned (.tuple #[.slice none 0 0, .int .i64 R]) ∧ At w0 w' x v lim l t ∧ Below W.heap.size W w') := Lib.hid (fun W hW => at_bad hW d k R (by rw [hn]; exact hO) hR0)
  have HA := Lib.hid h
  have P1 := Lib.hid p1
  have Q1 := Lib.hid q1
  have X1 := Lib.hid x1
  have G1 := Lib.hid g1
  clear h g1 p1 x1 q1 hn hO hR0
  rcases hwh with rfl | rfl
  all_goals
    go_enter Tryd.func16, Tryd.ntmps16
    go_wp2_with (first
      | (go_at_call 33; refine RC.out.mono ?_; rintro e w7 ⟨rfl, hb7⟩; obtain ⟨w8, hw8⟩ : ∃ w8, w7.alloc (.cells #[.int .i64 (lim : Int), .slice A n c, .int .i64 (t : Int)] 31) = w8 := ⟨_, rfl⟩; have b8 : Below w7.heap.size w7 w8 := (by rw [← hw8]; exact lit_bel w7 _); have i8 := below_on hb7 (Nat.le_refl _) b8; have o8 : Cb w8 w7.heap.size lim A n c t := (by rw [← hw8]; exact Cb.new w7 lim A n c t); have x8 := X1.out.same (w' := w8) (i8.block _ X1.out.lt); have q8 := Q1.out.same (W' := w8) (i8.block _ Q1.out.lt); have s2 := x8.c2; have s3 := x8.c3; have Q8 := Lib.hid q8; have O8 := Lib.hid o8; have A8 := Lib.hid ((HA.out.below G1.out).below i8); have B7 := Lib.hid hb7; have B8 := Lib.hid b8; have S7 := Lib.hid hb7.size; clear hb7 x8 q8 o8 i8 b8)
      | (go_at_call 26; refine (PC.out w8 A8.out).mono ?_; rintro e w9 ⟨rfl, h9, hg9⟩))
    have o9 := O8.out.same (W' := w9) (hg9.block _ O8.out.lt)
    have q9 := Q8.out.same (W' := w9) (hg9.block _ Q8.out.lt)
    have d0 : w9.drew.cell? ⟨w.heap.size + 1 + 1, 0, none⟩ = some (.int .i64 ((0 : Nat) : Int)) := q9.c0
    have f0 : w9.drew.frozen? ⟨w.heap.size + 1 + 1, 0, none⟩ = false := q9.free 0
    have qz : Cb w9.drew (w.heap.size + 1 + 1) 0 none 0 0 0 := q9
    obtain ⟨Wa, hWa⟩ : ∃ Wa, w9.drew.setCell ⟨w.heap.size + 1 + 1, 0, none⟩ (.int .i64 (lim : Int)) = Wa := ⟨_, rfl⟩
    have qa : Cb Wa (w.heap.size + 1 + 1) lim none 0 0 0 := by rw [← hWa]; exact qz.set0 lim
    have d1 := qa.c1
    have f1 := qa.free 1
    obtain ⟨Wb, hWb⟩ : ∃ Wb, Wa.setCell ⟨w.heap.size + 1 + 1, 1, none⟩ (.slice A n c) = Wb := ⟨_, rfl⟩
    have qb : Cb Wb (w.heap.size + 1 + 1) lim A n c 0 := by rw [← hWb]; exact qa.set1 A n c
    have d2 := qb.c2
    have f2 := qb.free 2
    obtain ⟨Wc, hWc⟩ : ∃ Wc, Wb.setCell ⟨w.heap.size + 1 + 1, 2, none⟩ (.int .i64 (t : Int)) = Wc := ⟨_, rfl⟩
    have qc : Cb Wc (w.heap.size + 1 + 1) lim A n c t := by rw [← hWc]; exact qb.set2 t
    have keep : ∀ g, g ≠ w.heap.size + 1 + 1 → Wc.heap[g]? = w9.heap[g]? := fun g hg => by
      rw [← hWc, ← hWb, ← hWa, Below.heap_setCell _ _ _ _ hg, Below.heap_setCell _ _ _ _ hg, Below.heap_setCell _ _ _ _ hg]
      rfl
    have FN := Lib.hid (acb_fin G1.out B7.out B8.out hg9 (by rw [hWa, hWb, hWc] : ((w9.drew.setCell ⟨w.heap.size + 1 + 1, 0, none⟩ (.int .i64 (lim : Int))).setCell ⟨w.heap.size + 1 + 1, 1, none⟩ (.slice A n c)).setCell ⟨w.heap.size + 1 + 1, 2, none⟩ (.int .i64 (t : Int)) = Wc))
    have O9 : Hid (Cb w9.drew w7.heap.size lim A n c t) := Lib.hid o9
    have OC := Lib.hid (o9.same (keep _ (by have := S7.out; omega)))
    have QC := Lib.hid qc
    have CE : Hid (∀ W : World, (convert 22 9 (.slice none 0 0)).run Tryd.prog W = .ok (.string ⟨([] : List UInt8).toArray⟩) W) := Lib.hid (fun W => conv_len W none [] 0 0 rfl (Rv.nil _ _))
    clear keep qa qb qc q9 o9 qz h9 hg9 c2 c3 r0 r1 r2 s2 s3
    refine wp_region_noPanic ?_
    refine wp_region_held_drew (S := fun W => (W.cell? ⟨w7.heap.size, 0, none⟩ = some (.int .i64 (lim : Int)) ∧ W.cell? ⟨w7.heap.size, 1, none⟩ = some (.slice A n c) ∧ W.cell? ⟨w7.heap.size, 2, none⟩ = some (.int .i64 (t : Int))) ∧ (convert 22 9 (.slice none 0 0)).run Tryd.prog W = .ok (.string ⟨([] : List UInt8).toArray⟩) W) (by kernel_rfl) (by exact ⟨⟨O9.out.c0, O9.out.c1, O9.out.c2⟩, CE.out _⟩) (fun hHeld => ?_)
    refine wpAnyH_take (i := 0) (oi := { dst := some 53, op := Op.move (Operand.tmp 0), type := 26, pos := "law.go:47", after := #[], guard := none }) (v := ?_) rfl (by kernel_rfl) (by kernel_rfl) (by kernel_rfl) (fun _ _ _ h => h) (Or.inl ⟨by rfl, ?_⟩) (by assumption) ?_
    rotate_left
    · intro w hSw; (try dsimp only at hSw); go_simp; all_goals (with_reducible rfl)
    (try simp only [Act.put, List.setIfInBounds_toArray, List.set_cons_zero, List.set_cons_succ])
    refine wpAnyH_take (i := 1) (oi := { dst := some 54, op := Op.load 31 (Operand.tmp 9), type := 31, pos := "law.go:47", after := #[{ on := 13, ground := Ground.gcOnly Departure.lateStores }], guard := none }) (v := ?_) rfl (by kernel_rfl) (by kernel_rfl) (by kernel_rfl) (fun _ _ _ h => h) (Or.inl ⟨by rfl, ?_⟩) (by assumption) ?_
    rotate_left
    · intro w hSw; (try dsimp only at hSw); go_simp; all_goals (with_reducible rfl)
    (try simp only [Act.put, List.setIfInBounds_toArray, List.set_cons_zero, List.set_cons_succ])
    refine wpAnyH_take (i := 2) (oi := { dst := some 55, op := Op.move (Operand.tmp 12), type := 22, pos := "law.go:47", after := #[], guard := none }) (v := ?_) rfl (by kernel_rfl) (by kernel_rfl) (by kernel_rfl) (fun _ _ _ h => h) (Or.inl ⟨by rfl, ?_⟩) (by assumption) ?_
    rotate_left
    · intro w hSw; (try dsimp only at hSw); go_simp; all_goals (with_reducible rfl)
    (try simp only [Act.put, List.setIfInBounds_toArray, List.set_cons_zero, List.set_cons_succ])
    refine wpAnyH_take (i := 3) (oi := { dst := some 56, op := Op.convert 22 9 (Operand.tmp 55), type := 9, pos := "law.go:47", after := #[{ on := 2, ground := Ground.data }], guard := none }) (v := ?_) rfl (by kernel_rfl) (by kernel_rfl) (by kernel_rfl) (fun _ _ _ h => h) (Or.inl ⟨by rfl, ?_⟩) (by assumption) ?_
    rotate_left
    · intro w hSw; (try dsimp only at hSw); go_simp; all_goals (with_reducible rfl)
    (try simp only [Act.put, List.setIfInBounds_toArray, List.set_cons_zero, List.set_cons_succ])
    refine wpAnyH_take (i := 4) (oi := { dst := some 57, op := Op.move (Operand.tmp 10), type := 22, pos := "law.go:47", after := #[], guard := none }) (v := ?_) rfl (by kernel_rfl) (by kernel_rfl) (by kernel_rfl) (fun _ _ _ h => h) (Or.inl ⟨by rfl, ?_⟩) (by assumption) ?_
    rotate_left
    · intro w hSw; (try dsimp only at hSw); go_simp; all_goals (with_reducible rfl)
    (try simp only [Act.put, List.setIfInBounds_toArray, List.set_cons_zero, List.set_cons_succ])
    refine wpAnyH_take (i := 5) (oi := { dst := some 58, op := Op.convert 22 9 (Operand.tmp 57), type := 9, pos := "law.go:47", after := #[{ on := 4, ground := Ground.data }], guard := none }) (v := ?_) rfl (by kernel_rfl) (by kernel_rfl) (by kernel_rfl) (fun _ _ _ h => h) (Or.inl ⟨by rfl, ?_⟩) (by assumption) ?_
    rotate_left
    · intro w hSw; (try dsimp only at hSw); go_simp; all_goals (with_reducible rfl)
    (try simp only [Act.put, List.setIfInBounds_toArray, List.set_cons_zero, List.set_cons_succ])
    refine wpAnyH_take (i := 6) (oi := { dst := some 59, op := Op.binOp BinOp.eql 9 (Operand.tmp 56) (Operand.tmp 58) 9, type := 4, pos := "law.go:47", after := #[{ on := 3, ground := Ground.data }, { on := 5, ground := Ground.data }], guard := none }) (v := ?_) rfl (by kernel_rfl) (by kernel_rfl) (by kernel_rfl) (fun _ _ _ h => h) (Or.inl ⟨by rfl, ?_⟩) (by assumption) ?_
    rotate_left
    · intro w hSw; (try dsimp only at hSw); go_simp; all_goals (with_reducible rfl)
    (try simp only [Act.put, List.setIfInBounds_toArray, List.set_cons_zero, List.set_cons_succ])
    refine wpAnyH_take (i := 7) (oi := { dst := some 60, op := Op.move (Operand.tmp 59), type := 4, pos := "law.go:47", after := #[{ on := 6, ground := Ground.data }], guard := none }) (v := ?_) rfl (by kernel_rfl) (by kernel_rfl) (by kernel_rfl) (fun _ _ _ h => h) (Or.inl ⟨by rfl, ?_⟩) (by assumption) ?_
    rotate_left
    · intro w hSw; (try dsimp only at hSw); go_simp; all_goals (with_reducible rfl)
    (try simp only [Act.put, List.setIfInBounds_toArray, List.set_cons_zero, List.set_cons_succ])
    (try simp only [beq_self_eq_true])
    refine wpAnyH_take (i := 8) (oi := { dst := some 61, op := Op.move (Operand.tmp 13), type := 27, pos := "law.go:47", after := #[{ on := 7, ground := Ground.guard }], guard := some (7, true) }) (v := ?_) rfl (by kernel_rfl) (by kernel_rfl) (by kernel_rfl) (fun _ _ _ h => h) (Or.inl ⟨by rfl, ?_⟩) (by assumption) ?_
    rotate_left
    · intro w hSw; (try dsimp only at hSw); go_simp; all_goals (with_reducible rfl)
    (try simp only [Act.put, List.setIfInBounds_toArray, List.set_cons_zero, List.set_cons_succ])
    refine wpAnyH_take (i := 10) (oi := { dst := some 63, op := Op.move (Operand.tmp 11), type := 3, pos := "law.go:47", after := #[{ on := 7, ground := Ground.guard }, { on := 14, ground := Ground.gcOnly Departure.lateStores }], guard := some (7, true) }) (v := ?_) rfl (by kernel_rfl) (by kernel_rfl) (by kernel_rfl) (fun _ _ _ h => h) (Or.inl ⟨by rfl, ?_⟩) (by assumption) ?_
    rotate_left
    · intro w hSw; (try dsimp only at hSw); go_simp; all_goals (with_reducible rfl)
    (try simp only [Act.put, List.setIfInBounds_toArray, List.set_cons_zero, List.set_cons_succ])
    refine wpAnyH_ready (rs := [9]) (by kernel_rfl) (by simp) ?_
    refine AllReadyH.cons (o := { dst := some 62, op := Op.call { callee := Callee.value (Operand.func 15), args := #[Operand.tmp 61], argTypes := #[27] }, type := 3, pos := "law.go:47", after := #[{ on := 8, ground := Ground.data }, { on := 7, ground := Ground.chain }, { on := 7, ground := Ground.guard }], guard := some (7, true) }) rfl (fun K hK => ?_) AllReadyH.nil
    go_simp
    refine (num_any _ _).mono ?_
    rintro e w9 ⟨rfl, rfl⟩
    go_wp2_with fail
    refine hK.out _ _ (by exact ⟨⟨O9.out.c0, O9.out.c1, O9.out.c2⟩, CE.out _⟩) (fun hHeld => ?_)
    clear hK K
    (try simp only [Act.put, List.setIfInBounds_toArray, List.set_cons_zero, List.set_cons_succ])
    refine wpAnyH_take (i := 11) (oi := { dst := some 64, op := Op.binOp BinOp.eql 3 (Operand.tmp 62) (Operand.tmp 63) 3, type := 4, pos := "law.go:47", after := #[{ on := 9, ground := Ground.data }, { on := 10, ground := Ground.data }, { on := 7, ground := Ground.guard }, { on := 14, ground := Ground.gcOnly Departure.lateStores }], guard := some (7, true) }) (v := ?_) rfl (by kernel_rfl) (by kernel_rfl) (by kernel_rfl) (fun _ _ _ h => h) (Or.inl ⟨by rfl, ?_⟩) (by assumption) ?_
    rotate_left
    · intro w hSw; (try dsimp only at hSw); go_simp; all_goals (with_reducible rfl)
    (try simp only [Act.put, List.setIfInBounds_toArray, List.set_cons_zero, List.set_cons_succ])
    refine wpAnyH_take (i := 12) (oi := { dst := some 65, op := Op.pick (Operand.tmp 60) (Operand.tmp 64) (Operand.const (Value.bool false)), type := 4, pos := "law.go:47", after := #[{ on := 7, ground := Ground.data }, { on := 11, ground := Ground.data }, { on := 14, ground := Ground.gcOnly Departure.lateStores }], guard := none }) (v := ?_) rfl (by kernel_rfl) (by kernel_rfl) (by kernel_rfl) (fun _ _ _ h => h) (Or.inl ⟨by rfl, ?_⟩) (by assumption) ?_
    rotate_left
    · intro w hSw; (try dsimp only at hSw); go_simp; all_goals (with_reducible rfl)
    (try simp only [Act.put, List.setIfInBounds_toArray, List.set_cons_zero, List.set_cons_succ])
    refine wpAnyH_take (i := 13) (oi := { dst := some 6, op := Op.assign (Operand.tmp 53), type := 26, pos := "law.go:47", after := #[{ on := 0, ground := Ground.data }, { on := 9, ground := Ground.chain }, { on := 0, ground := Ground.phase }, { on := 1, ground := Ground.textOnly Departure.lateStores }, { on := 2, ground := Ground.textOnly Departure.lateStores }, { on := 3, ground := Ground.textOnly Departure.lateStores }, { on := 4, ground := Ground.textOnly Departure.lateStores }, { on := 5, ground := Ground.textOnly Departure.lateStores }, { on := 6, ground := Ground.textOnly Departure.lateStores }, { on := 7, ground := Ground.textOnly Departure.lateStores }, { on := 8, ground := Ground.textOnly Departure.lateStores }, { on := 9, ground := Ground.textOnly Departure.lateStoresUnsure }, { on := 10, ground := Ground.textOnly Departure.lateStores }, { on := 11, ground := Ground.textOnly Departure.lateStores }, { on := 12, ground := Ground.textOnly Departure.lateStores }], guard := none }) (v := ?_) rfl (by kernel_rfl) (by kernel_rfl) (by kernel_rfl) (fun _ _ _ h => h) (Or.inl ⟨by rfl, ?_⟩) (by assumption) ?_
    rotate_left
    · intro w hSw; (try dsimp only at hSw); go_simp; all_goals (with_reducible rfl)
    (try simp only [Act.put, List.setIfInBounds_toArray, List.set_cons_zero, List.set_cons_succ])
    refine wpAnyH_ready (rs := [14]) (by kernel_rfl) (by simp) ?_
    refine AllReadyH.cons (o := { dst := none, op := Op.store 31 (Operand.tmp 7) (Operand.tmp 54), type := 0, pos := "law.go:47", after := #[{ on := 1, ground := Ground.data }, { on := 13, ground := Ground.chain }, { on := 0, ground := Ground.phase }, { on := 1, ground := Ground.phase }, { on := 2, ground := Ground.textOnly Departure.lateStores }, { on := 3, ground := Ground.textOnly Departure.lateStores }, { on := 4, ground := Ground.textOnly Departure.lateStores }, { on := 5, ground := Ground.textOnly Departure.lateStores }, { on := 6, ground := Ground.textOnly Departure.lateStores }, { on := 7, ground := Ground.textOnly Departure.lateStores }, { on := 8, ground := Ground.textOnly Departure.lateStores }, { on := 9, ground := Ground.textOnly Departure.lateStoresUnsure }, { on := 10, ground := Ground.textOnly Departure.lateStores }, { on := 11, ground := Ground.textOnly Departure.lateStores }, { on := 12, ground := Ground.textOnly Departure.lateStores }, { on := 13, ground := Ground.phase }], guard := none }) rfl (fun K hK => ?_) AllReadyH.nil
    go_simp
    refine hK.out _ _ (by exact ⟨⟨OC.out.c0, OC.out.c1, OC.out.c2⟩, CE.out _⟩) (fun hHeld => ?_)
    clear hK K
    (try simp only [Act.put, List.setIfInBounds_toArray, List.set_cons_zero, List.set_cons_succ])
    refine wpAnyH_take (i := 15) (oi := { dst := some 8, op := Op.assign (Operand.tmp 65), type := 4, pos := "law.go:47", after := #[{ on := 12, ground := Ground.data }, { on := 14, ground := Ground.chain }, { on := 0, ground := Ground.phase }, { on := 1, ground := Ground.phase }, { on := 2, ground := Ground.phase }, { on := 3, ground := Ground.phase }, { on := 4, ground := Ground.phase }, { on := 5, ground := Ground.phase }, { on := 6, ground := Ground.phase }, { on := 7, ground := Ground.phase }, { on := 8, ground := Ground.phase }, { on := 9, ground := Ground.phase }, { on := 10, ground := Ground.phase }, { on := 11, ground := Ground.phase }, { on := 12, ground := Ground.phase }, { on := 13, ground := Ground.phase }, { on := 14, ground := Ground.phase }], guard := none }) (v := ?_) rfl (by kernel_rfl) (by kernel_rfl) (by kernel_rfl) (fun _ _ _ h => h) (Or.inl ⟨by rfl, ?_⟩) (by assumption) ?_
    rotate_left
    · intro w hSw; (try dsimp only at hSw); go_simp; all_goals (with_reducible rfl)
    (try simp only [Act.put, List.setIfInBounds_toArray, List.set_cons_zero, List.set_cons_succ])
    refine wpAnyH_done (by kernel_rfl) ?_ _
    refine NoPanic.normal ?_
    go_wp2
    refine bodyPost_ret (results_tct rfl rfl QC.out.load) (by simp) ?_
    exact ⟨by simp, FN.out⟩
end Go.Proofs.YteogpmapbeogpaaDoor
