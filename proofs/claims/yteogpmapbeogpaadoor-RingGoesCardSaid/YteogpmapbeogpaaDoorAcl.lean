/-
  What the laws' helper act does where it asks for the last bytes. Conditions: those that the theorem states of the arguments.
-/
import Derived.Test.YteogpmapbeogpaaDoorMor
namespace Go.Proofs.YteogpmapbeogpaaDoor
open Go.RowKit

/-- Bytes do not lie in the block of a reference's ring. -/
theorem rd_apart {w W : World} {b : Nat} {lim : Int} {A B : Option Addr} {n c t : Nat} {T : List UInt8} (h : Cb w b lim A n c t) (hR : Rd w B T) (hk : ∀ g, g ≠ b → W.heap[g]? = w.heap[g]?) : Rd W B T := by
  intro j v hj
  obtain ⟨ad, e, hc⟩ := hR j v hj
  refine ⟨ad, e, ?_⟩
  rw [← hc]
  refine World.cell?_of_block (hk _ ?_)
  intro eb
  obtain ⟨y, rfl⟩ : ∃ y, v = byt y := by
    rw [List.getElem?_map] at hj
    cases hh : T[j]? with
    | none => rw [hh] at hj; simp at hj
    | some y => rw [hh] at hj; exact ⟨y, by simpa using hj.symm⟩
  have hb : w.heap[(ad.add j).block]? = w.heap[b]? := by rw [eb]
  have h' : w.heap[b]? = _ := h
  rw [h'] at hb
  generalize ad.add j = p at hc hb
  rcases p with ⟨pb, po, pt⟩
  simp only [World.cell?] at hc
  simp only at hb
  rw [hb] at hc
  rcases po with _ | _ | _ | po <;> cases pt <;> simp at hc

/-- What is left once the second result's block is written. -/
theorem acl_fin {w w1 w7 w9 Wc : World} {u0 u1 u2 : Value} (hb : Below w.heap.size w w1) (b7 : Below w1.heap.size w1.drew w7) (b9 : Below w7.heap.size w7 w9)
    (hW : ((w9.setCell ⟨w.heap.size + 1 + 1, 0, none⟩ u0).setCell ⟨w.heap.size + 1 + 1, 1, none⟩ u1).setCell ⟨w.heap.size + 1 + 1, 2, none⟩ u2 = Wc) : Below w.heap.size w Wc := by
  have i7 : Below w.heap.size w w7 := ⟨b7.os.trans hb.os, b7.tape.trans hb.tape, b7.output.trans hb.output, Nat.le_trans hb.size b7.size, fun k hk => (b7.block k (Nat.lt_of_lt_of_le hk hb.size)).trans (hb.block k hk)⟩
  have i9 : Below w.heap.size w w9 := below_on i7 (Nat.le_refl _) b9
  rw [← hW]
  exact ((i9.setCell (p := ⟨w.heap.size + 1 + 1, 0, none⟩) (by show _ ≤ w.heap.size + 1 + 1; omega) _).setCell (p := ⟨w.heap.size + 1 + 1, 1, none⟩) (by show _ ≤ w.heap.size + 1 + 1; omega) _).setCell (p := ⟨w.heap.size + 1 + 1, 2, none⟩) (by show _ ≤ w.heap.size + 1 + 1; omega) _

set_option maxRecDepth 100000 in
set_option maxHeartbeats 4000000 in
theorem act_last {w0 w : World} {x lim t : Nat} {v : Value} {l : List UInt8} (h : At w0 w x v lim l t) (A : Option Addr) (n c : Nat) (hn : l.length = n) (hnc : n ≤ c) (hnb : n ≤ 134217728) (hR : Rd w A l) (B : Option Addr) (M cm : Nat) (ofs nn : Int) (hnn : nn ≤ 9223372036854775807) :
    Calls Tryd.prog 16 #[.pointer (some ⟨x, 0, none⟩), rv lim A n c t, .agg #[.int .i64 5, .slice B M cm, .int .i64 ofs, .int .i64 nn]] w fun e w' => e = .returned (.tuple #[.pointer (some ⟨x, 0, none⟩), rv lim A n c t, .bool true]) ∧ Below w.heap.size w w' := by
  obtain ⟨w1, hw1⟩ : ∃ w1, ((w.alloc (.cells #[.int .i64 (lim : Int), .slice A n c, .int .i64 (t : Int)] 31)).alloc (.cells #[.int .i64 5, .slice B M cm, .int .i64 ofs, .int .i64 nn] 38)).alloc (.cells #[.int .i64 0, .slice none 0 0, .int .i64 0] 31) = w1 := ⟨_, rfl⟩
  obtain ⟨g1, z1, p1, x1, q1⟩ := act_start w lim A n c t 5 B M cm ofs nn w1 hw1
  have c0 := x1.c0
  obtain ⟨T, hT⟩ : ∃ T, lst nn l = T := ⟨_, rfl⟩
  have LA := Lib.hid (at_last (h.below g1 |>.dr 1) nn T _ hT rfl)
  have RR : Hid (Rd w1 A l) := Lib.hid (hR.below g1)
  have P1 := Lib.hid p1
  have Q1 := Lib.hid q1
  have X1 := Lib.hid x1
  have G1 := Lib.hid g1
  clear h g1 p1 x1 q1 hR
  go_enter Tryd.func16, Tryd.ntmps16
  go_wp2_with fail
  clear hw1 c0
  refine wp_region_noPanic ?_
  refine wp_region_held_drew (S := fun W => W.cell? ⟨w.heap.size, 0, none⟩ = some (.int .i64 (lim : Int)) ∧ W.cell? ⟨w.heap.size, 1, none⟩ = some (.slice A n c) ∧ W.cell? ⟨w.heap.size, 2, none⟩ = some (.int .i64 (t : Int)) ∧ W.cell? ⟨w.heap.size + 1, 3, none⟩ = some (.int .i64 nn)) (by kernel_rfl) (by exact ⟨P1.out.c0, P1.out.c1, P1.out.c2, X1.out.c3⟩) (fun hHeld => ?_)
  refine wpAnyH_take (i := 0) (oi := { dst := some 68, op := Op.move (Operand.tmp 0), type := 26, pos := "law.go:49", after := #[], guard := none }) (v := ?_) rfl (by kernel_rfl) (by kernel_rfl) (by kernel_rfl) (fun _ _ _ h => h) (Or.inl ⟨by rfl, ?_⟩) (by assumption) ?_
  rotate_left
  · intro w hSw; (try dsimp only at hSw); go_simp; all_goals (with_reducible rfl)
  (try simp only [Act.put, List.setIfInBounds_toArray, List.set_cons_zero, List.set_cons_succ])
  refine wpAnyH_take (i := 1) (oi := { dst := some 69, op := Op.load 31 (Operand.tmp 4), type := 31, pos := "law.go:49", after := #[{ on := 13, ground := Ground.gcOnly Departure.lateStores }], guard := none }) (v := ?_) rfl (by kernel_rfl) (by kernel_rfl) (by kernel_rfl) (fun _ _ _ h => h) (Or.inl ⟨by rfl, ?_⟩) (by assumption) ?_
  rotate_left
  · intro w hSw; (try dsimp only at hSw); go_simp; all_goals (with_reducible rfl)
  (try simp only [Act.put, List.setIfInBounds_toArray, List.set_cons_zero, List.set_cons_succ])
  refine wpAnyH_take (i := 2) (oi := { dst := some 70, op := Op.move (Operand.tmp 0), type := 26, pos := "law.go:49", after := #[], guard := none }) (v := ?_) rfl (by kernel_rfl) (by kernel_rfl) (by kernel_rfl) (fun _ _ _ h => h) (Or.inl ⟨by rfl, ?_⟩) (by assumption) ?_
  rotate_left
  · intro w hSw; (try dsimp only at hSw); go_simp; all_goals (with_reducible rfl)
  (try simp only [Act.put, List.setIfInBounds_toArray, List.set_cons_zero, List.set_cons_succ])
  refine wpAnyH_take (i := 3) (oi := { dst := some 71, op := Op.fieldAddr 38 (Operand.tmp 5) 3, type := 0, pos := "law.go:49", after := #[], guard := none }) (v := ?_) rfl (by kernel_rfl) (by kernel_rfl) (by kernel_rfl) (fun _ _ _ h => h) (Or.inl ⟨by rfl, ?_⟩) (by assumption) ?_
  rotate_left
  · intro w hSw; (try dsimp only at hSw); go_simp; all_goals (with_reducible rfl)
  (try simp only [Act.put, List.setIfInBounds_toArray, List.set_cons_zero, List.set_cons_succ])
  refine wpAnyH_take (i := 4) (oi := { dst := some 72, op := Op.load 3 (Operand.tmp 71), type := 3, pos := "law.go:49", after := #[{ on := 3, ground := Ground.data }], guard := none }) (v := ?_) rfl (by kernel_rfl) (by kernel_rfl) (by kernel_rfl) (fun _ _ _ h => h) (Or.inl ⟨by rfl, ?_⟩) (by assumption) ?_
  rotate_left
  · intro w hSw; (try dsimp only at hSw); go_simp; all_goals (with_reducible rfl)
  (try simp only [Act.put, List.setIfInBounds_toArray, List.set_cons_zero, List.set_cons_succ])
  refine wpAnyH_take (i := 7) (oi := { dst := some 75, op := Op.load 31 (Operand.tmp 4), type := 31, pos := "law.go:49", after := #[], guard := none }) (v := ?_) rfl (by kernel_rfl) (by kernel_rfl) (by kernel_rfl) (fun _ _ _ h => h) (Or.inl ⟨by rfl, ?_⟩) (by assumption) ?_
  rotate_left
  · intro w hSw; (try dsimp only at hSw); go_simp; all_goals (with_reducible rfl)
  (try simp only [Act.put, List.setIfInBounds_toArray, List.set_cons_zero, List.set_cons_succ])
  refine wpAnyH_take (i := 8) (oi := { dst := some 76, op := Op.fieldAddr 38 (Operand.tmp 5) 3, type := 0, pos := "law.go:49", after := #[], guard := none }) (v := ?_) rfl (by kernel_rfl) (by kernel_rfl) (by kernel_rfl) (fun _ _ _ h => h) (Or.inl ⟨by rfl, ?_⟩) (by assumption) ?_
  rotate_left
  · intro w hSw; (try dsimp only at hSw); go_simp; all_goals (with_reducible rfl)
  (try simp only [Act.put, List.setIfInBounds_toArray, List.set_cons_zero, List.set_cons_succ])
  refine wpAnyH_take (i := 9) (oi := { dst := some 77, op := Op.load 3 (Operand.tmp 76), type := 3, pos := "law.go:49", after := #[{ on := 8, ground := Ground.data }], guard := none }) (v := ?_) rfl (by kernel_rfl) (by kernel_rfl) (by kernel_rfl) (fun _ _ _ h => h) (Or.inl ⟨by rfl, ?_⟩) (by assumption) ?_
  rotate_left
  · intro w hSw; (try dsimp only at hSw); go_simp; all_goals (with_reducible rfl)
  (try simp only [Act.put, List.setIfInBounds_toArray, List.set_cons_zero, List.set_cons_succ])
  refine wpAnyH_ready (rs := [5]) (by kernel_rfl) (by simp) ?_
  refine AllReadyH.cons (o := { dst := some 73, op := Op.call { callee := Callee.value (Operand.func 25), args := #[Operand.tmp 70, Operand.tmp 72], argTypes := #[26, 3] }, type := 22, pos := "law.go:49", after := #[{ on := 2, ground := Ground.data }, { on := 4, ground := Ground.data }], guard := none }) rfl (fun K hK => ?_) AllReadyH.nil
  go_simp
  refine LA.out.mono ?_
  rintro e w7 ⟨A7, c7, rfl, _, cv7, o7, _, hb7⟩
  have hb7 : Below w1.heap.size w1.drew w7 := hb7
  have P7 := Lib.hid (P1.out.same (W' := w7) (hb7.block _ P1.out.lt))
  have Q7 := Lib.hid (Q1.out.same (W' := w7) (hb7.block _ Q1.out.lt))
  have X7 := Lib.hid (X1.out.same (w' := w7) (hb7.block _ X1.out.lt))
  have R7 : Hid (Rd w7 A l) := Lib.hid (Rv.below (w := w1.drew) (Rv.same RR.out (fun _ _ => rfl)) hb7)
  have D7 : Hid (Rd w7 A7 T) := Lib.hid (Rv.of_own o7)
  have RL := Lib.hid (rlast_any w7 lim A l n c t hn hnc hnb R7.out nn hnn)
  rw [hT] at RL
  have B7 := Lib.hid hb7
  clear hb7 o7
  go_wp2_with fail
  refine hK.out _ _ (by exact ⟨P7.out.c0, P7.out.c1, P7.out.c2, X7.out.c3⟩) (fun hHeld => ?_)
  clear hK K
  (try simp only [Act.put, List.setIfInBounds_toArray, List.set_cons_zero, List.set_cons_succ])
  refine wpAnyH_more (T := fun W => (W.cell? ⟨w.heap.size, 0, none⟩ = some (.int .i64 (lim : Int)) ∧ W.cell? ⟨w.heap.size, 1, none⟩ = some (.slice A n c) ∧ W.cell? ⟨w.heap.size, 2, none⟩ = some (.int .i64 (t : Int)) ∧ W.cell? ⟨w.heap.size + 1, 3, none⟩ = some (.int .i64 nn)) ∧ (convert 22 9 (.slice A7 T.length c7)).run Tryd.prog W = .ok (.string ⟨T.toArray⟩) W) (fun _ h => h.1) _ _ _ _ ?_
  have hHeld := And.intro hHeld cv7
  refine wpAnyH_take (i := 6) (oi := { dst := some 74, op := Op.convert 22 9 (Operand.tmp 73), type := 9, pos := "law.go:49", after := #[{ on := 5, ground := Ground.data }, { on := 14, ground := Ground.gcOnly Departure.lateStores }], guard := none }) (v := ?_) rfl (by kernel_rfl) (by kernel_rfl) (by kernel_rfl) (fun _ _ _ h => h) (Or.inl ⟨by rfl, ?_⟩) (by assumption) ?_
  rotate_left
  · intro w hSw; (try dsimp only at hSw); go_simp; all_goals (with_reducible rfl)
  (try simp only [Act.put, List.setIfInBounds_toArray, List.set_cons_zero, List.set_cons_succ])
  refine wpAnyH_ready (rs := [10]) (by kernel_rfl) (by simp) ?_
  refine AllReadyH.cons (o := { dst := some 78, op := Op.call { callee := Callee.value (Operand.func 34), args := #[Operand.tmp 75, Operand.tmp 77], argTypes := #[31, 3] }, type := 22, pos := "law.go:49", after := #[{ on := 7, ground := Ground.data }, { on := 9, ground := Ground.data }, { on := 5, ground := Ground.chain }], guard := none }) rfl (fun K hK => ?_) AllReadyH.nil
  go_simp
  refine RL.out.mono ?_
  rintro e w9 ⟨A9, n9, c9, rfl, rfl, d9, hb9⟩
  have P8 := Lib.hid (P7.out.same (W' := w9) (hb9.block _ P7.out.lt))
  have q8 := Q7.out.same (W' := w9) (hb9.block _ Q7.out.lt)
  have X8 := Lib.hid (X7.out.same (w' := w9) (hb9.block _ X7.out.lt))
  have cv8 := conv_len w9 A7 T T.length c7 rfl (D7.out.below hb9)
  have cv9 := conv_len w9 A9 T T.length c9 rfl d9
  have d0 := q8.c0
  have f0 := q8.free 0
  obtain ⟨Wa, hWa⟩ : ∃ Wa, w9.setCell ⟨w.heap.size + 1 + 1, 0, none⟩ (.int .i64 (lim : Int)) = Wa := ⟨_, rfl⟩
  have qa : Cb Wa (w.heap.size + 1 + 1) lim none 0 0 0 := by rw [← hWa]; exact q8.set0 lim
  have d1 := qa.c1
  have f1 := qa.free 1
  obtain ⟨Wb, hWb⟩ : ∃ Wb, Wa.setCell ⟨w.heap.size + 1 + 1, 1, none⟩ (.slice A n c) = Wb := ⟨_, rfl⟩
  have qb : Cb Wb (w.heap.size + 1 + 1) lim A n c 0 := by rw [← hWb]; exact qa.set1 A n c
  have d2 := qb.c2
  have f2 := qb.free 2
  obtain ⟨Wc, hWc⟩ : ∃ Wc, Wb.setCell ⟨w.heap.size + 1 + 1, 2, none⟩ (.int .i64 (t : Int)) = Wc := ⟨_, rfl⟩
  have qc : Cb Wc (w.heap.size + 1 + 1) lim A n c t := by rw [← hWc]; exact qb.set2 t
  have FN := Lib.hid (acl_fin G1.out B7.out hb9 (by rw [hWa, hWb, hWc] : ((w9.setCell ⟨w.heap.size + 1 + 1, 0, none⟩ (.int .i64 (lim : Int))).setCell ⟨w.heap.size + 1 + 1, 1, none⟩ (.slice A n c)).setCell ⟨w.heap.size + 1 + 1, 2, none⟩ (.int .i64 (t : Int)) = Wc))
  have keep : ∀ g, g ≠ w.heap.size + 1 + 1 → Wc.heap[g]? = w9.heap[g]? := fun g hg => by rw [← hWc, ← hWb, ← hWa, Below.heap_setCell _ _ _ _ hg, Below.heap_setCell _ _ _ _ hg, Below.heap_setCell _ _ _ _ hg]
  have P9 := Lib.hid (P8.out.same (keep _ (by omega)))
  have X9 := Lib.hid (X8.out.same (keep _ (by omega)))
  have Q9 := Lib.hid qc
  have CA := Lib.hid (conv_len Wc A7 T T.length c7 rfl (rd_apart q8 (D7.out.below hb9) keep))
  have CB := Lib.hid (conv_len Wc A9 T T.length c9 rfl (rd_apart q8 d9 keep))
  clear keep qa qb qc q8 hb9 d9
  go_wp2_with fail
  refine hK.out _ _ (by exact ⟨⟨P8.out.c0, P8.out.c1, P8.out.c2, X8.out.c3⟩, cv8⟩) (fun hHeld => ?_)
  clear hK K
  (try simp only [Act.put, List.setIfInBounds_toArray, List.set_cons_zero, List.set_cons_succ])
  refine wpAnyH_more (T := fun W => ((W.cell? ⟨w.heap.size, 0, none⟩ = some (.int .i64 (lim : Int)) ∧ W.cell? ⟨w.heap.size, 1, none⟩ = some (.slice A n c) ∧ W.cell? ⟨w.heap.size, 2, none⟩ = some (.int .i64 (t : Int)) ∧ W.cell? ⟨w.heap.size + 1, 3, none⟩ = some (.int .i64 nn)) ∧ (convert 22 9 (.slice A7 T.length c7)).run Tryd.prog W = .ok (.string ⟨T.toArray⟩) W) ∧ (convert 22 9 (.slice A9 T.length c9)).run Tryd.prog W = .ok (.string ⟨T.toArray⟩) W) (fun _ h => h.1) _ _ _ _ ?_
  have hHeld := And.intro hHeld cv9
  refine wpAnyH_take (i := 11) (oi := { dst := some 79, op := Op.convert 22 9 (Operand.tmp 78), type := 9, pos := "law.go:49", after := #[{ on := 10, ground := Ground.data }, { on := 14, ground := Ground.gcOnly Departure.lateStores }], guard := none }) (v := ?_) rfl (by kernel_rfl) (by kernel_rfl) (by kernel_rfl) (fun _ _ _ h => h) (Or.inl ⟨by rfl, ?_⟩) (by assumption) ?_
  rotate_left
  · intro w hSw; (try dsimp only at hSw); go_simp; all_goals (with_reducible rfl)
  (try simp only [Act.put, List.setIfInBounds_toArray, List.set_cons_zero, List.set_cons_succ])
  refine wpAnyH_take (i := 12) (oi := { dst := some 80, op := Op.binOp BinOp.eql 9 (Operand.tmp 74) (Operand.tmp 79) 9, type := 4, pos := "law.go:49", after := #[{ on := 6, ground := Ground.data }, { on := 11, ground := Ground.data }, { on := 14, ground := Ground.gcOnly Departure.lateStores }], guard := none }) (v := ?_) rfl (by kernel_rfl) (by kernel_rfl) (by kernel_rfl) (fun _ _ _ h => h) (Or.inl ⟨by rfl, ?_⟩) (by assumption) ?_
  rotate_left
  · intro w hSw; (try dsimp only at hSw); go_simp; all_goals (with_reducible rfl)
  (try simp only [Act.put, List.setIfInBounds_toArray, List.set_cons_zero, List.set_cons_succ])
  refine wpAnyH_take (i := 13) (oi := { dst := some 6, op := Op.assign (Operand.tmp 68), type := 26, pos := "law.go:49", after := #[{ on := 0, ground := Ground.data }, { on := 10, ground := Ground.chain }, { on := 0, ground := Ground.phase }, { on := 1, ground := Ground.textOnly Departure.lateStores }, { on := 2, ground := Ground.textOnly Departure.lateStores }, { on := 3, ground := Ground.textOnly Departure.lateStores }, { on := 4, ground := Ground.textOnly Departure.lateStores }, { on := 5, ground := Ground.textOnly Departure.lateStoresUnsure }, { on := 6, ground := Ground.textOnly Departure.lateStores }, { on := 7, ground := Ground.textOnly Departure.lateStores }, { on := 8, ground := Ground.textOnly Departure.lateStores }, { on := 9, ground := Ground.textOnly Departure.lateStores }, { on := 10, ground := Ground.textOnly Departure.lateStoresUnsure }, { on := 11, ground := Ground.textOnly Departure.lateStores }, { on := 12, ground := Ground.textOnly Departure.lateStores }], guard := none }) (v := ?_) rfl (by kernel_rfl) (by kernel_rfl) (by kernel_rfl) (fun _ _ _ h => h) (Or.inl ⟨by rfl, ?_⟩) (by assumption) ?_
  rotate_left
  · intro w hSw; (try dsimp only at hSw); go_simp; all_goals (with_reducible rfl)
  (try simp only [Act.put, List.setIfInBounds_toArray, List.set_cons_zero, List.set_cons_succ])
  refine wpAnyH_ready (rs := [14]) (by kernel_rfl) (by simp) ?_
  refine AllReadyH.cons (o := { dst := none, op := Op.store 31 (Operand.tmp 7) (Operand.tmp 69), type := 0, pos := "law.go:49", after := #[{ on := 1, ground := Ground.data }, { on := 13, ground := Ground.chain }, { on := 0, ground := Ground.phase }, { on := 1, ground := Ground.phase }, { on := 2, ground := Ground.textOnly Departure.lateStores }, { on := 3, ground := Ground.textOnly Departure.lateStores }, { on := 4, ground := Ground.textOnly Departure.lateStores }, { on := 5, ground := Ground.textOnly Departure.lateStoresUnsure }, { on := 6, ground := Ground.textOnly Departure.lateStores }, { on := 7, ground := Ground.textOnly Departure.lateStores }, { on := 8, ground := Ground.textOnly Departure.lateStores }, { on := 9, ground := Ground.textOnly Departure.lateStores }, { on := 10, ground := Ground.textOnly Departure.lateStoresUnsure }, { on := 11, ground := Ground.textOnly Departure.lateStores }, { on := 12, ground := Ground.textOnly Departure.lateStores }, { on := 13, ground := Ground.phase }], guard := none }) rfl (fun K hK => ?_) AllReadyH.nil
  go_simp
  refine hK.out _ _ (by exact ⟨⟨⟨P9.out.c0, P9.out.c1, P9.out.c2, X9.out.c3⟩, CA.out⟩, CB.out⟩) (fun hHeld => ?_)
  clear hK K
  (try simp only [Act.put, List.setIfInBounds_toArray, List.set_cons_zero, List.set_cons_succ])
  refine wpAnyH_take (i := 15) (oi := { dst := some 8, op := Op.assign (Operand.tmp 80), type := 4, pos := "law.go:49", after := #[{ on := 12, ground := Ground.data }, { on := 14, ground := Ground.chain }, { on := 0, ground := Ground.phase }, { on := 1, ground := Ground.phase }, { on := 2, ground := Ground.phase }, { on := 3, ground := Ground.phase }, { on := 4, ground := Ground.phase }, { on := 5, ground := Ground.phase }, { on := 6, ground := Ground.phase }, { on := 7, ground := Ground.phase }, { on := 8, ground := Ground.phase }, { on := 9, ground := Ground.phase }, { on := 10, ground := Ground.phase }, { on := 11, ground := Ground.phase }, { on := 12, ground := Ground.phase }, { on := 13, ground := Ground.phase }, { on := 14, ground := Ground.phase }], guard := none }) (v := ?_) rfl (by kernel_rfl) (by kernel_rfl) (by kernel_rfl) (fun _ _ _ h => h) (Or.inl ⟨by rfl, ?_⟩) (by assumption) ?_
  rotate_left
  · intro w hSw; (try dsimp only at hSw); go_simp; all_goals (with_reducible rfl)
  (try simp only [Act.put, List.setIfInBounds_toArray, List.set_cons_zero, List.set_cons_succ])
  refine wpAnyH_done (by kernel_rfl) ?_ _
  refine NoPanic.normal ?_
  go_wp2
  refine bodyPost_ret (results_tct rfl rfl Q9.out.load) (by simp) ?_
  exact ⟨by simp, FN.out⟩
end Go.Proofs.YteogpmapbeogpaaDoor
