/-
  What the laws' helper act does where it adds. Conditions: those that the theorem states of the arguments.
-/
import Derived.Test.YteogpmapbeogpaaDoorAct
namespace Go.Proofs.YteogpmapbeogpaaDoor
open Go.RowKit

/-- What is left once the second result's block is written over the added bytes. -/
theorem acd_fin {w0 w w1 w7 w8 Wc : World} {x lim t T : Nat} {v v' : Value} {l L : List UInt8} {A' : Option Addr} {n' c' : Nat} {u0 u1 u2 : Value} (h : At w0 w x v lim l t) (hb : Below w.heap.size w w1) (hs : w1.heap.size = w.heap.size + 3) (hp7 : RfPost w1.drew L A' n' c' w7) (h8 : Rg w8 x v' lim L T) (c8 : Chg (Fp x v) w7 w8) (n8 : New w7 v v')
    (hW : ((w8.setCell ⟨w.heap.size + 1 + 1, 0, none⟩ u0).setCell ⟨w.heap.size + 1 + 1, 1, none⟩ u1).setCell ⟨w.heap.size + 1 + 1, 2, none⟩ u2 = Wc) :
    At w0 Wc x v' lim L T ∧ L.length = n' ∧ n' ≤ c' ∧ Rd Wc A' L ∧ (∀ ad, A' = some ad → w.heap.size ≤ ad.block) ∧ Chg (Fp x v) w Wc ∧ New w v v' ∧ Out A' L (Fp x v') := by
  obtain ⟨a1, a2, a3, h4, h5⟩ := hp7
  have hz : w1.drew.heap.size = w1.heap.size := rfl
  rw [hz] at h4 h5
  have sz := h4.size
  have b7 : Below w.heap.size w w7 := ⟨h4.os.trans hb.os, h4.tape.trans hb.tape, h4.output.trans hb.output, Nat.le_trans hb.size h4.size, fun k hk => (h4.block k (Nat.lt_of_lt_of_le hk hb.size)).trans (hb.block k hk)⟩
  have c7 : Chg (Fp x v) w w8 := (Chg.of_below b7).trans c8
  have n7 : New w v v' := fun k hk => (n8 k hk).imp id (fun e => Nat.le_trans b7.size e)
  have keep : ∀ g, g ≠ w.heap.size + 1 + 1 → Wc.heap[g]? = w8.heap[g]? := fun g hg => by
    rw [← hW, Below.heap_setCell _ _ _ _ hg, Below.heap_setCell _ _ _ _ hg, Below.heap_setCell _ _ _ _ hg]
  have fpn : ∀ k, Fp x v' k → k ≠ w.heap.size + 1 + 1 := fun k hk => by
    rcases hk with hk | hk
    · have := h.rg.fp_lt (.inl hk)
      omega
    · rcases n8 k hk with e | e
      · have := h.rg.fp_lt (.inr e)
        omega
      · omega
  have hC : Chg (Fp x v) w Wc := by
    refine ⟨?_, ?_, ?_, ?_, fun k hk hn => (keep k (by omega)).trans (c7.block k hk hn)⟩
    · rw [← hW]; exact c7.os
    · rw [← hW]; exact c7.tape
    · rw [← hW]; exact c7.output
    · rw [← hW]; simpa [World.setCell] using c7.size
  refine ⟨h.chg (h8.same (fun k hk => keep k (fpn k hk))) hC n7, a1, a2, ?_, fun ad e => by have := h5 ad e; omega, hC, n7, ?_⟩
  rotate_left
  · intro hm ad e hf
    have i1 := h5 ad e
    have i3 := rd_lt a3 hm ad e
    rcases hf with hf | hf
    · have := h.rg.fp_lt (.inl hf)
      omega
    · rcases n8 _ hf with e8 | e8
      · have := h.rg.fp_lt (.inr e8)
        omega
      · omega
  refine Rv.same (rd_chg a3 c8 (fun _ ad e hf => ?_)) (fun ad e => keep _ (by have := h5 ad e; omega))
  have i1 := h5 ad e
  have i2 := h.rg.fp_lt hf
  omega

set_option maxRecDepth 100000 in
set_option maxHeartbeats 4000000 in
theorem act_add {w0 w : World} {x lim t : Nat} {v : Value} {l : List UInt8} (h : At w0 w x v lim l t) (A : Option Addr) (n c : Nat) (hn : l.length = n) (hnb : n ≤ 134217728) (hR : Rd w A l) (wh : Int) (hwh : 0 ≤ wh ∧ wh ≤ 2) (B : Option Addr) (m : List UInt8) (M cm : Nat) (hM : m.length = M) (hMc : M ≤ cm) (hMb : M ≤ 134217728) (ht : t ≤ 1099511627776) (hB : Rd w B m) (hO : Out B m (Fp x v)) (ofs nn : Int) :
    Calls Tryd.prog 16 #[.pointer (some ⟨x, 0, none⟩), rv lim A n c t, .agg #[.int .i64 wh, .slice B M cm, .int .i64 ofs, .int .i64 nn]] w fun e w' => ∃ v' A' n' c', e = .returned (.tuple #[.pointer (some ⟨x, 0, none⟩), rv lim A' n' c' (t + M : Nat), .bool true]) ∧
      At w0 w' x v' lim (fin lim (l ++ m)) (t + M) ∧ (fin lim (l ++ m)).length = n' ∧ n' ≤ c' ∧ Rd w' A' (fin lim (l ++ m)) ∧ (∀ ad, A' = some ad → w.heap.size ≤ ad.block) ∧ Chg (Fp x v) w w' ∧ New w v v' ∧ Out A' (fin lim (l ++ m)) (Fp x v') := by
  obtain ⟨w1, hw1⟩ : ∃ w1, ((w.alloc (.cells #[.int .i64 (lim : Int), .slice A n c, .int .i64 (t : Int)] 31)).alloc (.cells #[.int .i64 wh, .slice B M cm, .int .i64 ofs, .int .i64 nn] 38)).alloc (.cells #[.int .i64 0, .slice none 0 0, .int .i64 0] 31) = w1 := ⟨_, rfl⟩
  obtain ⟨g1, z1, p1, x1, q1⟩ := act_start w lim A n c t wh B M cm ofs nn w1 hw1
  have c0 := x1.c0
  have RA := Lib.hid (radd_any w1.drew lim t A l n c hn hnb (Rv.same (hR.below g1) (fun _ _ => rfl)) B m M cm hM hMb ht (Rv.same (hB.below g1) (fun _ _ => rfl)))
  have HA := Lib.hid h
  have HB := Lib.hid hB
  have HO := Lib.hid hO
  have P1 := Lib.hid p1
  have Q1 := Lib.hid q1
  have X1 := Lib.hid x1
  have G1 := Lib.hid g1
  clear h hB hO g1 p1 x1 q1 hR
  rcases (by omega : wh = 0 ∨ wh = 1 ∨ wh = 2) with rfl | rfl | rfl
  all_goals
    go_enter Tryd.func16, Tryd.ntmps16
    go_wp2_with fail
    clear hw1 c0
    refine wp_region_noPanic ?_
    refine wp_region_held_drew (S := fun W => W.cell? ⟨w.heap.size, 0, none⟩ = some (.int .i64 (lim : Int)) ∧ W.cell? ⟨w.heap.size, 1, none⟩ = some (.slice A n c) ∧ W.cell? ⟨w.heap.size, 2, none⟩ = some (.int .i64 (t : Int)) ∧ W.cell? ⟨w.heap.size + 1, 1, none⟩ = some (.slice B M cm)) (by kernel_rfl) (by exact ⟨P1.out.c0, P1.out.c1, P1.out.c2, X1.out.c1⟩) (fun hHeld => ?_)
    refine wpAnyH_take (i := 0) (oi := { dst := some 20, op := Op.move (Operand.tmp 0), type := 26, pos := "law.go:43", after := #[], guard := none }) (v := ?_) rfl (by kernel_rfl) (by kernel_rfl) (by kernel_rfl) (fun _ _ _ h => h) (Or.inl ⟨by rfl, ?_⟩) (by assumption) ?_
    rotate_left
    · intro w hSw; (try dsimp only at hSw); go_simp; all_goals (with_reducible rfl)
    (try simp only [Act.put, List.setIfInBounds_toArray, List.set_cons_zero, List.set_cons_succ])
    refine wpAnyH_take (i := 1) (oi := { dst := some 21, op := Op.load 31 (Operand.tmp 4), type := 31, pos := "law.go:43", after := #[], guard := none }) (v := ?_) rfl (by kernel_rfl) (by kernel_rfl) (by kernel_rfl) (fun _ _ _ h => h) (Or.inl ⟨by rfl, ?_⟩) (by assumption) ?_
    rotate_left
    · intro w hSw; (try dsimp only at hSw); go_simp; all_goals (with_reducible rfl)
    (try simp only [Act.put, List.setIfInBounds_toArray, List.set_cons_zero, List.set_cons_succ])
    refine wpAnyH_take (i := 2) (oi := { dst := some 22, op := Op.fieldAddr 38 (Operand.tmp 5) 1, type := 0, pos := "law.go:43", after := #[], guard := none }) (v := ?_) rfl (by kernel_rfl) (by kernel_rfl) (by kernel_rfl) (fun _ _ _ h => h) (Or.inl ⟨by rfl, ?_⟩) (by assumption) ?_
    rotate_left
    · intro w hSw; (try dsimp only at hSw); go_simp; all_goals (with_reducible rfl)
    (try simp only [Act.put, List.setIfInBounds_toArray, List.set_cons_zero, List.set_cons_succ])
    refine wpAnyH_take (i := 3) (oi := { dst := some 23, op := Op.load 22 (Operand.tmp 22), type := 22, pos := "law.go:43", after := #[{ on := 2, ground := Ground.data }], guard := none }) (v := ?_) rfl (by kernel_rfl) (by kernel_rfl) (by kernel_rfl) (fun _ _ _ h => h) (Or.inl ⟨by rfl, ?_⟩) (by assumption) ?_
    rotate_left
    · intro w hSw; (try dsimp only at hSw); go_simp; all_goals (with_reducible rfl)
    (try simp only [Act.put, List.setIfInBounds_toArray, List.set_cons_zero, List.set_cons_succ])
    refine wpAnyH_take (i := 5) (oi := { dst := some 25, op := Op.move (Operand.tmp 0), type := 26, pos := "law.go:43", after := #[], guard := none }) (v := ?_) rfl (by kernel_rfl) (by kernel_rfl) (by kernel_rfl) (fun _ _ _ h => h) (Or.inl ⟨by rfl, ?_⟩) (by assumption) ?_
    rotate_left
    · intro w hSw; (try dsimp only at hSw); go_simp; all_goals (with_reducible rfl)
    (try simp only [Act.put, List.setIfInBounds_toArray, List.set_cons_zero, List.set_cons_succ])
    refine wpAnyH_take (i := 6) (oi := { dst := some 26, op := Op.fieldAddr 38 (Operand.tmp 5) 1, type := 0, pos := "law.go:43", after := #[], guard := none }) (v := ?_) rfl (by kernel_rfl) (by kernel_rfl) (by kernel_rfl) (fun _ _ _ h => h) (Or.inl ⟨by rfl, ?_⟩) (by assumption) ?_
    rotate_left
    · intro w hSw; (try dsimp only at hSw); go_simp; all_goals (with_reducible rfl)
    (try simp only [Act.put, List.setIfInBounds_toArray, List.set_cons_zero, List.set_cons_succ])
    refine wpAnyH_take (i := 7) (oi := { dst := some 27, op := Op.load 22 (Operand.tmp 26), type := 22, pos := "law.go:43", after := #[{ on := 6, ground := Ground.data }], guard := none }) (v := ?_) rfl (by kernel_rfl) (by kernel_rfl) (by kernel_rfl) (fun _ _ _ h => h) (Or.inl ⟨by rfl, ?_⟩) (by assumption) ?_
    rotate_left
    · intro w hSw; (try dsimp only at hSw); go_simp; all_goals (with_reducible rfl)
    (try simp only [Act.put, List.setIfInBounds_toArray, List.set_cons_zero, List.set_cons_succ])
    refine wpAnyH_ready (rs := [4]) (by kernel_rfl) (by simp) ?_
    refine AllReadyH.cons (o := { dst := some 24, op := Op.call { callee := Callee.value (Operand.func 19), args := #[Operand.tmp 21, Operand.tmp 23], argTypes := #[31, 22] }, type := 31, pos := "law.go:43", after := #[{ on := 1, ground := Ground.data }, { on := 3, ground := Ground.data }], guard := none }) rfl (fun K hK => ?_) AllReadyH.nil
    go_simp
    refine RA.out.mono ?_
    rintro e w7 ⟨A', n', c', rfl, hp7⟩
    have hb7 : Below w1.heap.size w1.drew w7 := hp7.2.2.2.1
    have P7 := Lib.hid (P1.out.same (W' := w7) (hb7.block _ P1.out.lt))
    have Q7 := Lib.hid (Q1.out.same (W' := w7) (hb7.block _ Q1.out.lt))
    have X7 := Lib.hid (X1.out.same (w' := w7) (hb7.block _ X1.out.lt))
    have b7 : Below w.heap.size w w7 := ⟨hb7.os.trans G1.out.os, hb7.tape.trans G1.out.tape, hb7.output.trans G1.out.output, Nat.le_trans G1.out.size hb7.size, fun k hk => (hb7.block k (Nat.lt_of_lt_of_le hk G1.out.size)).trans (G1.out.block k hk)⟩
    have AD := Lib.hid (at_add (HA.out.below b7) B m M cm hM hMc (by omega) ht (HB.out.below b7) HO.out)
    have HP := Lib.hid hp7
    have s7 := hb7.size
    clear hb7 b7 hp7
    go_wp2_with fail
    refine hK.out _ _ (by exact ⟨P7.out.c0, P7.out.c1, P7.out.c2, X7.out.c1⟩) (fun hHeld => ?_)
    clear hK K
    (try simp only [Act.put, List.setIfInBounds_toArray, List.set_cons_zero, List.set_cons_succ])
    refine wpAnyH_ready (rs := [8]) (by kernel_rfl) (by simp) ?_
    refine AllReadyH.cons (o := { dst := some 28, op := Op.call { callee := Callee.value (Operand.func 18), args := #[Operand.tmp 25, Operand.tmp 27], argTypes := #[26, 22] }, type := 27, pos := "law.go:43", after := #[{ on := 5, ground := Ground.data }, { on := 7, ground := Ground.data }, { on := 4, ground := Ground.chain }], guard := none }) rfl (fun K hK => ?_) AllReadyH.nil
    go_simp
    refine AD.out.mono ?_
    rintro e w8 ⟨v', rfl, h8, c8, n8⟩
    have fl : ∀ k, w.heap.size ≤ k → ¬ Fp x v k := fun k hk hf => by have := HA.out.rg.fp_lt hf; omega
    have P8 := Lib.hid (P7.out.same (W' := w8) (c8.block _ P7.out.lt (fl _ (Nat.le_refl _))))
    have q8 := Q7.out.same (W' := w8) (c8.block _ Q7.out.lt (fl _ (by omega)))
    have X8 := Lib.hid (X7.out.same (w' := w8) (c8.block _ X7.out.lt (fl _ (by omega))))
    have d0 := q8.c0
    have f0 := q8.free 0
    obtain ⟨Wa, hWa⟩ : ∃ Wa, w8.setCell ⟨w.heap.size + 1 + 1, 0, none⟩ (.int .i64 (lim : Int)) = Wa := ⟨_, rfl⟩
    have qa : Cb Wa (w.heap.size + 1 + 1) lim none 0 0 0 := by rw [← hWa]; exact q8.set0 lim
    have d1 := qa.c1
    have f1 := qa.free 1
    obtain ⟨Wb, hWb⟩ : ∃ Wb, Wa.setCell ⟨w.heap.size + 1 + 1, 1, none⟩ (.slice A' n' c') = Wb := ⟨_, rfl⟩
    have qb : Cb Wb (w.heap.size + 1 + 1) lim A' n' c' 0 := by rw [← hWb]; exact qa.set1 A' n' c'
    have d2 := qb.c2
    have f2 := qb.free 2
    obtain ⟨Wc, hWc⟩ : ∃ Wc, Wb.setCell ⟨w.heap.size + 1 + 1, 2, none⟩ (.int .i64 ((t + M : Nat) : Int)) = Wc := ⟨_, rfl⟩
    have hWc' : Wb.setCell ⟨w.heap.size + 1 + 1, 2, none⟩ (.int .i64 ((t : Int) + (M : Int))) = Wc := hWc
    have qc : Cb Wc (w.heap.size + 1 + 1) lim A' n' c' (t + M) := by rw [← hWc]; exact qb.set2 (t + M)
    have FN := Lib.hid (acd_fin (w1 := w1) HA.out G1.out z1 HP.out h8.rg c8 n8 (by rw [hWa, hWb, hWc] : ((w8.setCell ⟨w.heap.size + 1 + 1, 0, none⟩ (.int .i64 (lim : Int))).setCell ⟨w.heap.size + 1 + 1, 1, none⟩ (.slice A' n' c')).setCell ⟨w.heap.size + 1 + 1, 2, none⟩ (.int .i64 ((t + M : Nat) : Int)) = Wc))
    have keep : ∀ g, g ≠ w.heap.size + 1 + 1 → Wc.heap[g]? = w8.heap[g]? := fun g hg => by rw [← hWc, ← hWb, ← hWa, Below.heap_setCell _ _ _ _ hg, Below.heap_setCell _ _ _ _ hg, Below.heap_setCell _ _ _ _ hg]
    have P9 := Lib.hid (P8.out.same (keep _ (by omega)))
    have X9 := Lib.hid (X8.out.same (keep _ (by omega)))
    have Q9 := Lib.hid qc
    clear fl keep qa qb qc q8 h8 c8 n8
    go_wp2_with fail
    refine hK.out _ _ (by exact ⟨P8.out.c0, P8.out.c1, P8.out.c2, X8.out.c1⟩) (fun hHeld => ?_)
    clear hK K
    (try simp only [Act.put, List.setIfInBounds_toArray, List.set_cons_zero, List.set_cons_succ])
    refine wpAnyH_ready (rs := [9]) (by kernel_rfl) (by simp) ?_
    refine AllReadyH.cons (o := { dst := some 29, op := Op.call { callee := Callee.value (Operand.func 15), args := #[Operand.tmp 28], argTypes := #[27] }, type := 3, pos := "law.go:43", after := #[{ on := 8, ground := Ground.data }, { on := 8, ground := Ground.chain }], guard := none }) rfl (fun K hK => ?_) AllReadyH.nil
    go_simp
    refine (num_any _ _).mono ?_
    rintro e w9 ⟨rfl, rfl⟩
    go_wp2_with fail
    refine hK.out _ _ (by exact ⟨P8.out.c0, P8.out.c1, P8.out.c2, X8.out.c1⟩) (fun hHeld => ?_)
    clear hK K
    (try simp only [Act.put, List.setIfInBounds_toArray, List.set_cons_zero, List.set_cons_succ])
    refine wpAnyH_take (i := 10) (oi := { dst := some 30, op := Op.binOp BinOp.eql 3 (Operand.tmp 29) (Operand.const (Value.int IntKind.i64 0)) 3, type := 4, pos := "law.go:43", after := #[{ on := 9, ground := Ground.data }, { on := 12, ground := Ground.gcOnly Departure.lateStores }], guard := none }) (v := ?_) rfl (by kernel_rfl) (by kernel_rfl) (by kernel_rfl) (fun _ _ _ h => h) (Or.inl ⟨by rfl, ?_⟩) (by assumption) ?_
    rotate_left
    · intro w hSw; (try dsimp only at hSw); go_simp; all_goals (with_reducible rfl)
    (try simp only [Act.put, List.setIfInBounds_toArray, List.set_cons_zero, List.set_cons_succ])
    refine wpAnyH_take (i := 11) (oi := { dst := some 6, op := Op.assign (Operand.tmp 20), type := 26, pos := "law.go:43", after := #[{ on := 0, ground := Ground.data }, { on := 9, ground := Ground.chain }, { on := 0, ground := Ground.phase }, { on := 1, ground := Ground.textOnly Departure.lateStores }, { on := 2, ground := Ground.textOnly Departure.lateStores }, { on := 3, ground := Ground.textOnly Departure.lateStores }, { on := 4, ground := Ground.textOnly Departure.lateStoresUnsure }, { on := 5, ground := Ground.textOnly Departure.lateStores }, { on := 6, ground := Ground.textOnly Departure.lateStores }, { on := 7, ground := Ground.textOnly Departure.lateStores }, { on := 8, ground := Ground.textOnly Departure.lateStoresUnsure }, { on := 9, ground := Ground.textOnly Departure.lateStoresUnsure }, { on := 10, ground := Ground.textOnly Departure.lateStores }], guard := none }) (v := ?_) rfl (by kernel_rfl) (by kernel_rfl) (by kernel_rfl) (fun _ _ _ h => h) (Or.inl ⟨by rfl, ?_⟩) (by assumption) ?_
    rotate_left
    · intro w hSw; (try dsimp only at hSw); go_simp; all_goals (with_reducible rfl)
    (try simp only [Act.put, List.setIfInBounds_toArray, List.set_cons_zero, List.set_cons_succ])
    refine wpAnyH_ready (rs := [12]) (by kernel_rfl) (by simp) ?_
    refine AllReadyH.cons (o := { dst := none, op := Op.store 31 (Operand.tmp 7) (Operand.tmp 24), type := 0, pos := "law.go:43", after := #[{ on := 4, ground := Ground.data }, { on := 11, ground := Ground.chain }, { on := 0, ground := Ground.phase }, { on := 1, ground := Ground.phase }, { on := 2, ground := Ground.phase }, { on := 3, ground := Ground.phase }, { on := 4, ground := Ground.phase }, { on := 5, ground := Ground.textOnly Departure.lateStores }, { on := 6, ground := Ground.textOnly Departure.lateStores }, { on := 7, ground := Ground.textOnly Departure.lateStores }, { on := 8, ground := Ground.textOnly Departure.lateStoresUnsure }, { on := 9, ground := Ground.textOnly Departure.lateStoresUnsure }, { on := 10, ground := Ground.textOnly Departure.lateStores }, { on := 11, ground := Ground.phase }], guard := none }) rfl (fun K hK => ?_) AllReadyH.nil
    go_simp
    refine hK.out _ _ (by exact ⟨P9.out.c0, P9.out.c1, P9.out.c2, X9.out.c1⟩) (fun hHeld => ?_)
    clear hK K
    (try simp only [Act.put, List.setIfInBounds_toArray, List.set_cons_zero, List.set_cons_succ])
    refine wpAnyH_take (i := 13) (oi := { dst := some 8, op := Op.assign (Operand.tmp 30), type := 4, pos := "law.go:43", after := #[{ on := 10, ground := Ground.data }, { on := 12, ground := Ground.chain }, { on := 0, ground := Ground.phase }, { on := 1, ground := Ground.phase }, { on := 2, ground := Ground.phase }, { on := 3, ground := Ground.phase }, { on := 4, ground := Ground.phase }, { on := 5, ground := Ground.phase }, { on := 6, ground := Ground.phase }, { on := 7, ground := Ground.phase }, { on := 8, ground := Ground.phase }, { on := 9, ground := Ground.phase }, { on := 10, ground := Ground.phase }, { on := 11, ground := Ground.phase }, { on := 12, ground := Ground.phase }], guard := none }) (v := ?_) rfl (by kernel_rfl) (by kernel_rfl) (by kernel_rfl) (fun _ _ _ h => h) (Or.inl ⟨by rfl, ?_⟩) (by assumption) ?_
    rotate_left
    · intro w hSw; (try dsimp only at hSw); go_simp; all_goals (with_reducible rfl)
    (try simp only [Act.put, List.setIfInBounds_toArray, List.set_cons_zero, List.set_cons_succ])
    refine wpAnyH_done (by kernel_rfl) ?_ _
    refine NoPanic.normal ?_
    go_wp2
    refine bodyPost_ret (results_tct rfl rfl Q9.out.load) rfl ?_
    exact ⟨v', A', n', c', rfl, FN.out⟩
end Go.Proofs.YteogpmapbeogpaaDoor
