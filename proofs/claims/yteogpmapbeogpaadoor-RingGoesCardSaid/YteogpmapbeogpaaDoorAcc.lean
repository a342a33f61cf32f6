/-
  What the laws' helper act does where it copies. Conditions: those that the theorem states of the arguments.
-/
import Derived.Test.YteogpmapbeogpaaDoorFew
namespace Go.Proofs.YteogpmapbeogpaaDoor
open Go.RowKit

/-- A block of a reference's ring, made and stored whole. -/
theorem cb_made (w : World) (lim : Nat) (A : Option Addr) (n c t : Nat) : Cb (w.alloc (.cells #[.int .i64 (lim : Int), .slice A n c, .int .i64 (t : Int)] 31)) w.heap.size lim A n c t := Cb.new w lim A n c t

/-- What is left once the second result's block is written over the copied bytes. -/
theorem acc_fin {w0 w w1 w7 w8 w9 Wc : World} {x lim t T : Nat} {v v' : Value} {l L : List UInt8} {A' : Option Addr} {n' c' : Nat} {u0 u1 u2 : Value} (h : At w0 w x v lim l t) (hb : Below w.heap.size w w1) (hs : w1.heap.size = w.heap.size + 3) (hp7 : RfPost w1 L A' n' c' w7) (h78 : Below w7.heap.size w7 w8) (h9 : Rg w9 x v' lim L T) (c9 : Chg (Fp x v) w8 w9) (n9 : New w8 v v')
    (hW : ((w9.drew.setCell ⟨w.heap.size + 1 + 1, 0, none⟩ u0).setCell ⟨w.heap.size + 1 + 1, 1, none⟩ u1).setCell ⟨w.heap.size + 1 + 1, 2, none⟩ u2 = Wc) :
    At w0 Wc x v' lim L T ∧ L.length = n' ∧ n' ≤ c' ∧ Rd Wc A' L ∧ (∀ ad, A' = some ad → w.heap.size ≤ ad.block) ∧ Chg (Fp x v) w Wc ∧ New w v v' ∧ Out A' L (Fp x v') := by
  obtain ⟨a1, a2, a3, h4, h5⟩ := hp7
  have sz := h4.size
  have s8 := h78.size
  have b8 : Below w.heap.size w w8 := below_on (below_on hb (Nat.le_refl _) h4) (Nat.le_refl _) h78
  have c7 : Chg (Fp x v) w w9 := (Chg.of_below b8).trans c9
  have n7 : New w v v' := fun k hk => (n9 k hk).imp id (fun e => Nat.le_trans b8.size e)
  have keep : ∀ g, g ≠ w.heap.size + 1 + 1 → Wc.heap[g]? = w9.heap[g]? := fun g hg => by
    rw [← hW, Below.heap_setCell _ _ _ _ hg, Below.heap_setCell _ _ _ _ hg, Below.heap_setCell _ _ _ _ hg]
    rfl
  have fpn : ∀ k, Fp x v' k → k ≠ w.heap.size + 1 + 1 := fun k hk => by
    rcases hk with hk | hk
    · have := h.rg.fp_lt (.inl hk)
      omega
    · rcases n9 k hk with e | e
      · have := h.rg.fp_lt (.inr e)
        omega
      · omega
  have hC : Chg (Fp x v) w Wc := by
    refine ⟨?_, ?_, ?_, ?_, fun k hk hn => (keep k (by omega)).trans (c7.block k hk hn)⟩
    · rw [← hW]; exact c7.os
    · rw [← hW]; exact c7.tape
    · rw [← hW]; exact c7.output
    · rw [← hW]; simpa [World.setCell] using c7.size
  refine ⟨h.chg (h9.same (fun k hk => keep k (fpn k hk))) hC n7, a1, a2, ?_, fun ad e => by have := h5 ad e; omega, hC, n7, ?_⟩
  rotate_left
  · intro hm ad e hf
    have i1 := h5 ad e
    have i3 := rd_lt a3 hm ad e
    rcases hf with hf | hf
    · have := h.rg.fp_lt (.inl hf)
      omega
    · rcases n9 _ hf with e8 | e8
      · have := h.rg.fp_lt (.inr e8)
        omega
      · omega
  refine Rv.same (rd_chg (a3.below h78) c9 (fun _ ad e hf => ?_)) (fun ad e => keep _ (by have := h5 ad e; omega))
  have h6 := h5 ad e
  have h7 := h.rg.fp_lt hf
  omega

set_option maxRecDepth 100000 in
set_option maxHeartbeats 4000000 in
theorem act_copy {w0 w : World} {x lim t : Nat} {v : Value} {l : List UInt8} (h : At w0 w x v lim l t) (A : Option Addr) (n c : Nat) (hn : l.length = n) (hnb : n ≤ 1000000) (hR : Rd w A l) (wh : Int) (hwh : wh = 3 ∨ wh = 4) (B : Option Addr) (M cm : Nat) (D k : Nat) (hD1 : 1 ≤ D) (hD : D ≤ n) (hk : k ≤ 131072) (ht : t ≤ 1099511627776) (C : List UInt8) (hC : cyc (l.drop (l.length - D)) k = C) :
    Calls Tryd.prog 16 #[.pointer (some ⟨x, 0, none⟩), rv lim A n c t, .agg #[.int .i64 wh, .slice B M cm, .int .i64 (D : Int), .int .i64 (k : Int)]] w fun e w' => ∃ v' A' n' c', e = .returned (.tuple #[.pointer (some ⟨x, 0, none⟩), rv lim A' n' c' (t + k : Nat), .bool true]) ∧
      At w0 w' x v' lim (fin lim (l ++ C)) (t + k) ∧ (fin lim (l ++ C)).length = n' ∧ n' ≤ c' ∧ Rd w' A' (fin lim (l ++ C)) ∧ (∀ ad, A' = some ad → w.heap.size ≤ ad.block) ∧ Chg (Fp x v) w w' ∧ New w v v' ∧ Out A' (fin lim (l ++ C)) (Fp x v') := by
  obtain ⟨w1, hw1⟩ : ∃ w1, ((w.alloc (.cells #[.int .i64 (lim : Int), .slice A n c, .int .i64 (t : Int)] 31)).alloc (.cells #[.int .i64 wh, .slice B M cm, .int .i64 (D : Int), .int .i64 (k : Int)] 38)).alloc (.cells #[.int .i64 0, .slice none 0 0, .int .i64 0] 31) = w1 := ⟨_, rfl⟩
  obtain ⟨g1, z1, p1, x1, q1⟩ := act_start w lim A n c t wh B M cm (D : Int) (k : Int) w1 hw1
  have c0 := x1.c0
  have c2 := x1.c2
  have c3 := x1.c3
  have r0 := p1.c0
  have r1 := p1.c1
  have r2 := p1.c2
  have hCl : C.length = k := by rw [← hC, cyc_len]
  have RC := Lib.hid (rcopy_ok w1 lim t A l n c hn hnb (hR.below g1) D k hD1 hD hk ht C hC)
  obtain ⟨L, hL⟩ : ∃ L, fin lim (l ++ C) = L := ⟨_, rfl⟩
  obtain ⟨T, hT⟩ : ∃ T, t + k = T := ⟨_, rfl⟩
  rw [hL, hT] at RC ⊢
  have PC : Hid (∀ W, At w0 W x v lim l t → Calls Tryd.prog 26 #[.pointer (some ⟨x, 0, none⟩), .int .i64 (D : Int), .int .i64 (k : Int)] W fun e w' => ∃ A c v', e = .returned (.tuple #[.slice A k c, .int .i64 0]) ∧ At w0 w' x v' lim L T ∧ k ≤ c ∧ w'.ownsRow W.heap.size 5 1 (.slice A k c) k (C.map byt) ∧ (∀ j, Fp x v' j → (Value.slice A k c).ownBlock ≠ some j) ∧ Chg (Fp x v) W w' ∧ New W v v') := Lib.hid (fun W hW => by rw [← hT]; exact at_copy hW D k hD1 (by omega) hk ht C hC L hL)
  have HA := Lib.hid h
  have P1 := Lib.hid p1
  have Q1 := Lib.hid q1
  have X1 := Lib.hid x1
  have G1 := Lib.hid g1
  have hkb : k ≤ 131072 := hk
  have hTb : T ≤ 2199023255552 := by omega
  have HTT := Lib.hid hT
  clear h g1 p1 x1 q1 hR hC hL hnb hn hT ht
  rcases hwh with rfl | rfl
  all_goals
    go_enter Tryd.func16, Tryd.ntmps16
    go_wp2_with (first
      | (go_at_call 33; refine RC.out.mono ?_; rintro e w7 ⟨A', n', c', BB, cb, rfl, hp7, hd7, hn7⟩; obtain ⟨w8, hw8⟩ : ∃ w8, w7.alloc (.cells #[.int .i64 (lim : Int), .slice A' n' c', .int .i64 (T : Int)] 31) = w8 := ⟨_, rfl⟩; have hb7 : Below w1.heap.size w1 w7 := hp7.2.2.2.1; have b8 : Below w7.heap.size w7 w8 := (by rw [← hw8]; exact lit_bel w7 _); have i8 := below_on hb7 (Nat.le_refl _) b8; have o8 : Cb w8 w7.heap.size lim A' n' c' T := (by rw [← hw8]; exact Cb.new w7 lim A' n' c' T); have x8 := X1.out.same (w' := w8) (i8.block _ X1.out.lt); have q8 := Q1.out.same (W' := w8) (i8.block _ Q1.out.lt); have s2 := x8.c2; have s3 := x8.c3; have Q8 := Lib.hid q8; have O8 := Lib.hid o8; have A8 := Lib.hid ((HA.out.below G1.out).below i8); have B8 := Lib.hid b8; have S7 := Lib.hid hb7.size; have HP := Lib.hid hp7; have HD := Lib.hid (hd7.below b8); have HBB := Lib.hid (hn7); clear hp7 hd7 hb7 x8 q8 o8 i8 b8 hn7)
      | (go_at_call 26; refine (PC.out w8 A8.out).mono ?_; rintro e w9 ⟨A9, c9, v', rfl, h9, hc9, ho9, hx9, hg9, hn9⟩))
    have fl : ∀ j, w.heap.size ≤ j → ¬ Fp x v j := fun j hj hf => by have := HA.out.rg.fp_lt hf; omega
    have o9 := O8.out.same (W' := w9) (hg9.block _ O8.out.lt (fl _ (by have := S7.out; omega)))
    have q9 := Q8.out.same (W' := w9) (hg9.block _ Q8.out.lt (fl _ (by omega)))
    have d0 : w9.drew.cell? ⟨w.heap.size + 1 + 1, 0, none⟩ = some (.int .i64 ((0 : Nat) : Int)) := q9.c0
    have f0 : w9.drew.frozen? ⟨w.heap.size + 1 + 1, 0, none⟩ = false := q9.free 0
    have qz : Cb w9.drew (w.heap.size + 1 + 1) 0 none 0 0 0 := q9
    obtain ⟨Wa, hWa⟩ : ∃ Wa, w9.drew.setCell ⟨w.heap.size + 1 + 1, 0, none⟩ (.int .i64 (lim : Int)) = Wa := ⟨_, rfl⟩
    have qa : Cb Wa (w.heap.size + 1 + 1) lim none 0 0 0 := by rw [← hWa]; exact qz.set0 lim
    have d1 := qa.c1
    have f1 := qa.free 1
    obtain ⟨Wb, hWb⟩ : ∃ Wb, Wa.setCell ⟨w.heap.size + 1 + 1, 1, none⟩ (.slice A' n' c') = Wb := ⟨_, rfl⟩
    have qb : Cb Wb (w.heap.size + 1 + 1) lim A' n' c' 0 := by rw [← hWb]; exact qa.set1 A' n' c'
    have d2 := qb.c2
    have f2 := qb.free 2
    obtain ⟨Wc, hWc⟩ : ∃ Wc, Wb.setCell ⟨w.heap.size + 1 + 1, 2, none⟩ (.int .i64 (T : Int)) = Wc := ⟨_, rfl⟩
    have qc : Cb Wc (w.heap.size + 1 + 1) lim A' n' c' T := by rw [← hWc]; exact qb.set2 T
    have keep : ∀ g, g ≠ w.heap.size + 1 + 1 → Wc.heap[g]? = w9.heap[g]? := fun g hg => by
      rw [← hWc, ← hWb, ← hWa, Below.heap_setCell _ _ _ _ hg, Below.heap_setCell _ _ _ _ hg, Below.heap_setCell _ _ _ _ hg]
      rfl
    have hd9 : Rd w9 BB C := rd_chg HD.out hg9 (fun hm ad e hf => by
      have h1 := rd_lt HD.out hm ad e
      exact fl _ (by have := HBB.out ad e; omega) hf)
    have FN := Lib.hid (acc_fin HA.out G1.out z1 HP.out B8.out h9.rg hg9 hn9 (by rw [hWa, hWb, hWc] : ((w9.drew.setCell ⟨w.heap.size + 1 + 1, 0, none⟩ (.int .i64 (lim : Int))).setCell ⟨w.heap.size + 1 + 1, 1, none⟩ (.slice A' n' c')).setCell ⟨w.heap.size + 1 + 1, 2, none⟩ (.int .i64 (T : Int)) = Wc))
    have O9 : Hid (Cb w9.drew w7.heap.size lim A' n' c' T) := Lib.hid o9
    have OC := Lib.hid (o9.same (keep _ (by have := S7.out; omega)))
    have QC := Lib.hid qc
    have CA : Hid ((convert 22 9 (.slice A9 k c9)).run Tryd.prog w9.drew = .ok (.string ⟨C.toArray⟩) w9.drew) := Lib.hid (conv_len w9.drew A9 C k c9 hCl (Rv.same (Rv.of_own ho9) (fun _ _ => rfl)))
    have CB : Hid ((convert 22 9 (.slice BB k cb)).run Tryd.prog w9.drew = .ok (.string ⟨C.toArray⟩) w9.drew) := Lib.hid (conv_len w9.drew BB C k cb hCl (Rv.same hd9 (fun _ _ => rfl)))
    have CC := Lib.hid (conv_len Wc A9 C k c9 hCl (rd_apart q9 (Rv.of_own ho9) keep))
    have CD := Lib.hid (conv_len Wc BB C k cb hCl (rd_apart q9 hd9 keep))
    clear keep qa qb qc q9 o9 qz hd9 fl h9 ho9 hx9 hg9 hn9 c2 c3 r0 r1 r2 s2 s3
    refine wp_region_noPanic ?_
    refine wp_region_held_drew (S := fun W => (W.cell? ⟨w7.heap.size, 0, none⟩ = some (.int .i64 (lim : Int)) ∧ W.cell? ⟨w7.heap.size, 1, none⟩ = some (.slice A' n' c') ∧ W.cell? ⟨w7.heap.size, 2, none⟩ = some (.int .i64 (T : Int))) ∧ (convert 22 9 (.slice A9 k c9)).run Tryd.prog W = .ok (.string ⟨C.toArray⟩) W ∧ (convert 22 9 (.slice BB k cb)).run Tryd.prog W = .ok (.string ⟨C.toArray⟩) W) (by kernel_rfl) (by exact ⟨⟨O9.out.c0, O9.out.c1, O9.out.c2⟩, CA.out, CB.out⟩) (fun hHeld => ?_)
    refine wpAnyH_take (i := 0) (oi := { dst := some 53, op := Op.move (Operand.tmp 0), type := 26, pos := "law.go:47", after := #[], guard := none }) (v := ?_) rfl (by kernel_rfl) (by kernel_rfl) (by kernel_rfl) (fun _ _ _ h => h) (Or.inl ⟨by rfl, ?_⟩) (by assumption) ?_
    rotate_left
    · intro w hSw; (try dsimp only at hSw); go_simp; all_goals (with_reducible rfl)
    (try simp only [Act.put, List.setIfInBounds_toArray, List.set_cons_zero, List.set_cons_succ])
    refine wpAnyH_take (i := 1) (oi := { dst := some 54, op := Op.load 31 (Operand.tmp 9), type := 31, pos := "law.go:47", after := #[{ on := 13, ground := Ground.gcOnly Departure.lateStores }], guard := none }) (v := ?_) rfl (by kernel_rfl) (by kernel_rfl) (by kernel_rfl) (fun _ _ _ h => h) (Or.inl ⟨by rfl, ?_⟩) (by assumption) ?_
    rotate_left
    · intro w hSw; (try dsimp only at hSw); go_simp; all_goals (with_reducible rfl)
    (try simp only [Act.put, List.setIfInBounds_toArray, List.set_cons_zero, List.set_cons_succ])
    refine wpAnyH_take (i := 2) (oi := { dst := some 55, op := Op.move (Operand.tmp 12), type := 22, pos := "law.go:47", after := #[], guard := none }) (v := ?_) rfl (by kernel_rfl) (by kernel_rfl) (by kernel_rfl) (fun _ _ _ h => h) (Or.inl ⟨by rfl, ?_⟩) (by assumption) ?_
    rotate_left
    · intro w hSw; (try dsimp only at hSw); go_simp; all_goals (with_reducible rfl)
    (try simp only [Act.put, List.setIfInBounds_toArray, List.set_cons_zero, List.set_cons_succ])
    refine wpAnyH_take (i := 3) (oi := { dst := some 56, op := Op.convert 22 9 (Operand.tmp 55), type := 9, pos := "law.go:47", after := #[{ on := 2, ground := Ground.data }], guard := none }) (v := ?_) rfl (by kernel_rfl) (by kernel_rfl) (by kernel_rfl) (fun _ _ _ h => h) (Or.inl ⟨by rfl, ?_⟩) (by assumption) ?_
    rotate_left
    · intro w hSw; (try dsimp only at hSw); go_simp; all_goals (with_reducible rfl)
    (try simp only [Act.put, List.setIfInBounds_toArray, List.set_cons_zero, List.set_cons_succ])
    refine wpAnyH_take (i := 4) (oi := { dst := some 57, op := Op.move (Operand.tmp 10), type := 22, pos := "law.go:47", after := #[], guard := none }) (v := ?_) rfl (by kernel_rfl) (by kernel_rfl) (by kernel_rfl) (fun _ _ _ h => h) (Or.inl ⟨by rfl, ?_⟩) (by assumption) ?_
    rotate_left
    · intro w hSw; (try dsimp only at hSw); go_simp; all_goals (with_reducible rfl)
    (try simp only [Act.put, List.setIfInBounds_toArray, List.set_cons_zero, List.set_cons_succ])
    refine wpAnyH_take (i := 5) (oi := { dst := some 58, op := Op.convert 22 9 (Operand.tmp 57), type := 9, pos := "law.go:47", after := #[{ on := 4, ground := Ground.data }], guard := none }) (v := ?_) rfl (by kernel_rfl) (by kernel_rfl) (by kernel_rfl) (fun _ _ _ h => h) (Or.inl ⟨by rfl, ?_⟩) (by assumption) ?_
    rotate_left
    · intro w hSw; (try dsimp only at hSw); go_simp; all_goals (with_reducible rfl)
    (try simp only [Act.put, List.setIfInBounds_toArray, List.set_cons_zero, List.set_cons_succ])
    refine wpAnyH_take (i := 6) (oi := { dst := some 59, op := Op.binOp BinOp.eql 9 (Operand.tmp 56) (Operand.tmp 58) 9, type := 4, pos := "law.go:47", after := #[{ on := 3, ground := Ground.data }, { on := 5, ground := Ground.data }], guard := none }) (v := ?_) rfl (by kernel_rfl) (by kernel_rfl) (by kernel_rfl) (fun _ _ _ h => h) (Or.inl ⟨by rfl, ?_⟩) (by assumption) ?_
    rotate_left
    · intro w hSw; (try dsimp only at hSw); go_simp; all_goals (with_reducible rfl)
    (try simp only [Act.put, List.setIfInBounds_toArray, List.set_cons_zero, List.set_cons_succ])
    refine wpAnyH_take (i := 7) (oi := { dst := some 60, op := Op.move (Operand.tmp 59), type := 4, pos := "law.go:47", after := #[{ on := 6, ground := Ground.data }], guard := none }) (v := ?_) rfl (by kernel_rfl) (by kernel_rfl) (by kernel_rfl) (fun _ _ _ h => h) (Or.inl ⟨by rfl, ?_⟩) (by assumption) ?_
    rotate_left
    · intro w hSw; (try dsimp only at hSw); go_simp; all_goals (with_reducible rfl)
    (try simp only [Act.put, List.setIfInBounds_toArray, List.set_cons_zero, List.set_cons_succ])
    (try simp only [beq_self_eq_true])
    refine wpAnyH_take (i := 8) (oi := { dst := some 61, op := Op.move (Operand.tmp 13), type := 27, pos := "law.go:47", after := #[{ on := 7, ground := Ground.guard }], guard := some (7, true) }) (v := ?_) rfl (by kernel_rfl) (by kernel_rfl) (by kernel_rfl) (fun _ _ _ h => h) (Or.inl ⟨by rfl, ?_⟩) (by assumption) ?_
    rotate_left
    · intro w hSw; (try dsimp only at hSw); go_simp; all_goals (with_reducible rfl)
    (try simp only [Act.put, List.setIfInBounds_toArray, List.set_cons_zero, List.set_cons_succ])
    refine wpAnyH_take (i := 10) (oi := { dst := some 63, op := Op.move (Operand.tmp 11), type := 3, pos := "law.go:47", after := #[{ on := 7, ground := Ground.guard }, { on := 14, ground := Ground.gcOnly Departure.lateStores }], guard := some (7, true) }) (v := ?_) rfl (by kernel_rfl) (by kernel_rfl) (by kernel_rfl) (fun _ _ _ h => h) (Or.inl ⟨by rfl, ?_⟩) (by assumption) ?_
    rotate_left
    · intro w hSw; (try dsimp only at hSw); go_simp; all_goals (with_reducible rfl)
    (try simp only [Act.put, List.setIfInBounds_toArray, List.set_cons_zero, List.set_cons_succ])
    refine wpAnyH_ready (rs := [9]) (by kernel_rfl) (by simp) ?_
    refine AllReadyH.cons (o := { dst := some 62, op := Op.call { callee := Callee.value (Operand.func 15), args := #[Operand.tmp 61], argTypes := #[27] }, type := 3, pos := "law.go:47", after := #[{ on := 8, ground := Ground.data }, { on := 7, ground := Ground.chain }, { on := 7, ground := Ground.guard }], guard := some (7, true) }) rfl (fun K hK => ?_) AllReadyH.nil
    go_simp
    refine (num_any _ _).mono ?_
    rintro e w9 ⟨rfl, rfl⟩
    go_wp2_with fail
    refine hK.out _ _ (by exact ⟨⟨O9.out.c0, O9.out.c1, O9.out.c2⟩, CA.out, CB.out⟩) (fun hHeld => ?_)
    clear hK K
    (try simp only [Act.put, List.setIfInBounds_toArray, List.set_cons_zero, List.set_cons_succ])
    refine wpAnyH_take (i := 11) (oi := { dst := some 64, op := Op.binOp BinOp.eql 3 (Operand.tmp 62) (Operand.tmp 63) 3, type := 4, pos := "law.go:47", after := #[{ on := 9, ground := Ground.data }, { on := 10, ground := Ground.data }, { on := 7, ground := Ground.guard }, { on := 14, ground := Ground.gcOnly Departure.lateStores }], guard := some (7, true) }) (v := ?_) rfl (by kernel_rfl) (by kernel_rfl) (by kernel_rfl) (fun _ _ _ h => h) (Or.inl ⟨by rfl, ?_⟩) (by assumption) ?_
    rotate_left
    · intro w hSw; (try dsimp only at hSw); go_simp; all_goals (with_reducible rfl)
    (try simp only [Act.put, List.setIfInBounds_toArray, List.set_cons_zero, List.set_cons_succ])
    refine wpAnyH_take (i := 12) (oi := { dst := some 65, op := Op.pick (Operand.tmp 60) (Operand.tmp 64) (Operand.const (Value.bool false)), type := 4, pos := "law.go:47", after := #[{ on := 7, ground := Ground.data }, { on := 11, ground := Ground.data }, { on := 14, ground := Ground.gcOnly Departure.lateStores }], guard := none }) (v := ?_) rfl (by kernel_rfl) (by kernel_rfl) (by kernel_rfl) (fun _ _ _ h => h) (Or.inl ⟨by rfl, ?_⟩) (by assumption) ?_
    rotate_left
    · intro w hSw; (try dsimp only at hSw); go_simp; all_goals (with_reducible rfl)
    (try simp only [Act.put, List.setIfInBounds_toArray, List.set_cons_zero, List.set_cons_succ])
    refine wpAnyH_take (i := 13) (oi := { dst := some 6, op := Op.assign (Operand.tmp 53), type := 26, pos := "law.go:47", after := #[{ on := 0, ground := Ground.data }, { on := 9, ground := Ground.chain }, { on := 0, ground := Ground.phase }, { on := 1, ground := Ground.textOnly Departure.lateStores }, { on := 2, ground := Ground.textOnly Departure.lateStores }, { on := 3, ground := Ground.textOnly Departure.lateStores }, { on := 4, ground := Ground.textOnly Departure.lateStores }, { on := 5, ground := Ground.textOnly Departure.lateStores }, { on := 6, ground := Ground.textOnly Departure.lateStores }, { on := 7, ground := Ground.textOnly Departure.lateStores }, { on := 8, ground := Ground.textOnly Departure.lateStores }, { on := 9, ground := Ground.textOnly Departure.lateStoresUnsure }, { on := 10, ground := Ground.textOnly Departure.lateStores }, { on := 11, ground := Ground.textOnly Departure.lateStores }, { on := 12, ground := Ground.textOnly Departure.lateStores }], guard := none }) (v := ?_) rfl (by kernel_rfl) (by kernel_rfl) (by kernel_rfl) (fun _ _ _ h => h) (Or.inl ⟨by rfl, ?_⟩) (by assumption) ?_
    rotate_left
    · intro w hSw; (try dsimp only at hSw); go_simp; all_goals (with_reducible rfl)
    (try simp only [Act.put, List.setIfInBounds_toArray, List.set_cons_zero, List.set_cons_succ])
    refine wpAnyH_ready (rs := [14]) (by kernel_rfl) (by simp) ?_
    refine AllReadyH.cons (o := { dst := none, op := Op.store 31 (Operand.tmp 7) (Operand.tmp 54), type := 0, pos := "law.go:47", after := #[{ on := 1, ground := Ground.data }, { on := 13, ground := Ground.chain }, { on := 0, ground := Ground.phase }, { on := 1, ground := Ground.phase }, { on := 2, ground := Ground.textOnly Departure.lateStores }, { on := 3, ground := Ground.textOnly Departure.lateStores }, { on := 4, ground := Ground.textOnly Departure.lateStores }, { on := 5, ground := Ground.textOnly Departure.lateStores }, { on := 6, ground := Ground.textOnly Departure.lateStores }, { on := 7, ground := Ground.textOnly Departure.lateStores }, { on := 8, ground := Ground.textOnly Departure.lateStores }, { on := 9, ground := Ground.textOnly Departure.lateStoresUnsure }, { on := 10, ground := Ground.textOnly Departure.lateStores }, { on := 11, ground := Ground.textOnly Departure.lateStores }, { on := 12, ground := Ground.textOnly Departure.lateStores }, { on := 13, ground := Ground.phase }], guard := none }) rfl (fun K hK => ?_) AllReadyH.nil
    go_simp
    refine hK.out _ _ (by exact ⟨⟨OC.out.c0, OC.out.c1, OC.out.c2⟩, CC.out, CD.out⟩) (fun hHeld => ?_)
    clear hK K
    (try simp only [Act.put, List.setIfInBounds_toArray, List.set_cons_zero, List.set_cons_succ])
    refine wpAnyH_take (i := 15) (oi := { dst := some 8, op := Op.assign (Operand.tmp 65), type := 4, pos := "law.go:47", after := #[{ on := 12, ground := Ground.data }, { on := 14, ground := Ground.chain }, { on := 0, ground := Ground.phase }, { on := 1, ground := Ground.phase }, { on := 2, ground := Ground.phase }, { on := 3, ground := Ground.phase }, { on := 4, ground := Ground.phase }, { on := 5, ground := Ground.phase }, { on := 6, ground := Ground.phase }, { on := 7, ground := Ground.phase }, { on := 8, ground := Ground.phase }, { on := 9, ground := Ground.phase }, { on := 10, ground := Ground.phase }, { on := 11, ground := Ground.phase }, { on := 12, ground := Ground.phase }, { on := 13, ground := Ground.phase }, { on := 14, ground := Ground.phase }], guard := none }) (v := ?_) rfl (by kernel_rfl) (by kernel_rfl) (by kernel_rfl) (fun _ _ _ h => h) (Or.inl ⟨by rfl, ?_⟩) (by assumption) ?_
    rotate_left
    · intro w hSw; (try dsimp only at hSw); go_simp; all_goals (with_reducible rfl)
    (try simp only [Act.put, List.setIfInBounds_toArray, List.set_cons_zero, List.set_cons_succ])
    refine wpAnyH_done (by kernel_rfl) ?_ _
    refine NoPanic.normal ?_
    go_wp2
    refine bodyPost_ret (results_tct rfl rfl QC.out.load) (by simp) ?_
    exact ⟨v', A', n', c', by simp, FN.out⟩
end Go.Proofs.YteogpmapbeogpaaDoor
