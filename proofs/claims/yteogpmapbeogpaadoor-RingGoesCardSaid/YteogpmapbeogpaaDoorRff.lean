/-
  What the reference's Copy does where it copies. Conditions: fewer than 2^27 bytes.
-/
import Derived.Test.YteogpmapbeogpaaDoorRfe
namespace Go.Proofs.YteogpmapbeogpaaDoor
open Go.RowKit

theorem rff_fin {w wr w7 Wc : World} {L C : List UInt8} {A' BB : Option Addr} {n' c' : Nat} {u0 u1 u2 : Value} (hb : Below w.heap.size w wr) (hs : w.heap.size + 2 ≤ wr.heap.size) (h : RfPost wr.drew L A' n' c' w7)
    (hW : ((w7.setCell ⟨w.heap.size + 1, 0, none⟩ u0).setCell ⟨w.heap.size + 1, 1, none⟩ u1).setCell ⟨w.heap.size + 1, 2, none⟩ u2 = Wc) (hR : Rd wr BB C) (hB : ∀ ad, BB = some ad → w.heap.size + 2 ≤ ad.block) : RfPost w L A' n' c' Wc ∧ Rd Wc BB C ∧ ∀ ad, BB = some ad → w.heap.size ≤ ad.block := by
  obtain ⟨h1, h2, h3, h4, h5⟩ := h
  have hz : wr.drew.heap.size = wr.heap.size := rfl
  rw [hz] at h4 h5
  have b7 : Below w.heap.size w w7 := ⟨h4.os.trans hb.os, h4.tape.trans hb.tape, h4.output.trans hb.output, Nat.le_trans hb.size h4.size, fun k hk => (h4.block k (Nat.lt_of_lt_of_le hk hb.size)).trans (hb.block k hk)⟩
  have keep : ∀ g, g ≠ w.heap.size + 1 → Wc.heap[g]? = w7.heap[g]? := fun g hg => by
    rw [← hW, Below.heap_setCell _ _ _ _ hg, Below.heap_setCell _ _ _ _ hg, Below.heap_setCell _ _ _ _ hg]
  refine ⟨⟨h1, h2, Rv.same h3 (fun ad e => keep _ (by have := h5 ad e; omega)), ?_, fun ad e => by have := h5 ad e; omega⟩, ?_, fun ad e => by have := hB ad e; omega⟩
  · rw [← hW]
    exact ((b7.setCell (p := ⟨w.heap.size + 1, 0, none⟩) (Nat.le_succ _) _).setCell (p := ⟨w.heap.size + 1, 1, none⟩) (Nat.le_succ _) _).setCell (p := ⟨w.heap.size + 1, 2, none⟩) (Nat.le_succ _) _
  · have h6 : Rd wr.drew BB C := Rv.same hR (fun _ _ => rfl)
    exact Rv.same (h6.below h4) (fun ad e => keep _ (by have := hB ad e; omega))

set_option maxRecDepth 100000 in
set_option maxHeartbeats 4000000 in
theorem rcopy_ok (w : World) (lim t : Nat) (A : Option Addr) (l : List UInt8) (n c : Nat) (hn : l.length = n) (hnb : n ≤ 1000000) (hR : Rd w A l) (D k : Nat) (hD1 : 1 ≤ D) (hD : D ≤ n) (hk : k ≤ 131072) (ht : t ≤ 1099511627776) (C : List UInt8) (hC : cyc (l.drop (l.length - D)) k = C) :
    Calls Tryd.prog 33 #[rv lim A n c t, .int .i64 (D : Int), .int .i64 (k : Int)] w fun e w' => ∃ A' n' c' B cb, e = .returned (.tuple #[rv lim A' n' c' (t + k : Nat), .slice B k cb, .int .i64 0]) ∧ RfPost w (fin lim (l ++ C)) A' n' c' w' ∧ Rd w' B C ∧ ∀ ad, B = some ad → w.heap.size ≤ ad.block := by
  obtain ⟨w1, hw1⟩ : ∃ w1, (w.alloc (.cells #[.int .i64 (lim : Int), .slice A n c, .int .i64 (t : Int)] 31)).alloc (.cells #[.int .i64 0, .slice none 0 0, .int .i64 0] 31) = w1 := ⟨_, rfl⟩
  have p1 : Cb w1 w.heap.size lim A n c t := by rw [← hw1]; exact (Cb.new w lim A n c t).same (Below.heap_alloc _ _ _ (by simp))
  have q1 : Cb w1 (w.heap.size + 1) 0 none 0 0 0 := by
    rw [← hw1]
    have := Cb.new (w.alloc (.cells #[.int .i64 (lim : Int), .slice A n c, .int .i64 (t : Int)] 31)) 0 none 0 0 0
    rwa [World.size_alloc] at this
  have g1 : Below w.heap.size w w1 := by rw [← hw1]; exact ((Below.refl _ w).alloc (Nat.le_refl _) _).alloc (by simp) _
  have z1 : w1.heap.size = w.heap.size + 2 := by rw [← hw1]; simp
  obtain ⟨w2, hw2⟩ : ∃ w2, w1.alloc (.cells #[] 5) = w2 := ⟨_, rfl⟩
  have g2 : Below w1.heap.size w1 w2 := by rw [← hw2]; exact lit_bel w1 _
  have O0 : Hid (w2.ownsRow w1.heap.size 5 1 (.slice (some ⟨w.heap.size + 1 + 1, 0, none⟩) 0 0) 0 []) := Lib.hid (by rw [← hw2, show w.heap.size + 1 + 1 = w1.heap.size by omega]; exact own_empty w1)
  have c0 := p1.c1
  have c1 := (p1.same (g2.block _ p1.lt)).c1
  have P1 := Lib.hid p1
  have Q1 := Lib.hid q1
  have G1 := Lib.hid g1
  have G2 := Lib.hid g2
  have HR := Lib.hid hR
  have HN := Lib.hid hn
  have HC := Lib.hid hC
  have e1 : decide ((k : Int) < 0) = false := decide_eq_false (by omega)
  have e2 : decide ((131072 : Int) < (k : Int)) = false := decide_eq_false (by omega)
  have e3 : decide ((D : Int) < 1) = false := decide_eq_false (by omega)
  have e4 : decide ((n : Int) < (D : Int)) = false := decide_eq_false (by omega)
  clear p1 q1 g1 g2 hR hn hC
  go_enter Tryd.func33, Tryd.ntmps33
  go_wp2_with (at_builtin; refine wpList_append_vals Tryd.underlying22 byte_info rfl rfl _ _ rfl w1.heap.size (.slice (some ⟨w.heap.size + 1 + 1, 0, none⟩) 0 0) 0 [] rfl O0.out A (l.map byt) (byt_one l) n c (by rw [List.length_map]; exact HN.out) rfl ((HR.out.below G1.out).below G2.out) (by omega) (by omega) G2.out.size ?_; intro v3 w3 ho hg he; rw [Nat.zero_add, List.nil_append] at ho; obtain ⟨A3, c3, rfl, hc3⟩ := own_form ho; have B3 := Lib.hid (G2.out.grown hg G2.out.size (fun j ej => own_base O0.out ej)); have O3 := Lib.hid ho; clear ho hg he O0)
  clear e1 e2 e3 e4 c0 c1 hw1 hw2
  go_loopw [9, 11] (fun p o wr => ∃ (i ca : Nat) (Aa : Option Addr), i ≤ k ∧ o = .int .i64 (i : Int) ∧ n + i ≤ ca ∧ p = .slice Aa (n + i) ca ∧ Hid (wr.ownsRow w1.heap.size 5 1 (.slice Aa (n + i) ca) (n + i) ((l ++ cyc (l.drop (l.length - D)) i).map byt)) ∧ Hid (Below w1.heap.size w1 wr)) (fun _ o _ => k - (intOf o).toNat)
  case atStart => exact ⟨0, c3, A3, Nat.zero_le _, rfl, hc3, rfl, Lib.hid (by simpa [cyc] using O3.out), B3⟩
  case round =>
    obtain ⟨i, ca, Aa, hi, rfl, hca, rfl, HO, HB⟩ := hrel
    by_cases hlt : i < k
    · obtain ⟨b, hb1, hb2⟩ := cyc_next (l := l) (D := D) (i := i) hD1 (by rw [HN.out]; exact hD)
      obtain ⟨jd, hjd⟩ : ∃ jd, n + i - D = jd := ⟨_, rfl⟩
      rw [show l.length + i - D = jd by rw [HN.out]; exact hjd] at hb1
      obtain ⟨ad, rfl, hc⟩ := Rv.of_own HO.out jd (byt b) (by rw [List.getElem?_map, hb1]; rfl)
      have H2 := Lib.hid hb2
      have hx : (n : Int) + (i : Int) - (D : Int) = (jd : Int) := by omega
      have y1 : jd < n + i := by omega
      obtain ⟨wl, hwl⟩ : ∃ wl, wr.alloc (.cells #[byt b] 5) = wl := ⟨_, rfl⟩
      have gl : Below wr.heap.size wr wl := by rw [← hwl]; exact lit_bel wr _
      have RL : Hid (Rd wl (some ⟨wr.heap.size, 0, none⟩) [b]) := Lib.hid (by rw [← hwl]; exact lit_rv wr ([b].map byt) 5)
      have OL := Lib.hid (own_below HO.out gl)
      have BL := Lib.hid (below_on HB.out (Nat.le_refl _) gl)
      clear hb1 hb2 gl hjd
      go_wp2_with (at_builtin; refine wpList_append_vals Tryd.underlying22 byte_info rfl rfl _ _ rfl w1.heap.size (.slice (some ad) (n + i) ca) (n + i) ((l ++ cyc (l.drop (l.length - D)) i).map byt) rfl OL.out (some ⟨wr.heap.size, 0, none⟩) ([b].map byt) (byt_one [b]) 1 1 rfl rfl RL.out (by omega) (by omega) BL.out.size ?_; intro v5 w5 ho hg he; rw [← List.map_append, List.append_assoc, ← H2.out] at ho; obtain ⟨A5, c5, rfl, hc5⟩ := own_form ho; have B5 := Lib.hid (BL.out.grown hg BL.out.size (fun j ej => own_base OL.out ej)); have O5 := Lib.hid ho; clear ho hg he)
      refine ⟨⟨i + 1, c5, A5, by omega, by simp, by omega, by rw [Nat.add_assoc], ?_, B5⟩, by simp [intOf]; omega⟩
      rw [← Nat.add_assoc]
      exact O5
    · obtain rfl : i = k := by omega
      have PW := Lib.hid (P1.out.same (HB.out.block _ P1.out.lt))
      have QW := Lib.hid (Q1.out.same (HB.out.block _ Q1.out.lt))
      have BW := Lib.hid (below_on G1.out (Nat.le_refl _) HB.out)
      have hws : w.heap.size + 2 ≤ wr.heap.size := by have := HB.out.size; omega
      obtain ⟨BB, hBB⟩ : ∃ BB, off Aa ca n = BB := ⟨_, rfl⟩
      obtain ⟨cb, hcb⟩ : ∃ cb, ca - n = cb := ⟨_, rfl⟩
      have s1 := fun W => slice_lo Aa (n + i) ca n (by omega) W
      have e5 : n + i - n = i := by omega
      simp only [hBB, hcb, e5] at s1
      have HO' := HO.out
      rw [HC.out] at HO'
      have RW : Hid (Rd wr BB C) := Lib.hid (by
        have h1 := off_rd (c := ca) (n := n) (Rv.of_own HO') (by rw [List.length_append, HN.out, ← HC.out, cyc_len]; exact hca)
        rw [hBB, show (l ++ C).drop n = C by rw [← HN.out]; simp] at h1
        exact h1)
      have BK : Hid (∀ ad, BB = some ad → w.heap.size + 2 ≤ ad.block) := Lib.hid fun ad e => by
        rw [← hBB] at e
        obtain ⟨ad0, e0, eb⟩ := off_block ad e
        have h3 := own_base HO' (g := ad0.block) (by rw [e0]; rfl)
        omega
      have HCl : C.length = i := by rw [← HC.out, cyc_len]
      have AD := Lib.hid (radd_any wr.drew lim t A l n c HN.out (by omega) (Rv.same (HR.out.below BW.out) (fun _ _ => rfl)) BB C i cb HCl (by omega) ht (Rv.same RW.out (fun _ _ => rfl)))
      clear HO' hBB hcb
      go_wp2_with fail
      refine wp_region_noPanic ?_
      refine wp_region_held_drew (S := fun W => W.cell? ⟨w.heap.size, 0, none⟩ = some (.int .i64 (lim : Int)) ∧ W.cell? ⟨w.heap.size, 1, none⟩ = some (.slice A n c) ∧ W.cell? ⟨w.heap.size, 2, none⟩ = some (.int .i64 (t : Int))) (by kernel_rfl) (by exact ⟨PW.out.c0, PW.out.c1, PW.out.c2⟩) (fun hHeld => ?_)
      refine wpAnyH_take (i := 0) (oi := { dst := some 50, op := Op.load 31 (Operand.tmp 3), type := 31, pos := "ref.go:57", after := #[], guard := none }) (v := ?_) rfl (by kernel_rfl) (by kernel_rfl) (by kernel_rfl) (fun _ _ _ h => h) (Or.inl ⟨by rfl, ?_⟩) (by assumption) ?_
      rotate_left
      · intro w hSw; (try dsimp only at hSw); go_simp; all_goals (with_reducible rfl)
      (try simp only [Act.put, List.setIfInBounds_toArray, List.set_cons_zero, List.set_cons_succ])
      refine wpAnyH_take (i := 1) (oi := { dst := some 51, op := Op.move (Operand.tmp 9), type := 22, pos := "ref.go:57", after := #[], guard := none }) (v := ?_) rfl (by kernel_rfl) (by kernel_rfl) (by kernel_rfl) (fun _ _ _ h => h) (Or.inl ⟨by rfl, ?_⟩) (by assumption) ?_
      rotate_left
      · intro w hSw; (try dsimp only at hSw); go_simp; all_goals (with_reducible rfl)
      (try simp only [Act.put, List.setIfInBounds_toArray, List.set_cons_zero, List.set_cons_succ])
      refine wpAnyH_take (i := 2) (oi := { dst := some 52, op := Op.move (Operand.tmp 10), type := 3, pos := "ref.go:57", after := #[], guard := none }) (v := ?_) rfl (by kernel_rfl) (by kernel_rfl) (by kernel_rfl) (fun _ _ _ h => h) (Or.inl ⟨by rfl, ?_⟩) (by assumption) ?_
      rotate_left
      · intro w hSw; (try dsimp only at hSw); go_simp; all_goals (with_reducible rfl)
      (try simp only [Act.put, List.setIfInBounds_toArray, List.set_cons_zero, List.set_cons_succ])
      refine wpAnyH_take (i := 3) (oi := { dst := some 53, op := Op.slice 22 (Operand.tmp 51) (some (Operand.tmp 52)) none none, type := 22, pos := "ref.go:57", after := #[{ on := 1, ground := Ground.data }, { on := 2, ground := Ground.data }], guard := none }) (v := ?_) rfl (by kernel_rfl) (by kernel_rfl) (by kernel_rfl) (fun _ _ _ h => h) (Or.inl ⟨by rfl, ?_⟩) (by assumption) ?_
      rotate_left
      · intro w hSw; (try dsimp only at hSw); go_simp; all_goals (with_reducible rfl)
      (try simp only [Act.put, List.setIfInBounds_toArray, List.set_cons_zero, List.set_cons_succ])
      refine wpAnyH_take (i := 5) (oi := { dst := some 55, op := Op.move (Operand.tmp 9), type := 22, pos := "ref.go:57", after := #[], guard := none }) (v := ?_) rfl (by kernel_rfl) (by kernel_rfl) (by kernel_rfl) (fun _ _ _ h => h) (Or.inl ⟨by rfl, ?_⟩) (by assumption) ?_
      rotate_left
      · intro w hSw; (try dsimp only at hSw); go_simp; all_goals (with_reducible rfl)
      (try simp only [Act.put, List.setIfInBounds_toArray, List.set_cons_zero, List.set_cons_succ])
      refine wpAnyH_take (i := 6) (oi := { dst := some 56, op := Op.move (Operand.tmp 10), type := 3, pos := "ref.go:57", after := #[], guard := none }) (v := ?_) rfl (by kernel_rfl) (by kernel_rfl) (by kernel_rfl) (fun _ _ _ h => h) (Or.inl ⟨by rfl, ?_⟩) (by assumption) ?_
      rotate_left
      · intro w hSw; (try dsimp only at hSw); go_simp; all_goals (with_reducible rfl)
      (try simp only [Act.put, List.setIfInBounds_toArray, List.set_cons_zero, List.set_cons_succ])
      refine wpAnyH_take (i := 7) (oi := { dst := some 57, op := Op.slice 22 (Operand.tmp 55) (some (Operand.tmp 56)) none none, type := 22, pos := "ref.go:57", after := #[{ on := 5, ground := Ground.data }, { on := 6, ground := Ground.data }], guard := none }) (v := ?_) rfl (by kernel_rfl) (by kernel_rfl) (by kernel_rfl) (fun _ _ _ h => h) (Or.inl ⟨by rfl, ?_⟩) (by assumption) ?_
      rotate_left
      · intro w hSw; (try dsimp only at hSw); go_simp; all_goals (with_reducible rfl)
      (try simp only [Act.put, List.setIfInBounds_toArray, List.set_cons_zero, List.set_cons_succ])
      refine wpAnyH_ready (rs := [4]) (by kernel_rfl) (by simp) ?_
      refine AllReadyH.cons (o := { dst := some 54, op := Op.call { callee := Callee.value (Operand.func 19), args := #[Operand.tmp 50, Operand.tmp 53], argTypes := #[31, 22] }, type := 31, pos := "ref.go:57", after := #[{ on := 0, ground := Ground.data }, { on := 3, ground := Ground.data }], guard := none }) rfl (fun K hK => ?_) AllReadyH.nil
      go_simp
      refine AD.out.mono ?_
      rintro e w7 ⟨A', n', c', rfl, hp7⟩
      have p7 := PW.out.same (hp7.2.2.2.1.block _ PW.out.lt)
      have q7 := QW.out.same (hp7.2.2.2.1.block _ QW.out.lt)
      have d0 := q7.c0
      have f0 := q7.free 0
      obtain ⟨Wa, hWa⟩ : ∃ Wa, w7.setCell ⟨w.heap.size + 1, 0, none⟩ (.int .i64 (lim : Int)) = Wa := ⟨_, rfl⟩
      have qa : Cb Wa (w.heap.size + 1) lim none 0 0 0 := by rw [← hWa]; exact q7.set0 lim
      have d1 := qa.c1
      have f1 := qa.free 1
      obtain ⟨Wb, hWb⟩ : ∃ Wb, Wa.setCell ⟨w.heap.size + 1, 1, none⟩ (.slice A' n' c') = Wb := ⟨_, rfl⟩
      have qb : Cb Wb (w.heap.size + 1) lim A' n' c' 0 := by rw [← hWb]; exact qa.set1 A' n' c'
      have d2 := qb.c2
      have f2 := qb.free 2
      obtain ⟨Wc, hWc⟩ : ∃ Wc, Wb.setCell ⟨w.heap.size + 1, 2, none⟩ (.int .i64 ((t + i : Nat) : Int)) = Wc := ⟨_, rfl⟩
      have hWc' : Wb.setCell ⟨w.heap.size + 1, 2, none⟩ (.int .i64 ((t : Int) + (i : Int))) = Wc := hWc
      have qc : Cb Wc (w.heap.size + 1) lim A' n' c' (t + i) := by rw [← hWc]; exact qb.set2 (t + i)
      have FN := Lib.hid (rff_fin (wr := wr) BW.out hws hp7 (by rw [hWa, hWb, hWc] : ((w7.setCell ⟨w.heap.size + 1, 0, none⟩ (.int .i64 (lim : Int))).setCell ⟨w.heap.size + 1, 1, none⟩ (.slice A' n' c')).setCell ⟨w.heap.size + 1, 2, none⟩ (.int .i64 ((t + i : Nat) : Int)) = Wc) RW.out BK.out)
      have pc : Cb Wc w.heap.size lim A n c t := by rw [← hWc, ← hWb, ← hWa]; exact ((p7.same (Below.heap_setCell _ _ _ _ (by simp))).same (Below.heap_setCell _ _ _ _ (by simp))).same (Below.heap_setCell _ _ _ _ (by simp))
      have P7 := Lib.hid p7
      have PC := Lib.hid pc
      have QC := Lib.hid qc
      clear p7 q7 qa qb qc pc hWc hp7
      go_wp2_with fail
      refine hK.out _ _ (by exact ⟨P7.out.c0, P7.out.c1, P7.out.c2⟩) (fun hHeld => ?_)
      clear hK K
      (try simp only [Act.put, List.setIfInBounds_toArray, List.set_cons_zero, List.set_cons_succ])
      refine wpAnyH_ready (rs := [8]) (by kernel_rfl) (by simp) ?_
      refine AllReadyH.cons (o := { dst := none, op := Op.store 31 (Operand.tmp 6) (Operand.tmp 54), type := 0, pos := "ref.go:57", after := #[{ on := 4, ground := Ground.data }, { on := 4, ground := Ground.chain }, { on := 0, ground := Ground.phase }, { on := 1, ground := Ground.phase }, { on := 2, ground := Ground.phase }, { on := 3, ground := Ground.phase }, { on := 4, ground := Ground.phase }, { on := 5, ground := Ground.textOnly Departure.lateStores }, { on := 6, ground := Ground.textOnly Departure.lateStores }, { on := 7, ground := Ground.textOnly Departure.lateStoresUnsure }], guard := none }) rfl (fun K hK => ?_) AllReadyH.nil
      go_simp
      refine hK.out _ _ (by exact ⟨PC.out.c0, PC.out.c1, PC.out.c2⟩) (fun hHeld => ?_)
      clear hK K
      (try simp only [Act.put, List.setIfInBounds_toArray, List.set_cons_zero, List.set_cons_succ])
      refine wpAnyH_take (i := 9) (oi := { dst := some 7, op := Op.assign (Operand.tmp 57), type := 22, pos := "ref.go:57", after := #[{ on := 7, ground := Ground.data }, { on := 8, ground := Ground.chain }, { on := 0, ground := Ground.phase }, { on := 1, ground := Ground.phase }, { on := 2, ground := Ground.phase }, { on := 3, ground := Ground.phase }, { on := 4, ground := Ground.phase }, { on := 5, ground := Ground.phase }, { on := 6, ground := Ground.phase }, { on := 7, ground := Ground.phase }, { on := 8, ground := Ground.phase }], guard := none }) (v := ?_) rfl (by kernel_rfl) (by kernel_rfl) (by kernel_rfl) (fun _ _ _ h => h) (Or.inl ⟨by rfl, ?_⟩) (by assumption) ?_
      rotate_left
      · intro w hSw; (try dsimp only at hSw); go_simp; all_goals (with_reducible rfl)
      (try simp only [Act.put, List.setIfInBounds_toArray, List.set_cons_zero, List.set_cons_succ])
      refine wpAnyH_take (i := 10) (oi := { dst := some 8, op := Op.assign (Operand.const (Value.int IntKind.i64 0)), type := 3, pos := "ref.go:57", after := #[{ on := 9, ground := Ground.chain }, { on := 0, ground := Ground.phase }, { on := 1, ground := Ground.phase }, { on := 2, ground := Ground.phase }, { on := 3, ground := Ground.phase }, { on := 4, ground := Ground.phase }, { on := 5, ground := Ground.phase }, { on := 6, ground := Ground.phase }, { on := 7, ground := Ground.phase }, { on := 8, ground := Ground.phase }, { on := 9, ground := Ground.phase }], guard := none }) (v := ?_) rfl (by kernel_rfl) (by kernel_rfl) (by kernel_rfl) (fun _ _ _ h => h) (Or.inl ⟨by rfl, ?_⟩) (by assumption) ?_
      rotate_left
      · intro w hSw; (try dsimp only at hSw); go_simp; all_goals (with_reducible rfl)
      (try simp only [Act.put, List.setIfInBounds_toArray, List.set_cons_zero, List.set_cons_succ])
      refine wpAnyH_done (by kernel_rfl) ?_ _
      refine NoPanic.normal ?_
      go_wp2
      refine bodyPost_ret (results_cell3 rfl rfl QC.out.load) rfl ?_
      exact ⟨A', n', c', BB, cb, rfl, FN.out⟩

end Go.Proofs.YteogpmapbeogpaaDoor
