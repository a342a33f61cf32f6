/-
  What the function that cells.builder returns does: it makes the cell of the next state of a symbol and counts it in the map. Only the map and new memory change. Conditions: the table is valid, the symbol has a state left.
-/
import Derived.Deep.RegionHeld3
import Derived.StillTailTactics
import Derived.Test.YtonapehlhkoplaaBld
namespace Go.Proofs.Ytonapehlhkoplaa
open Go.RowKit Go.Shelf Go.Maps

theorem shl_wrap {X B D P : Nat} (hD : 2 ^ B = D) (hP : X * D = P) (h : P ≤ 1000000) : wrap64 ((X : Int) * 2 ^ B) = (P : Int) := by
  have e : (X : Int) * 2 ^ B = (P : Int) := by rw [← hP, ← hD, Int.natCast_mul, Int.natCast_pow]; rfl
  rw [e]
  unfold wrap64
  omega

theorem sub_wrap {U S P : Nat} (h : U + S = P) (hP : P ≤ 1000000) : wrap64 ((P : Int) - (S : Int)) = (U : Int) := by
  unfold wrap64
  omega

set_option maxRecDepth 100000 in
set_option maxHeartbeats 2000000 in
theorem builder1_any (w : World) (bt bm b nn y : Nat) (A : Option Addr) (N c : Nat) (m : Nat → Option Nat) (l : List Int) (x k n X : Nat) (z : Int) (hB : Bld w bt bm b nn (y : Int) A N c m) (hR : Ri w A l) (hA : ∀ ad, A = some ad → ad.block ≠ b) (hnn : nn ≤ 1000) (hN : l.length = N) (hN2 : N ≤ 256) (hy : y ≤ 9) (hx : l[x]? = some z) (hz : -1 ≤ z) (hn : sts z = (n : Int)) (hk : (m x).getD 0 = k) (hX : n + k = X) (hM : Num y n X) :
    Calls Try.prog 49 #[.int .i64 (x : Int), .pointer (some ⟨bt, 0, none⟩), .pointer (some ⟨bm, 0, none⟩)] w fun e w' => e = .returned (cev x (bts y X) (bse y X)) ∧ Bld w' bt bm b (nn + 1) (y : Int) A N c (upd m x (k + 1)) ∧ Chg (fun q => q = b) w w' := by
  have hxN : x < N := by rw [← hN]; exact (List.getElem?_eq_some_iff.1 hx).1
  obtain ⟨ad, rfl, hcz⟩ := hR x (iv z) (by rw [List.getElem?_map, hx]; rfl)
  have hy5 := pow_le hy
  obtain ⟨B, hBe⟩ : ∃ B, bts y X = B := ⟨_, rfl⟩
  obtain ⟨S, hSe⟩ : ∃ S, 2 ^ y = S := ⟨_, rfl⟩
  obtain ⟨D, hDe⟩ : ∃ D, 2 ^ B = D := ⟨_, rfl⟩
  obtain ⟨U, hUe⟩ : ∃ U, bse y X = U := ⟨_, rfl⟩
  obtain ⟨G, hGe⟩ : ∃ G, X.log2 = G := ⟨_, rfl⟩
  obtain ⟨P, hPe⟩ : ∃ P, X * D = P := ⟨_, rfl⟩
  have h1 := hM.base
  have h2 := hM.log
  have h3 := hM.high
  have h4 := hM.pos
  have h5 := hM.lo
  have h6 := hM.hi
  have h7 := hM.le
  have hBG : y - G = B := by rw [← hBe, ← hGe]; rfl
  rw [hBe, hDe, hSe] at h3
  rw [hBe, hDe, hSe, hUe, hPe] at h1
  rw [Nat.add_mul, Nat.one_mul, hPe] at h3
  rw [hGe] at h2
  rw [hSe] at h7 hy5
  rw [hBe, hUe]
  have hn0 : -1 ≤ z ∧ z ≤ 512 := by unfold sts at hn; split at hn <;> omega
  have HS1 : Hid (wrap64 ((X : Int) * 2 ^ B) = (P : Int)) := Lib.hid (shl_wrap hDe hPe (by omega))
  have HS2 : Hid (wrap64 (2 ^ y) = (S : Int)) := Lib.hid (pow_wrap hSe hy5)
  have q1 := Ce.new w 0 0 0
  have g1 : Below w.heap.size w (w.alloc (.cells #[.int .i64 0, .int .i64 0, .int .i64 0] 35)) := (Below.refl _ w).alloc (Nat.le_refl _) _
  obtain ⟨w1, hw1⟩ : ∃ w1, w.alloc (.cells #[.int .i64 0, .int .i64 0, .int .i64 0] 35) = w1 := ⟨_, rfl⟩
  rw [hw1] at q1 g1
  have B1 := hB.below g1
  have t1 := B1.tab
  have c1 := t1.c1
  have c1' : w1.drew.cell? ⟨bt, 1, none⟩ = some (.slice (some ad) N c) := c1
  have cm := B1.box.cell
  have cm' : w1.drew.cell? ⟨bm, 0, none⟩ = some (.map (some b)) := cm
  have cz : w1.cell? (ad.add x) = some (.int .i64 z) := by
    obtain ⟨ad', e, h⟩ := (hR.below g1) x (iv z) (by rw [List.getElem?_map, hx]; rfl)
    injection e with e
    rw [e]; exact h
  have cz' : w1.drew.cell? (ad.add x) = some (.int .i64 z) := cz
  have lk := B1.mp.look2 (i := x) (by omega)
  have lk' := (B1.mp.same (w' := w1.drew) rfl).look2 (i := x) (by omega)
  rw [hk] at lk lk'
  obtain ⟨w3, hst, hm3, hg3⟩ := Mp.store2 (w := w1.drew) (B1.mp.same (w' := w1.drew) rfl) (i := x) (x := k + 1) (by omega) (by omega) (by omega)
  have hst' : (Instr.mapUpdate TM (.map (some b)) (.int .i64 (x : Int)) (.int .i64 ((k : Int) + 1))).run Try.prog w1.drew = .ok () w3 := by simpa using hst
  have keep : ∀ q, q < w1.heap.size → q ≠ b → w3.heap[q]? = w1.heap[q]? := fun q hq hn => hg3.block q hq (fun e => hn (Option.some.inj e))
  have B3 : Bld w3 bt bm b (nn + 1) (y : Int) (some ad) N c (upd m x (k + 1)) := ⟨t1.same (keep _ t1.lt B1.apart.1), (keep _ B1.box.lt B1.apart.2).trans B1.box, hm3, B1.apart⟩
  have hbw : b < w.heap.size := hB.mp.lt
  have q3 : Ce w3 w.heap.size 0 0 0 := q1.same (keep _ q1.lt (by omega))
  have C3 : Chg (fun q => q = b) w w3 := ⟨hg3.os.trans g1.os, hg3.tape.trans g1.tape, hg3.output.trans g1.output, Nat.le_trans g1.size hg3.size, fun q hq hn => (keep q (by have := g1.size; omega) hn).trans (g1.block q hq)⟩
  have d0 := B3.tab.c0
  have d0' : w3.drew.cell? ⟨bt, 0, none⟩ = some (.int .i64 (y : Int)) := d0
  have a1 := hB.tab.lt
  have a2 := hB.box.lt
  have HF : Hid (Ce w3 w.heap.size 0 0 0 ∧ Bld w3 bt bm b (nn + 1) (y : Int) (some ad) N c (upd m x (k + 1)) ∧ Chg (fun q => q = b) w w3 ∧ bt < w.heap.size ∧ bm < w.heap.size ∧ b < w.heap.size) := Lib.hid ⟨q3, B3, C3, a1, a2, hbw⟩
  have SA : Hid (∀ W, Calls Try.prog 50 #[.int .i64 z] W fun e w' => e = .returned (.int .i64 (n : Int)) ∧ w' = W) := Lib.hid (fun W => by
    have := states_any W z hz (by omega)
    rwa [hn] at this)
  have FL : Hid (∀ W, Calls Try.prog 51 #[.int .i64 (X : Int)] W fun e w' => e = .returned (.int .i64 (G : Int)) ∧ w' = W) := Lib.hid (fun W => by
    have := floor_any W X (by omega) (by omega)
    rwa [hGe] at this)
  have wx : IntKind.i64.wrap (x : Int) = (x : Int) := IntWalk.i64_in _ (by omega)
  have eX : (n : Int) + (k : Int) = (X : Int) := by omega
  have eB : (y : Int) - (G : Int) = (B : Int) := by omega
  have kB : decide ((B : Int) < 0) = false := decide_eq_false (by omega)
  have ky : decide ((y : Int) < 0) = false := decide_eq_false (by omega)
  have hB64 : B ≤ 9 := by omega
  have wX : IntKind.i64.wrap (X : Int) = (X : Int) := IntWalk.i64_in _ (by omega)
  clear hR hx hz hn hk hM hA hB hGe hUe hBe q1 g1 B1 t1 hm3 hg3 keep B3 q3 C3 hst hSe hDe hPe a1 a2 hbw
  have hmx : Try.prog.follows .mixedOrders = true := by kernel_rfl
  go_enter Try.func49, Try.ntmps49
  go_wp2
  go_region_held3 (fun W => W.cell? ⟨bt, 1, none⟩ = some (.slice (some ad) N c) ∧ W.cell? ⟨bm, 0, none⟩ = some (.map (some b)) ∧ W.cell? (ad.add x) = some (.int .i64 z) ∧ (Instr.lookup TM (.map (some b)) (.int .i64 (x : Int)) false).run Try.prog W = .ok (.int .i64 (k : Int)) W) (first | exact ⟨c1', cm', cz', lk'⟩) (first
    | (go_at_call 50; refine (SA.out _).mono ?_; rintro e w' ⟨rfl, rfl⟩))
  all_goals
    go_wp2
    go_quiet ((go_at_call 51; exact Calls.quiet_of_same (FL.out _)))
    go_wp2
    refine wp_region_still_tail 10 hmx (by kernel_rfl) ?_
    simp only [List.take_succ_cons, List.take_zero, List.drop_succ_cons, List.drop_zero]
    obtain ⟨W4, hW4⟩ : ∃ W4 : World, { heap := (w3.drewN nq).heap, tape := (w3.drewN nq).tape, drawn := (w3.drewN nq).drawn + 1, os := (w3.drewN nq).os, output := (w3.drewN nq).output } = W4 := ⟨_, rfl⟩
    rw [hW4]
    have hh : W4.heap = w3.heap := by rw [← hW4]; rfl
    have ho : W4.os = w3.os ∧ W4.tape = w3.tape ∧ W4.output = w3.output := by rw [← hW4]; exact ⟨rfl, rfl, rfl⟩
    clear hW4 d0 d0'
    obtain ⟨q3, B3, C3, a1, a2, a3⟩ := HF.out
    have d0 := (B3.tab.same (W' := W4) (by rw [hh])).c0
    have q4 : Ce W4 w.heap.size 0 0 0 := q3.same (by rw [hh])
    have e0 := q4.c0
    have f0 := q4.free 0
    obtain ⟨Wa, hWa⟩ : ∃ Wa, W4.setCell ⟨w.heap.size, 0, none⟩ (.int .i64 (x : Int)) = Wa := ⟨_, rfl⟩
    have qa : Ce Wa w.heap.size x 0 0 := by rw [← hWa]; exact q4.set0 _
    have e1 := qa.c1
    have f1 := qa.free 1
    obtain ⟨Wb, hWb⟩ : ∃ Wb, Wa.setCell ⟨w.heap.size, 1, none⟩ (.int .i64 (B : Int)) = Wb := ⟨_, rfl⟩
    have qb : Ce Wb w.heap.size x B 0 := by rw [← hWb]; exact qa.set1 _
    have e2 := qb.c2
    have f2 := qb.free 2
    have FN : Hid (∀ E : Int, Ce (Wb.setCell ⟨w.heap.size, 2, none⟩ (.int .i64 E)) w.heap.size x B E ∧ Bld (Wb.setCell ⟨w.heap.size, 2, none⟩ (.int .i64 E)) bt bm b (nn + 1) (y : Int) (some ad) N c (upd m x (k + 1)) ∧ Chg (fun q => q = b) w (Wb.setCell ⟨w.heap.size, 2, none⟩ (.int .i64 E))) := Lib.hid (fun E => by
      have hq : ∀ q, q ≠ w.heap.size → (Wb.setCell ⟨w.heap.size, 2, none⟩ (.int .i64 E)).heap[q]? = w3.heap[q]? := fun q hq => by
        rw [Below.heap_setCell _ _ _ _ hq, ← hWb, Below.heap_setCell _ _ _ _ hq, ← hWa, Below.heap_setCell _ _ _ _ hq, hh]
      refine ⟨qb.set2 _, B3.same (fun q e => hq q ?_), ?_⟩
      · rcases e with rfl | rfl | rfl
        · exact Nat.ne_of_lt a1
        · exact Nat.ne_of_lt a2
        · exact Nat.ne_of_lt a3
      · have hC : Chg (fun q => q = b) w W4 := ⟨ho.1.trans C3.os, ho.2.1.trans C3.tape, ho.2.2.trans C3.output, by rw [hh]; exact C3.size, fun q hq hn => by rw [hh]; exact C3.block q hq hn⟩
        refine ⟨?_, ?_, ?_, ?_, fun q hq2 hn => (hq q (Nat.ne_of_lt hq2)).trans (C3.block q hq2 hn)⟩
        · rw [← hWb, ← hWa]; exact hC.os
        · rw [← hWb, ← hWa]; exact hC.tape
        · rw [← hWb, ← hWa]; exact hC.output
        · rw [← hWb, ← hWa]; simpa [World.setCell] using hC.size)
    clear q3 B3 C3 a1 a2 a3 q4 qa qb hh ho HF
    repeat still_step
    refine wpStill_nil ?_
    go_wp2
    refine bodyPost_ret (results_cell rfl rfl (FN.out _).1.load) rfl ?_
    refine ⟨?_, (FN.out _).2⟩
    rw [HS1.out, HS2.out, sub_wrap h1 (by omega)]

end Go.Proofs.Ytonapehlhkoplaa
