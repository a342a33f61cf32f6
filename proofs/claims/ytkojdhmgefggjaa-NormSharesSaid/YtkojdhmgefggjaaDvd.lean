/-
  What norm.divide does: it gives every used symbol its share, rounded down, but never below 1, in new memory. Nothing that was there has changed. Condition: the counts are valid; at most 512 states and as many used symbols.
-/
import Derived.Test.YtkojdhmgefggjaaDiv
namespace Go.Proofs.Ytkojdhmgefggjaa
open Go.RowKit

set_option maxRecDepth 100000 in
set_option maxHeartbeats 1000000 in
theorem divide_any (w : World) (A : Option Addr) (k : List Nat) (N c T s : Nat) (hN : k.length = N) (hb : N ≤ 1000000000) (hT : tot k = T) (hT0 : 0 < T) (hTb : T ≤ 1099511627776) (hs : s ≤ 512) (hu : nus k ≤ s) (hR : Rn w A k) :
    Calls Try.prog 27 #[.slice A N c, .int .i64 (T : Int), .int .i64 (s : Int)] w fun e w' => ∃ v, e = .returned (.pointer (some ⟨w.heap.size, 0, none⟩)) ∧ Dv w' w.heap.size w.heap.size v (usy k) (shr k s) (st0 k s) T (lft k s) ∧ Below w.heap.size w w' := by
  have HN := Lib.hid hN
  have HT := Lib.hid hT
  have HU := Lib.hid hu
  have HRD := Lib.hid hR
  have D0 : Hid (Dv (w.alloc (.cells #[.slice none 0 0, .int .i64 (T : Int), .int .i64 (s : Int)] 52)) w.heap.size w.heap.size (.slice none 0 0) (usi k 0) (shr k s) (st0 k s) T ((s : Int) - sm (st0 k s) (usi k 0))) :=
    Lib.hid ⟨by rw [World.alloc_heap_new]; simp [usi, sm], World.ownsRow_nil _ _ _ _, Nat.le_refl _, by simp [Value.ownBlock]⟩
  have B0 : Hid (Below w.heap.size w (w.alloc (.cells #[.slice none 0 0, .int .i64 (T : Int), .int .i64 (s : Int)] 52))) := Lib.hid ((Below.refl _ w).alloc (Nat.le_refl _) _)
  obtain ⟨i0, hi0, hz0, hz1, hz2⟩ := info_parts por_info
  have HI := Lib.hid (And.intro hi0 (And.intro hz0 (And.intro hz1 hz2)))
  clear hN hT hR hu hi0 hz0 hz1 hz2
  go_enter Try.func27, Try.ntmps27
  go_wp2
  go_loopw [18] (fun p wr => ∃ i : Nat, i ≤ N ∧ p = .int .i64 (i : Int) ∧ Hid (∃ v, Dv wr w.heap.size w.heap.size v (usi k i) (shr k s) (st0 k s) T ((s : Int) - sm (st0 k s) (usi k i))) ∧ Hid (Below w.heap.size w wr)) (fun p _ => N - (intOf p).toNat)
  case atStart => exact ⟨0, Nat.zero_le _, rfl, Lib.hid ⟨_, D0.out⟩, B0⟩
  case round =>
    obtain ⟨i, hi, rfl, HD, HB⟩ := hrel
    clear D0 B0
    by_cases hlt : i < N
    · obtain ⟨x, hx⟩ : ∃ x, k[i]? = some x := ⟨_, List.getElem?_eq_getElem (by rw [HN.out]; exact hlt)⟩
      obtain ⟨ad, rfl, hc⟩ := HRD.out i (nv x) (by rw [List.getElem?_map, hx]; rfl)
      have hc2 := (HB.out.cell (cell_lt hc)).trans hc
      simp only [nv] at hc2
      have hcn : cn k i = x := by unfold cn; rw [hx]; rfl
      have hus := usi_succ k i
      rw [hcn] at hus
      clear hc
      by_cases hx0 : x = 0
      · subst hx0
        simp only [Int.natCast_zero] at hc2
        have HUS : Hid (usi k (i + 1) = usi k i) := Lib.hid (by rw [hus]; simp)
        clear hus hx hcn
        go_wp2
        exact ⟨⟨i + 1, by omega, by simp, by rw [HUS.out]; exact HD, HB⟩, by simp [intOf]; omega⟩
      · obtain ⟨v, hd⟩ := HD.out
        have hxT : x ≤ T := by rw [← HT.out, ← hcn]; exact cn_le i
        obtain ⟨X, hX⟩ : ∃ X, x * s = X := ⟨_, rfl⟩
        have hXb : X ≤ 562949953421312 := by rw [← hX]; exact Nat.mul_le_mul (show x ≤ 1099511627776 by omega) hs
        have e1 : (x : Int) * (s : Int) = (X : Int) := by rw [← hX]; exact (Int.natCast_mul x s).symm
        obtain ⟨Q, hQ⟩ : ∃ Q, X / T = Q := ⟨_, rfl⟩
        have hQb : Q ≤ 512 := by
          have h5 : X / T ≤ s := by
            rw [← hX]
            exact Nat.div_le_of_le_mul (Nat.mul_le_mul_right s hxT)
          omega
        have e2 : wrap64 ((X : Int) / (T : Int)) = (Q : Int) := by
          have : ((X : Int) / (T : Int)) = (Q : Int) := by rw [← hQ]; exact (Int.natCast_ediv X T).symm
          rw [this]; unfold wrap64; omega
        have hx1 : ((x : Int) == 0) = false := by simp; omega
        have HUS : Hid (usi k (i + 1) = usi k i ++ [i]) := Lib.hid (by rw [hus, if_pos (by omega)])
        have HSH : Hid (shr k s i = (X : Int)) := Lib.hid (by rw [shr, hcn, hX])
        have HST : Hid (st0 k s i = ((max 1 Q : Nat) : Int)) := Lib.hid (by rw [st0, hcn, if_neg hx0, hX, HT.out, hQ])
        obtain ⟨n, hnn⟩ : ∃ n, (usi k i).length = n := ⟨_, rfl⟩
        have HNN := Lib.hid hnn
        have hnb : n ≤ 512 := by
          rw [← hnn, usi_len (by rw [HN.out]; omega)]
          have h7 := HU.out
          have h8 : nus k = nus (k.take i) + nus (k.drop i) := by rw [← nus_append, List.take_append_drop]
          omega
        obtain ⟨A', c', rfl, hcc⟩ := own_form3 hd.own
        rw [hnn] at hd hcc
        have hlf : -262144 ≤ (s : Int) - sm (st0 k s) (usi k i) ∧ (s : Int) - sm (st0 k s) (usi k i) ≤ 512 := by
          have h9 := sm_bound (st := st0 k s) (M := 512) (U := usi k i) (fun j _ => st0_bd k hs j)
          rw [hnn] at h9
          omega
        obtain ⟨LF, hLF⟩ : ∃ LF, (s : Int) - sm (st0 k s) (usi k i) = LF := ⟨_, rfl⟩
        rw [hLF] at hd hlf
        have HDV := Lib.hid hd
        clear hus hx hcn hX hQ hx0 hd HD hnn
        by_cases hq : 1 < Q
        · have HM : Hid (st0 k s i = (Q : Int)) := Lib.hid (by rw [HST.out]; omega)
          clear HST
          go_wp2
          have P0 : Hid ((wr.alloc (Obj.cells #[Value.int .i64 (i : Int), Value.int .i64 (X : Int), Value.int .i64 (Q : Int)] 54)).heap[wr.heap.size]? = some (.cells #[Value.int .i64 (i : Int), Value.int .i64 (X : Int), Value.int .i64 (Q : Int)] 54 (0, 0))) := Lib.hid (World.alloc_heap_new wr _)
          have P1 : Hid (Below wr.heap.size wr (wr.alloc (Obj.cells #[Value.int .i64 (i : Int), Value.int .i64 (X : Int), Value.int .i64 (Q : Int)] 54))) := Lib.hid ((Below.refl _ wr).alloc (Nat.le_refl _) _)
          have P2 : Hid ((wr.alloc (Obj.cells #[Value.int .i64 (i : Int), Value.int .i64 (X : Int), Value.int .i64 (Q : Int)] 54)).heap.size = wr.heap.size + 1) := Lib.hid (World.size_alloc _ _)
          generalize wr.alloc (Obj.cells #[Value.int .i64 (i : Int), Value.int .i64 (X : Int), Value.int .i64 (Q : Int)] 54) = w1 at P0 P1 P2 ⊢
          have d1 := HDV.out.below P1.out
          have c0 := d1.c0
          have p0 : w1.cell? ⟨wr.heap.size, 0, none⟩ = some (.int .i64 (i : Int)) := by rw [cell_of_row _ _ 0 _ _ _ P0.out]; rfl
          have p1 : w1.cell? ⟨wr.heap.size, 1, none⟩ = some (.int .i64 (X : Int)) := by rw [cell_of_row _ _ 1 _ _ _ P0.out]; rfl
          have p2 : w1.cell? ⟨wr.heap.size, 2, none⟩ = some (.int .i64 (Q : Int)) := by rw [cell_of_row _ _ 2 _ _ _ P0.out]; rfl
          have L0 : Hid ((w1.alloc (Obj.cells #[Value.int .i64 (i : Int), Value.int .i64 (X : Int), Value.int .i64 (Q : Int)] 54)).heap[w1.heap.size]? = some (.cells #[Value.int .i64 (i : Int), Value.int .i64 (X : Int), Value.int .i64 (Q : Int)] 54 (0, 0))) := Lib.hid (World.alloc_heap_new w1 _)
          have L1 : Hid (Below w1.heap.size w1 (w1.alloc (Obj.cells #[Value.int .i64 (i : Int), Value.int .i64 (X : Int), Value.int .i64 (Q : Int)] 54))) := Lib.hid ((Below.refl _ w1).alloc (Nat.le_refl _) _)
          have L2 : Hid ((w1.alloc (Obj.cells #[Value.int .i64 (i : Int), Value.int .i64 (X : Int), Value.int .i64 (Q : Int)] 54)).ownsRow w.heap.size 54 3 (.slice A' n c') n (flat (usi k i) (shr k s) (st0 k s))) := Lib.hid (by have := (d1.below L1.out).own; rwa [HNN.out] at this)
          have L3 : Hid (w.heap.size ≤ (w1.alloc (Obj.cells #[Value.int .i64 (i : Int), Value.int .i64 (X : Int), Value.int .i64 (Q : Int)] 54)).heap.size) := Lib.hid (by rw [World.size_alloc, P2.out]; have := HB.out.size; omega)
          have L4 : Hid ((w1.alloc (Obj.cells #[Value.int .i64 (i : Int), Value.int .i64 (X : Int), Value.int .i64 (Q : Int)] 54)).heap[wr.heap.size]? = some (.cells #[Value.int .i64 (i : Int), Value.int .i64 (X : Int), Value.int .i64 (Q : Int)] 54 (0, 0))) := Lib.hid ((L1.out.block _ (by rw [P2.out]; omega)).trans P0.out)
          have L5 := Lib.hid (below_on P1.out (Nat.le_refl _) L1.out)
          have ca : (w1.alloc (Obj.cells #[Value.int .i64 (i : Int), Value.int .i64 (X : Int), Value.int .i64 (Q : Int)] 54)).cell? ⟨w.heap.size, 0, none⟩ = some (.slice A' n c') := (d1.below L1.out).c0
          clear d1
          go_region_law (refine step_append_lies _ rfl (.tmp 39) (.tmp 41) 50 rfl w.heap.size 54 i0 (.agg #[.int .i64 0, .int .i64 0, .int .i64 0]) 3 24 und_pl HI.out.1 HI.out.2.1 HI.out.2.2.1 HI.out.2.2.2 rfl (by decide) (.slice A' n c') n (flat (usi k i) (shr k s) (st0 k s)) (by simp [Act.eval]) L2.out ⟨w1.heap.size, 0, none⟩ 1 1 [.int .i64 (i : Int), .int .i64 (X : Int), .int .i64 (Q : Int)] (by simp [Act.eval]) rfl (World.news_of_block L0.out) (by simp [Value.oneCell']) (by decide) (by unfold maxLen; omega) (by omega) L3.out (w1.heap.size + 1) (by simp) ?_; intro g cap w5 ho5 hg5 hlie _; have H5 := Lib.hid (dv_app HDV.out L5.out HNN.out HSH.out HM.out ho5 ⟨hg5.os, hg5.tape, hg5.output, hg5.size, hg5.block⟩ (by rw [World.size_alloc]; exact hlie) L4.out (Nat.le_refl _)); have c5 : w5.cell? ⟨w.heap.size, 0, none⟩ = some (.slice A' n c') := (by rw [cell_of_row _ _ 0 _ _ _ H5.out.1]; rfl); have f5 : w5.frozen? ⟨w.heap.size, 0, none⟩ = false := (by simp [World.frozen?, H5.out.1]); clear ho5 hg5 hlie)
          all_goals
            obtain ⟨_, hd6, hq6, hb6⟩ := H5.out
            generalize w5.setCell ⟨w.heap.size, 0, none⟩ (Value.slice (some ⟨g, 0, none⟩) (n + 1) cap) = w6 at hd6 hq6 hb6 ⊢
            have c6 := hd6.c2
            have f6 := hd6.free 2
            have q6 : w6.cell? ⟨wr.heap.size, 2, none⟩ = some (.int .i64 (Q : Int)) := by rw [cell_of_row _ _ 2 _ _ _ hq6]; rfl
            have HF : Hid ((s : Int) - sm (st0 k s) (usi k (i + 1)) = LF - (Q : Int)) := Lib.hid (by rw [HUS.out, sm_append, sm_cons, sm_nil, HM.out]; omega)
            have HD6 := Lib.hid hd6
            have HB6 := Lib.hid (HB.out.trans hb6)
            clear hd6 hq6 hb6 H5 L0 L1 L2 L3 L4 L5 P0 P1 P2 HM HDV HRD p0 p1 p2 c0 ca c5 f5 hLF
            go_wp2
            go_region
            all_goals
              go_wp2
              exact ⟨⟨i + 1, by omega, by simp, Lib.hid ⟨_, by rw [HF.out, HUS.out]; exact (HD6.out.set2 _).drew⟩, Lib.hid (HB6.out.setCell (p := ⟨w.heap.size, 2, none⟩) (Nat.le_refl _) _).drew⟩, by simp [intOf]; omega⟩

        · have HM : Hid (st0 k s i = 1) := Lib.hid (by rw [HST.out]; omega)
          clear HST
          go_wp2
          have P0 : Hid ((wr.alloc (Obj.cells #[Value.int .i64 (i : Int), Value.int .i64 (X : Int), Value.int .i64 1] 54)).heap[wr.heap.size]? = some (.cells #[Value.int .i64 (i : Int), Value.int .i64 (X : Int), Value.int .i64 1] 54 (0, 0))) := Lib.hid (World.alloc_heap_new wr _)
          have P1 : Hid (Below wr.heap.size wr (wr.alloc (Obj.cells #[Value.int .i64 (i : Int), Value.int .i64 (X : Int), Value.int .i64 1] 54))) := Lib.hid ((Below.refl _ wr).alloc (Nat.le_refl _) _)
          have P2 : Hid ((wr.alloc (Obj.cells #[Value.int .i64 (i : Int), Value.int .i64 (X : Int), Value.int .i64 1] 54)).heap.size = wr.heap.size + 1) := Lib.hid (World.size_alloc _ _)
          generalize wr.alloc (Obj.cells #[Value.int .i64 (i : Int), Value.int .i64 (X : Int), Value.int .i64 1] 54) = w1 at P0 P1 P2 ⊢
          have d1 := HDV.out.below P1.out
          have c0 := d1.c0
          have p0 : w1.cell? ⟨wr.heap.size, 0, none⟩ = some (.int .i64 (i : Int)) := by rw [cell_of_row _ _ 0 _ _ _ P0.out]; rfl
          have p1 : w1.cell? ⟨wr.heap.size, 1, none⟩ = some (.int .i64 (X : Int)) := by rw [cell_of_row _ _ 1 _ _ _ P0.out]; rfl
          have p2 : w1.cell? ⟨wr.heap.size, 2, none⟩ = some (.int .i64 1) := by rw [cell_of_row _ _ 2 _ _ _ P0.out]; rfl
          have L0 : Hid ((w1.alloc (Obj.cells #[Value.int .i64 (i : Int), Value.int .i64 (X : Int), Value.int .i64 1] 54)).heap[w1.heap.size]? = some (.cells #[Value.int .i64 (i : Int), Value.int .i64 (X : Int), Value.int .i64 1] 54 (0, 0))) := Lib.hid (World.alloc_heap_new w1 _)
          have L1 : Hid (Below w1.heap.size w1 (w1.alloc (Obj.cells #[Value.int .i64 (i : Int), Value.int .i64 (X : Int), Value.int .i64 1] 54))) := Lib.hid ((Below.refl _ w1).alloc (Nat.le_refl _) _)
          have L2 : Hid ((w1.alloc (Obj.cells #[Value.int .i64 (i : Int), Value.int .i64 (X : Int), Value.int .i64 1] 54)).ownsRow w.heap.size 54 3 (.slice A' n c') n (flat (usi k i) (shr k s) (st0 k s))) := Lib.hid (by have := (d1.below L1.out).own; rwa [HNN.out] at this)
          have L3 : Hid (w.heap.size ≤ (w1.alloc (Obj.cells #[Value.int .i64 (i : Int), Value.int .i64 (X : Int), Value.int .i64 1] 54)).heap.size) := Lib.hid (by rw [World.size_alloc, P2.out]; have := HB.out.size; omega)
          have L4 : Hid ((w1.alloc (Obj.cells #[Value.int .i64 (i : Int), Value.int .i64 (X : Int), Value.int .i64 1] 54)).heap[wr.heap.size]? = some (.cells #[Value.int .i64 (i : Int), Value.int .i64 (X : Int), Value.int .i64 1] 54 (0, 0))) := Lib.hid ((L1.out.block _ (by rw [P2.out]; omega)).trans P0.out)
          have L5 := Lib.hid (below_on P1.out (Nat.le_refl _) L1.out)
          have ca : (w1.alloc (Obj.cells #[Value.int .i64 (i : Int), Value.int .i64 (X : Int), Value.int .i64 1] 54)).cell? ⟨w.heap.size, 0, none⟩ = some (.slice A' n c') := (d1.below L1.out).c0
          clear d1
          go_region_law (refine step_append_lies _ rfl (.tmp 39) (.tmp 41) 50 rfl w.heap.size 54 i0 (.agg #[.int .i64 0, .int .i64 0, .int .i64 0]) 3 24 und_pl HI.out.1 HI.out.2.1 HI.out.2.2.1 HI.out.2.2.2 rfl (by decide) (.slice A' n c') n (flat (usi k i) (shr k s) (st0 k s)) (by simp [Act.eval]) L2.out ⟨w1.heap.size, 0, none⟩ 1 1 [.int .i64 (i : Int), .int .i64 (X : Int), .int .i64 1] (by simp [Act.eval]) rfl (World.news_of_block L0.out) (by simp [Value.oneCell']) (by decide) (by unfold maxLen; omega) (by omega) L3.out (w1.heap.size + 1) (by simp) ?_; intro g cap w5 ho5 hg5 hlie _; have H5 := Lib.hid (dv_app HDV.out L5.out HNN.out HSH.out HM.out ho5 ⟨hg5.os, hg5.tape, hg5.output, hg5.size, hg5.block⟩ (by rw [World.size_alloc]; exact hlie) L4.out (Nat.le_refl _)); have c5 : w5.cell? ⟨w.heap.size, 0, none⟩ = some (.slice A' n c') := (by rw [cell_of_row _ _ 0 _ _ _ H5.out.1]; rfl); have f5 : w5.frozen? ⟨w.heap.size, 0, none⟩ = false := (by simp [World.frozen?, H5.out.1]); clear ho5 hg5 hlie)
          all_goals
            obtain ⟨_, hd6, hq6, hb6⟩ := H5.out
            generalize w5.setCell ⟨w.heap.size, 0, none⟩ (Value.slice (some ⟨g, 0, none⟩) (n + 1) cap) = w6 at hd6 hq6 hb6 ⊢
            have c6 := hd6.c2
            have f6 := hd6.free 2
            have q6 : w6.cell? ⟨wr.heap.size, 2, none⟩ = some (.int .i64 1) := by rw [cell_of_row _ _ 2 _ _ _ hq6]; rfl
            have HF : Hid ((s : Int) - sm (st0 k s) (usi k (i + 1)) = LF - 1) := Lib.hid (by rw [HUS.out, sm_append, sm_cons, sm_nil, HM.out]; omega)
            have HD6 := Lib.hid hd6
            have HB6 := Lib.hid (HB.out.trans hb6)
            clear hd6 hq6 hb6 H5 L0 L1 L2 L3 L4 L5 P0 P1 P2 HM HDV HRD p0 p1 p2 c0 ca c5 f5 hLF
            go_wp2
            go_region
            all_goals
              go_wp2
              exact ⟨⟨i + 1, by omega, by simp, Lib.hid ⟨_, by rw [HF.out, HUS.out]; exact (HD6.out.set2 _).drew⟩, Lib.hid (HB6.out.setCell (p := ⟨w.heap.size, 2, none⟩) (Nat.le_refl _) _).drew⟩, by simp [intOf]; omega⟩

    · have HE : Hid (usi k i = usy k) := Lib.hid (by rw [← usi_all, HN.out, show i = N by omega])
      rw [HE.out] at HD
      go_wp2
      go_ret
      obtain ⟨v, hd⟩ := HD.out
      exact ⟨v, rfl, hd, HB.out⟩

end Go.Proofs.Ytkojdhmgefggjaa

