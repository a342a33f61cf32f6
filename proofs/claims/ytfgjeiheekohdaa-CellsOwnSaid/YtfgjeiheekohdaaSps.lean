/-
  What span and Spans of package cells do: Spans returns the spans of a symbol's cells, in new memory, or the error. Nothing that was there has changed. Condition: a slice can hold the norms.
-/
import Derived.StillTailTactics
import Derived.Test.YtfgjeiheekohdaaCsm
namespace Go.Proofs.Ytfgjeiheekohdaa
open Go.RowKit Go.Shelf

/-- A span as a value and as a block. -/
def Pr (W : World) (b : Nat) (p q : Int) : Prop := W.heap[b]? = some (.cells #[.int .i64 p, .int .i64 q] 40 (0, 0))
section
variable {W W' : World} {b : Nat} {p q : Int}
theorem Pr.lt (h : Pr W b p q) : b < W.heap.size := (Array.getElem?_eq_some_iff.1 h).1
theorem Pr.c0 (h : Pr W b p q) : W.cell? ⟨b, 0, none⟩ = some (.int .i64 p) := by rw [cell_of_row W b 0 _ _ _ h]; rfl
theorem Pr.c1 (h : Pr W b p q) : W.cell? ⟨b, 1, none⟩ = some (.int .i64 q) := by rw [cell_of_row W b 1 _ _ _ h]; rfl
theorem Pr.free (h : Pr W b p q) (i : Nat) : W.frozen? ⟨b, i, none⟩ = false := by
  have : W.heap[b]? = _ := h
  simp [World.frozen?, this]
theorem Pr.same (h : Pr W b p q) (hb : W'.heap[b]? = W.heap[b]?) : Pr W' b p q := hb.trans h
theorem Pr.below (h : Pr W b p q) (hb : Below W.heap.size W W') : Pr W' b p q := hb.block b h.lt |>.trans h
theorem Pr.set0 (h : Pr W b p q) (z : Int) : Pr (W.setCell ⟨b, 0, none⟩ (.int .i64 z)) b z q := by
  have hb : W.heap[b]? = _ := h
  unfold Pr
  simp [World.setCell, Array.getElem?_modify, hb]
theorem Pr.set1 (h : Pr W b p q) (z : Int) : Pr (W.setCell ⟨b, 1, none⟩ (.int .i64 z)) b p z := by
  have hb : W.heap[b]? = _ := h
  unfold Pr
  simp [World.setCell, Array.getElem?_modify, hb]
theorem Pr.new (W : World) (p q : Int) : Pr (W.alloc (.cells #[.int .i64 p, .int .i64 q] 40)) W.heap.size p q := World.alloc_heap_new W _
theorem Pr.load (h : Pr W b p q) : (loadVar 40 ⟨b, 0, none⟩).run Try.prog W = .ok (.agg #[.int .i64 p, .int .i64 q]) W := by
  have c0 := h.c0
  have c1 := h.c1
  simp [loadVar, go_sem, c0, c1]
end

set_option maxRecDepth 100000 in
set_option maxHeartbeats 2000000 in
theorem span_any (w : World) (a : Int) (p q D : Nat) (hp : p ≤ 9) (hD : 2 ^ p = D) : Calls Try.prog 27 #[cev a (p : Int) (q : Int)] w fun e w' => e = .returned (.agg #[.int .i64 (q : Int), .int .i64 (D : Int)]) ∧ Below w.heap.size w w' := by
  have q1 := Ce.new w a p q
  have b1 : Below w.heap.size w (w.alloc (.cells #[.int .i64 a, .int .i64 (p : Int), .int .i64 (q : Int)] 45)) := (Below.refl _ w).alloc (Nat.le_refl _) _
  obtain ⟨w1, hw1⟩ : ∃ w1, w.alloc (.cells #[.int .i64 a, .int .i64 (p : Int), .int .i64 (q : Int)] 45) = w1 := ⟨_, rfl⟩
  rw [hw1] at q1 b1
  have r1 := Pr.new w1 0 0
  have b2 : Below w1.heap.size w1 (w1.alloc (.cells #[.int .i64 0, .int .i64 0] 40)) := (Below.refl _ w1).alloc (Nat.le_refl _) _
  obtain ⟨w2, hw2⟩ : ∃ w2, w1.alloc (.cells #[.int .i64 0, .int .i64 0] 40) = w2 := ⟨_, rfl⟩
  rw [hw2] at r1 b2
  have q2 := q1.below b2
  have hlt := q1.lt
  have HF : Hid (Ce w2 w.heap.size a p q ∧ Pr w2 w1.heap.size 0 0 ∧ Below w.heap.size w w2 ∧ w.heap.size ≤ w1.heap.size) := Lib.hid ⟨q2, r1, below_on b1 (Nat.le_refl _) b2, Nat.le_of_lt hlt⟩
  have kp : decide ((p : Int) < 0) = false := decide_eq_false (by omega)
  have hw : wrap64 (2 ^ p) = (D : Int) := pow_wrap hD (by rw [← hD]; exact pow_le hp)
  have hmx : Try.prog.follows .mixedOrders = true := by kernel_rfl
  clear b1 b2 q1 q2 r1 hD
  go_enter Try.func27, Try.ntmps27
  go_wp2
  refine wp_region_still_tail 6 hmx (by kernel_rfl) ?_
  simp only [List.take_succ_cons, List.take_zero, List.drop_succ_cons, List.drop_zero]
  obtain ⟨W4, hW4⟩ : ∃ W4 : World, { heap := w2.heap, tape := w2.tape, drawn := w2.drawn + 1, os := w2.os, output := w2.output } = W4 := ⟨_, rfl⟩
  rw [hW4]
  have hh : W4.heap = w2.heap := by rw [← hW4]
  have ho : W4.os = w2.os ∧ W4.tape = w2.tape ∧ W4.output = w2.output := by rw [← hW4]; exact ⟨rfl, rfl, rfl⟩
  clear hW4
  obtain ⟨q2, r2, b2, hle⟩ := HF.out
  obtain ⟨k, hk⟩ : ∃ k, w1.heap.size = k := ⟨_, rfl⟩
  rw [hk] at r2 hle
  simp only [hk]
  have q4 := q2.same (W' := W4) (by rw [hh])
  have r4 := r2.same (W' := W4) (by rw [hh])
  have b4 : Below w.heap.size w W4 := ⟨ho.1.trans b2.os, ho.2.1.trans b2.tape, ho.2.2.trans b2.output, by rw [hh]; exact b2.size, fun j hj => by rw [hh]; exact b2.block j hj⟩
  have e1 := q4.c1
  have e2 := q4.c2
  have r0 := r4.c0
  have f0 := r4.free 0
  obtain ⟨Wa, hWa⟩ : ∃ Wa, W4.setCell ⟨k, 0, none⟩ (.int .i64 (q : Int)) = Wa := ⟨_, rfl⟩
  have ra : Pr Wa k q 0 := by rw [← hWa]; exact r4.set0 _
  have r1 := ra.c1
  have f1 := ra.free 1
  have FN : Hid (∀ E : Int, Pr (Wa.setCell ⟨k, 1, none⟩ (.int .i64 E)) k q E ∧ Below w.heap.size w (Wa.setCell ⟨k, 1, none⟩ (.int .i64 E))) := Lib.hid (fun E => ⟨ra.set1 _, by rw [← hWa]; exact (b4.setCell (p := ⟨k, 0, none⟩) hle _).setCell (p := ⟨k, 1, none⟩) hle _⟩)
  clear q2 r2 b2 q4 r4 b4 ra hh ho HF hlt hle hk
  repeat still_step
  refine wpStill_nil ?_
  go_wp2
  refine bodyPost_ret (results_cell rfl rfl (FN.out _).1.load) rfl ?_
  exact ⟨by rw [hw], (FN.out _).2⟩

theorem und_spans : Try.prog.underlying 35 = some (.slice 40) := by kernel_rfl
theorem pr_info : (Try.prog.info? 40).map (fun i => (i.zero, i.size, i.bytes)) = some (some (.agg #[.int .i64 0, .int .i64 0]), 2, 16) := by kernel_rfl
theorem ro_len2 {W : World} {B : Nat} {v : Value} {e : TypeId} {n : Nat} {C : List (Nat × Nat)} (h : W.ownsRow B e 2 v n (flat2 C)) : C.length = n := by
  have := h.1
  rw [flat2_len] at this
  omega
/-- What a function returns that returns spans and an error. -/
def OutP (B : Nat) (w : World) (C : List (Nat × Nat)) (e0 : Int) (e : Ending) (w' : World) : Prop :=
  ∃ A' r c', e = .returned (.tuple #[.slice A' r c', .int .i64 e0]) ∧ r = C.length ∧ r ≤ 512 ∧ w'.ownsRow B 40 2 (.slice A' r c') r (flat2 C) ∧ Below w.heap.size w w'

/-- The cells of a table are small. -/
theorem cex_small {y : Int} {l : List Int} {i : Nat} {c : Nat × Nat × Nat} (h : (cex y l)[i]? = some c) : c.2.1 ≤ 9 := by
  unfold cex at h
  split at h
  · rename_i hv
    obtain ⟨n, rfl, hv2⟩ := vt_iff.1 hv
    have hl := (List.getElem?_eq_some_iff.1 h).1
    rw [cls_len] at hl
    rw [cls_get hl] at h
    injection h with h
    rw [← h]
    show bts _ _ ≤ 9
    have := bts_le (Int.toNat n) (xof l (spl (2 ^ (Int.toNat n)) l) i)
    have h2 := hv2.log
    rw [Int.toNat_natCast] at *
    omega
  · simp at h

set_option maxRecDepth 100000 in
set_option maxHeartbeats 4000000 in
theorem spans_bad (w : World) (y : Int) (A : Option Addr) (l : List Int) (N c : Nat) (z : Int) (hN : l.length = N) (hb : N ≤ 1000000) (hv : vt y l 256 9 = false) (hR : Ri w A l) :
    Calls Try.prog 16 #[tb y A N c, .int .i64 z] w (OutP w.heap.size w (spn z (cex y l)) 13) := by
  have b1 : Below w.heap.size w (w.alloc (.cells #[.int .i64 y, .slice A N c] 24)) := (Below.refl _ w).alloc (Nat.le_refl _) _
  have t1 := Tb.new w y A N c
  obtain ⟨w1, hw1⟩ : ∃ w1, w.alloc (.cells #[.int .i64 y, .slice A N c] 24) = w1 := ⟨_, rfl⟩
  rw [hw1] at b1 t1
  have c0 := t1.c0
  have c1 := t1.c1
  have SP : Hid (Calls Try.prog 12 #[tb y A N c] w1 fun e w' => e = .returned (.tuple #[.slice none 0 0, .int .i64 13]) ∧ Below w1.heap.size w1 w') := Lib.hid (build_bad w1 y A l N c hN hb hv (hR.below b1))
  have HC : Hid (spn z (cex y l) = []) := Lib.hid (by rw [cex_bad hv]; rfl)
  have B1 := Lib.hid b1
  clear b1 t1 hR hN hv
  rw [HC.out]
  go_enter Try.func16, Try.ntmps16
  go_wp2_with (go_at_call 12; refine SP.out.mono ?_; rintro e w2 ⟨rfl, hb2⟩; have B2 := Lib.hid (below_on B1.out (Nat.le_refl _) hb2); clear hb2)
  go_ret2
  exact ⟨none, 0, 0, rfl, rfl, Nat.zero_le _, ro_nil _ _ _ _, B2.out⟩

set_option maxRecDepth 100000 in
set_option maxHeartbeats 4000000 in
theorem spans_ok (w : World) (y : Nat) (A : Option Addr) (l : List Int) (N c : Nat) (z : Int) (hN : l.length = N) (hv : Vt y l) (hR : Ri w A l) :
    Calls Try.prog 16 #[tb y A N c, .int .i64 z] w (OutP w.heap.size w (spn z (cex (y : Int) l)) 0) := by
  have hN2 : N ≤ 256 := by rw [← hN]; exact hv.len
  have b1 : Below w.heap.size w (w.alloc (.cells #[.int .i64 (y : Int), .slice A N c] 24)) := (Below.refl _ w).alloc (Nat.le_refl _) _
  have t1 := Tb.new w (y : Int) A N c
  obtain ⟨w1, hw1⟩ : ∃ w1, w.alloc (.cells #[.int .i64 (y : Int), .slice A N c] 24) = w1 := ⟨_, rfl⟩
  rw [hw1] at b1 t1
  have c0 := t1.c0
  have c1 := t1.c1
  have BU := build_ok w1 y (2 ^ y) A l N c hN hv rfl (hR.below b1)
  rw [← cex_ok hv] at BU
  obtain ⟨s, hs⟩ : ∃ s, 2 ^ y = s := ⟨_, rfl⟩
  have hs5 : s ≤ 512 := by rw [← hs]; exact hv.size
  have HCL : Hid ((cex (y : Int) l).length = s) := Lib.hid (by rw [cex_ok hv, cls_len, spl_len, hs])
  have HSM : Hid (∀ (i : Nat) (c : Nat × Nat × Nat), (cex (y : Int) l)[i]? = some c → c.2.1 ≤ 9) := Lib.hid (fun i c h => cex_small h)
  rw [hs] at BU
  obtain ⟨C, hC⟩ : ∃ C, cex (y : Int) l = C := ⟨_, rfl⟩
  rw [hC] at BU HCL HSM ⊢
  have BH := Lib.hid BU
  have B1 := Lib.hid b1
  clear b1 t1 hR hN hv BU hC hs
  go_enter Try.func16, Try.ntmps16
  go_wp2_with (go_at_call 12; refine BH.out.mono ?_; rintro e w2 ⟨g, rfl, ho2, hb2⟩; have O2 := Lib.hid ho2; have B2 := Lib.hid (below_on B1.out (Nat.le_refl _) hb2); clear hb2 ho2)
  clear c0 c1
  have LW : Hid (w.heap.size ≤ w2.heap.size) := Lib.hid B2.out.size
  clear B1 BH
  go_loopw [8, 21] (fun v p wr => ∃ (i r c' : Nat) (A' : Option Addr), i ≤ s ∧ r ≤ i ∧ p = .int .i64 (i : Int) ∧ v = .slice A' r c' ∧ Hid (wr.ownsRow w2.heap.size 40 2 (.slice A' r c') r (flat2 (spn z (C.take i)))) ∧ Hid (Below w2.heap.size w2 wr)) (fun _ p _ => s - (intOf p).toNat)
  case atStart => exact ⟨0, 0, 0, none, Nat.zero_le _, Nat.zero_le _, rfl, rfl, Lib.hid (ro_nil _ _ _ _), Lib.hid (Below.refl _ _)⟩
  case round =>
    obtain ⟨i, r, c', A', hi, hr, rfl, rfl, HO, HB⟩ := hrel
    by_cases hlt : i < s
    · obtain ⟨⟨x, p, q⟩, hx⟩ : ∃ x, C[i]? = some x := ⟨_, List.getElem?_eq_getElem (by rw [HCL.out]; exact hlt)⟩
      have hro := ro_below O2.out HB.out
      obtain ⟨d0, d1, d2⟩ := row_at hro hx
      simp only [nw] at d0 d1 d2
      have hp9 : p ≤ 9 := HSM.out i _ hx
      have HS := Lib.hid (spn_step (z := z) hx)
      have qe := Ce.new wr 0 0 0
      obtain ⟨w3, hw3⟩ : ∃ w3, wr.alloc (.cells #[.int .i64 0, .int .i64 0, .int .i64 0] 45) = w3 := ⟨_, rfl⟩
      rw [hw3] at qe
      have b3 : Below wr.heap.size wr w3 := by rw [← hw3]; exact (Below.refl _ wr).alloc (Nat.le_refl _) _
      obtain ⟨h, hh⟩ : ∃ h, wr.heap.size = h := ⟨_, rfl⟩
      rw [hh] at qe b3
      have a0 := qe.c0
      have a1 := qe.free 0
      obtain ⟨Wa, hWa⟩ : ∃ Wa, w3.setCell ⟨h, 0, none⟩ (.int .i64 (x : Int)) = Wa := ⟨_, rfl⟩
      have qa : Ce Wa h x 0 0 := by rw [← hWa]; exact qe.set0 _
      have a2 := qa.c1
      have a3 := qa.free 1
      obtain ⟨Wb, hWb⟩ : ∃ Wb, Wa.setCell ⟨h, 1, none⟩ (.int .i64 (p : Int)) = Wb := ⟨_, rfl⟩
      have qb : Ce Wb h x p 0 := by rw [← hWb]; exact qa.set1 _
      have a4 := qb.c2
      have a5 := qb.free 2
      obtain ⟨Wc, hWc⟩ : ∃ Wc, Wb.setCell ⟨h, 2, none⟩ (.int .i64 (q : Int)) = Wc := ⟨_, rfl⟩
      have qc : Ce Wc h x p q := by rw [← hWc]; exact qb.set2 _
      have a6 := qc.c0
      have a7 := qc.c1
      have a8 := qc.c2
      have bc : Below h wr Wc := by rw [← hWc, ← hWb, ← hWa]; exact ((b3.setCell (p := ⟨h, 0, none⟩) (Nat.le_refl _) _).setCell (p := ⟨h, 1, none⟩) (Nat.le_refl _) _).setCell (p := ⟨h, 2, none⟩) (Nat.le_refl _) _
      have BC : Hid (Below w2.heap.size w2 Wc ∧ Wc.ownsRow w2.heap.size 40 2 (.slice A' r c') r (flat2 (spn z (C.take i)))) := Lib.hid ⟨below_on HB.out (Nat.le_refl _) (by rw [hh]; exact bc), ro_below HO.out (by rw [hh]; exact bc)⟩
      clear hx hro qe b3 qa qb qc bc
      by_cases hz : (x : Int) = z
      · have hz1 : ((x : Int) == z) = true := by simp [hz]
        obtain ⟨D, hD⟩ : ∃ D, 2 ^ p = D := ⟨_, rfl⟩
        have SN := Lib.hid (span_any Wc (x : Int) p q D hp9 hD)
        have HQ : Hid (flat2 (spn z (C.take i)) ++ [.int .i64 (q : Int), .int .i64 (D : Int)] = flat2 (spn z (C.take (i + 1)))) := Lib.hid (by rw [HS.out, if_pos hz, flat2_append, hD]; rfl)
        obtain ⟨i0, hi0, hz0, hz1', hz2⟩ := info_parts pr_info
        have HI := Lib.hid (And.intro hi0 (And.intro hz0 (And.intro hz1' hz2)))
        clear hi0 hz0 hz1' hz2 hz hD HS
        go_wp2_with (first
          | (go_at_call 27; refine SN.out.mono ?_; rintro e w5 ⟨rfl, hb5⟩; have B5 := Lib.hid (below_on BC.out.1 (Nat.le_refl _) hb5); have O5 := Lib.hid (ro_below BC.out.2 hb5); clear hb5; have b6 : Below w5.heap.size w5 (w5.alloc (.cells #[.int .i64 (q : Int), .int .i64 (D : Int)] 40)) := (Below.refl _ w5).alloc (Nat.le_refl _) _; have L6 : Hid ((w5.alloc (.cells #[.int .i64 (q : Int), .int .i64 (D : Int)] 40)).heap[w5.heap.size]? = some (.cells #[.int .i64 (q : Int), .int .i64 (D : Int)] 40 (0, 0))) := Lib.hid (World.alloc_heap_new w5 _); have B6 := Lib.hid (below_on B5.out (Nat.le_refl _) b6); have O6 := Lib.hid (ro_below O5.out b6); clear b6)
          | (at_builtin; refine wpList_append_lies _ rfl _ _ 35 rfl w2.heap.size 40 i0 (.agg #[.int .i64 0, .int .i64 0]) 2 16 und_spans HI.out.1 HI.out.2.1 HI.out.2.2.1 HI.out.2.2.2 rfl (by decide) (.slice A' r c') r (flat2 (spn z (C.take i))) rfl O6.out ⟨w5.heap.size, 0, none⟩ 1 1 [.int .i64 (q : Int), .int .i64 (D : Int)] rfl rfl (World.news_of_block L6.out) (by simp [Value.oneCell']) (by decide) (by unfold maxLen; omega) (by omega) B6.out.size _ rfl ?_; intro g7 c7 w7 ho7 hg7 hl7 _; have O7 := Lib.hid ho7; have B7 : Hid (Below w2.heap.size w2 w7) := Lib.hid (B6.out.grown hg7 B6.out.size (fun _ e => own_ge O6.out e)); clear ho7 hg7 hl7))
        exact ⟨⟨i + 1, r + 1, c7, some ⟨g7, 0, none⟩, by omega, by omega, by simp, rfl, Lib.hid (by rw [← HQ.out]; exact O7.out), B7⟩, by simp [intOf]; omega⟩
      · have hz1 : ((x : Int) == z) = false := by simp [hz]
        have HQ : Hid (spn z (C.take (i + 1)) = spn z (C.take i)) := Lib.hid (by rw [HS.out, if_neg hz, List.append_nil])
        clear HS hz
        go_wp2
        exact ⟨⟨i + 1, r, c', A', by omega, by omega, by simp, rfl, Lib.hid (by rw [HQ.out]; exact BC.out.2), Lib.hid BC.out.1⟩, by simp [intOf]; omega⟩
    · have HE : Hid (C.take i = C) := Lib.hid (List.take_of_length_le (by rw [HCL.out]; omega))
      go_wp2
      go_ret2
      refine ⟨A', r, c', rfl, ?_, by omega, ?_, below_on B2.out (Nat.le_refl _) HB.out⟩
      · have h1 := ro_len2 HO.out; rw [HE.out] at h1; exact h1.symm
      · have h1 := HO.out; rw [HE.out] at h1; exact ro_base h1 LW.out

theorem spans_u (w : World) (y : Int) (A : Option Addr) (l : List Int) (N c : Nat) (z : Int) (hN : l.length = N) (hb : N ≤ 1000000) (hR : Ri w A l) :
    Calls Try.prog 16 #[tb y A N c, .int .i64 z] w (OutP w.heap.size w (spn z (cex y l)) (err (vt y l 256 9))) := by
  cases hv : vt y l 256 9 with
  | false => exact spans_bad w y A l N c z hN hb hv hR
  | true =>
    obtain ⟨n, rfl, hv2⟩ := vt_iff.1 hv
    exact spans_ok w n A l N c z hN hv2 hR

end Go.Proofs.Ytfgjeiheekohdaa
