/-
  What SingleSymbol of package cells and One of the reference do. Nothing that was there has changed. Conditions: none; a small symbol.
-/
import Derived.Test.YtfgjeiheekohdaaRw3
namespace Go.Proofs.Ytfgjeiheekohdaa
open Go.RowKit Go.Shelf

/-- The norms of the table of a single symbol. -/
def one (x : Nat) : List Int := List.replicate x 0 ++ [1]
theorem one_len (x : Nat) : (one x).length = x + 1 := by simp [one]
theorem one_set (x : Nat) : ((List.replicate (x + 1) (0 : Int)).map iv).set x (iv 1) = (one x).map iv := by
  unfold one
  rw [List.replicate_succ', List.map_append, List.map_append, List.set_append_right _ _ (by simp)]
  simp

set_option maxRecDepth 100000 in
set_option maxHeartbeats 2000000 in
theorem single_bad (w : World) (z : Int) (h : z < 0 ∨ 255 < z) :
    Calls Try.prog 21 #[.int .i64 z] w fun e w' => e = .returned (.tuple #[tb 0 none 0 0, .int .i64 2]) ∧ Below w.heap.size w w' := by
  have t1 := Tb.new w 0 none 0 0
  have b1 : Below w.heap.size w (w.alloc (.cells #[.int .i64 0, .slice none 0 0] 24)) := (Below.refl _ w).alloc (Nat.le_refl _) _
  obtain ⟨w1, hw1⟩ : ∃ w1, w.alloc (.cells #[.int .i64 0, .slice none 0 0] 24) = w1 := ⟨_, rfl⟩
  rw [hw1] at t1 b1
  have c0 := t1.c0
  have c1 := t1.c1
  have f0 := t1.free 0
  obtain ⟨Wa, hWa⟩ : ∃ Wa, w1.setCell ⟨w.heap.size, 0, none⟩ (.int .i64 0) = Wa := ⟨_, rfl⟩
  have ta : Tb Wa w.heap.size 0 none 0 0 := by rw [← hWa]; exact t1.set0 _
  have d1 := ta.c1
  have f1 := ta.free 1
  have FN : Hid (Tb (Wa.setCell ⟨w.heap.size, 1, none⟩ (.slice none 0 0)) w.heap.size 0 none 0 0 ∧ Below w.heap.size w (Wa.setCell ⟨w.heap.size, 1, none⟩ (.slice none 0 0))) := Lib.hid ⟨ta.set1 _ _ _, by rw [← hWa]; exact (b1.setCell (p := ⟨w.heap.size, 0, none⟩) (Nat.le_refl _) _).setCell (p := ⟨w.heap.size, 1, none⟩) (Nat.le_refl _) _⟩
  clear t1 b1 ta
  rcases Int.lt_or_le z 0 with h0 | h0
  · clear h
    go_enter Try.func21, Try.ntmps21
    go_wp2
    refine bodyPost_ret (results_cell2 rfl rfl (FN.out).1.load) rfl ?_
    exact ⟨rfl, FN.out.2⟩
  · have h1 : 255 < z := by omega
    clear h
    go_enter Try.func21, Try.ntmps21
    go_wp2
    refine bodyPost_ret (results_cell2 rfl rfl (FN.out).1.load) rfl ?_
    exact ⟨rfl, FN.out.2⟩

set_option maxRecDepth 100000 in
set_option maxHeartbeats 2000000 in
theorem single_ok (w : World) (x : Nat) (hx : x ≤ 255) :
    Calls Try.prog 21 #[.int .i64 (x : Int)] w fun e w' => ∃ g, e = .returned (.tuple #[tb 0 (some ⟨g, 0, none⟩) (x + 1) (x + 1), .int .i64 0]) ∧ w'.ownsRow w.heap.size 3 1 (.slice (some ⟨g, 0, none⟩) (x + 1) (x + 1)) (x + 1) ((one x).map iv) ∧ Below w.heap.size w w' := by
  have t1 := Tb.new w 0 none 0 0
  have b1 : Below w.heap.size w (w.alloc (.cells #[.int .i64 0, .slice none 0 0] 24)) := (Below.refl _ w).alloc (Nat.le_refl _) _
  obtain ⟨w1, hw1⟩ : ∃ w1, w.alloc (.cells #[.int .i64 0, .slice none 0 0] 24) = w1 := ⟨_, rfl⟩
  rw [hw1] at t1 b1
  obtain ⟨k, hk⟩ : ∃ k, w.heap.size = k := ⟨_, rfl⟩
  obtain ⟨n, hn⟩ : ∃ n, x + 1 = n := ⟨_, rfl⟩
  obtain ⟨w2, hmk, ho2, hb2⟩ := make_ints n (by omega) w1
  obtain ⟨g, hg⟩ : ∃ g, w1.heap.size = g := ⟨_, rfl⟩
  rw [hg] at hmk ho2
  have ekn : (x : Int) + 1 = (n : Int) := by omega
  have cx := (ho2.cellAt x (by omega))
  rw [List.getElem?_map, List.getElem?_replicate, if_pos (by omega)] at cx
  simp only [Option.map_some] at cx
  have fx := ho2.frozenAt x
  obtain ⟨w3, hw3⟩ : ∃ w3, w2.setCell ⟨g, x, none⟩ (.int .i64 1) = w3 := ⟨_, rfl⟩
  have ho3 := (ho2.stored x (.int .i64 1)).1
  rw [hw3, ← hn, one_set, hn] at ho3
  have hgk : k < g := by rw [← hk, ← hg]; exact t1.lt
  have hh3 : w3.heap[k]? = w1.heap[k]? := by
    rw [← hw3, Below.heap_setCell _ _ _ _ (Nat.ne_of_lt hgk), hb2.block k (by rw [hg]; exact hgk)]
  have b3 : Below k w w3 := by
    have := below_on b1 (Nat.le_refl _) hb2
    rw [← hw3, ← hk]
    exact this.setCell (p := ⟨g, x, none⟩) (by show w.heap.size ≤ g; omega) _
  rw [hk] at t1 b1
  have t3 := t1.same hh3
  have c0 := t3.c0
  have c1 := t3.c1
  have f0 := t3.free 0
  obtain ⟨Wa, hWa⟩ : ∃ Wa, w3.setCell ⟨k, 0, none⟩ (.int .i64 0) = Wa := ⟨_, rfl⟩
  have ta : Tb Wa k 0 none 0 0 := by rw [← hWa]; exact t3.set0 _
  have d1 := ta.c1
  have f1 := ta.free 1
  have FN : Hid (Tb (Wa.setCell ⟨k, 1, none⟩ (.slice (some ⟨g, 0, none⟩) n n)) k 0 (some ⟨g, 0, none⟩) n n ∧ Below k w (Wa.setCell ⟨k, 1, none⟩ (.slice (some ⟨g, 0, none⟩) n n)) ∧ (Wa.setCell ⟨k, 1, none⟩ (.slice (some ⟨g, 0, none⟩) n n)).ownsRow k 3 1 (.slice (some ⟨g, 0, none⟩) n n) n ((one x).map iv)) := Lib.hid (by
    refine ⟨ta.set1 _ _ _, ?_, ?_⟩
    · rw [← hWa]; exact (b3.setCell (p := ⟨k, 0, none⟩) (Nat.le_refl _) _).setCell (p := ⟨k, 1, none⟩) (Nat.le_refl _) _
    · refine own_same (own_base ho3 (by omega)) fun g' e => ?_
      injection e with e
      subst e
      rw [Below.heap_setCell _ _ _ _ (Nat.ne_of_gt hgk), ← hWa, Below.heap_setCell _ _ _ _ (Nat.ne_of_gt hgk)])
  simp only [hk, hn]
  clear t1 b1 ho2 ho3 b3 t3 ta hb2 hh3 hgk
  go_enter Try.func21, Try.ntmps21
  go_wp2
  refine bodyPost_ret (results_cell2 rfl rfl (FN.out).1.load) rfl ?_
  exact ⟨g, rfl, FN.out.2.2, FN.out.2.1⟩

theorem one_get0 {x i : Nat} (h : i < x) : (one x)[i]? = some 0 := by
  unfold one
  rw [List.getElem?_append_left (by simp; exact h)]
  simp [h]
theorem one_get1 {x i : Nat} (h : i = x) : (one x)[i]? = some 1 := by
  subst h
  unfold one
  rw [List.getElem?_append_right (by simp)]
  simp
theorem one_put {w w5 : World} {k r c c5 : Nat} {A A5 : Option Addr} {xs : List Value} (t5 : Tb w5 (k + 1) 0 A r c) (t6 : Tb w5 k 0 none 0 0) (b5 : Below k w w5) (o5 : w5.ownsRow (k + 2) 3 1 (.slice A5 (r + 1) c5) (r + 1) xs) :
    Tb (w5.setCell ⟨k + 1, 1, none⟩ (.slice A5 (r + 1) c5)) (k + 1) 0 A5 (r + 1) c5 ∧ Tb (w5.setCell ⟨k + 1, 1, none⟩ (.slice A5 (r + 1) c5)) k 0 none 0 0 ∧ Below k w (w5.setCell ⟨k + 1, 1, none⟩ (.slice A5 (r + 1) c5)) ∧ (w5.setCell ⟨k + 1, 1, none⟩ (.slice A5 (r + 1) c5)).ownsRow (k + 2) 3 1 (.slice A5 (r + 1) c5) (r + 1) xs := by
  refine ⟨t5.set1 _ _ _, t6.same (Below.heap_setCell _ _ _ _ (by show k ≠ k + 1; omega)), b5.setCell (p := ⟨k + 1, 1, none⟩) (by show k ≤ k + 1; omega) _, own_same o5 fun g e => Below.heap_setCell _ _ _ _ (by have := own_ge o5 e; show g ≠ k + 1; omega)⟩

set_option maxRecDepth 100000 in
set_option maxHeartbeats 2000000 in
theorem rone_any (w : World) (x : Nat) (hx : x ≤ 255) :
    Calls Try.prog 23 #[.int .i64 (x : Int)] w fun e w' => ∃ A c, e = .returned (tb 0 A (x + 1) c) ∧ w'.ownsRow w.heap.size 3 1 (.slice A (x + 1) c) (x + 1) ((one x).map iv) ∧ Below w.heap.size w w' := by
  obtain ⟨k, hk⟩ : ∃ k, w.heap.size = k := ⟨_, rfl⟩
  have t1 := Tb.new w 0 none 0 0
  have b1 : Below w.heap.size w (w.alloc (.cells #[.int .i64 0, .slice none 0 0] 24)) := (Below.refl _ w).alloc (Nat.le_refl _) _
  obtain ⟨w1, hw1⟩ : ∃ w1, w.alloc (.cells #[.int .i64 0, .slice none 0 0] 24) = w1 := ⟨_, rfl⟩
  rw [hw1] at t1 b1
  have e1 : w1.heap.size = k + 1 := by rw [← hw1, World.size_alloc, hk]
  have t2 := Tb.new w1 0 none 0 0
  have b2 : Below w1.heap.size w1 (w1.alloc (.cells #[.int .i64 0, .slice none 0 0] 24)) := (Below.refl _ w1).alloc (Nat.le_refl _) _
  obtain ⟨w2, hw2⟩ : ∃ w2, w1.alloc (.cells #[.int .i64 0, .slice none 0 0] 24) = w2 := ⟨_, rfl⟩
  rw [hw2] at t2 b2
  have e2 : w2.heap.size = k + 2 := by rw [← hw2, World.size_alloc, e1]
  have t12 := t1.below b2
  rw [hk] at t1 b1 t12
  rw [e1] at t2
  have B2 : Hid (Below k w w2) := Lib.hid (below_on b1 (by omega) b2)
  have c0 := t2.c0
  have c1 := t2.c1
  have f0 := t2.free 0
  obtain ⟨Wa, hWa⟩ : ∃ Wa, w2.setCell ⟨k + 1, 0, none⟩ (.int .i64 0) = Wa := ⟨_, rfl⟩
  have ta : Tb Wa (k + 1) 0 none 0 0 := by rw [← hWa]; exact t2.set0 _
  have d1 := ta.c1
  have f1 := ta.free 1
  obtain ⟨Wb, hWb⟩ : ∃ Wb, Wa.setCell ⟨k + 1, 1, none⟩ (.slice none 0 0) = Wb := ⟨_, rfl⟩
  have S0 : Hid (Tb Wb k 0 none 0 0 ∧ Tb Wb (k + 1) 0 none 0 0) := Lib.hid ⟨t12.same (by rw [← hWb, ← hWa, Below.heap_setCell _ _ _ _ (by show k ≠ k + 1; omega), Below.heap_setCell _ _ _ _ (by show k ≠ k + 1; omega)]), by rw [← hWb]; exact ta.set1 _ _ _⟩
  have S1 : Hid (Below k w Wb) := Lib.hid (by rw [← hWb, ← hWa]; exact (B2.out.setCell (p := ⟨k + 1, 0, none⟩) (by show k ≤ k + 1; omega) _).setCell (p := ⟨k + 1, 1, none⟩) (by show k ≤ k + 1; omega) _)
  simp only [hk]
  clear t1 t2 t12 b1 b2 ta B2 e2
  go_enter Try.func23, Try.ntmps23
  go_wp2
  go_loopw [4] (fun p wr => ∃ (i c' : Nat) (A' : Option Addr), i ≤ x + 1 ∧ p = .int .i64 (i : Int) ∧ Hid (Tb wr k 0 none 0 0 ∧ Tb wr (k + 1) 0 A' i c') ∧ Hid (wr.ownsRow (k + 2) 3 1 (.slice A' i c') i (((one x).take i).map iv)) ∧ Hid (Below k w wr)) (fun p _ => x + 1 - (intOf p).toNat)
  case atStart => exact ⟨0, 0, none, Nat.zero_le _, rfl, S0, Lib.hid (own_nil _ _), S1⟩
  case round =>
    obtain ⟨i, c', A', hi, rfl, HT, HO, HB⟩ := hrel
    clear S0 S1 c0 c1 f0 f1 d1
    by_cases hlt : i ≤ x
    · by_cases hix : i = x
      · have HIX := Lib.hid hix
        have hxe : ((i : Int) == (x : Int)) = true := by simp [hix]
        have hiX1 : i ≤ 255 := by omega
        clear hix
        have H1 : Hid ((wr.alloc (.cells #[.int .i64 1] 3)).ownsRow (k + 2) 3 1 (.slice A' i c') i (((one x).take i).map iv)) := Lib.hid (own_below HO.out ((Below.refl _ wr).alloc (Nat.le_refl _) _))
        have H2 : Hid (Rv (wr.alloc (.cells #[.int .i64 1] 3)) (some ⟨wr.heap.size, 0, none⟩) [.int .i64 1]) := Lib.hid (lit_rv wr [.int .i64 1] _ rfl)
        have H3 : Hid (k + 2 ≤ (wr.alloc (.cells #[.int .i64 1] 3)).heap.size) := Lib.hid (by rw [World.size_alloc]; have := HT.out.2.lt; omega)
        have H4 : Hid (∀ v5 w5, (wr.alloc (.cells #[.int .i64 1] 3)).grownBy w5 (Value.slice A' i c').ownBlock → w5.ownsRow (k + 2) 3 1 v5 (i + 1) (((one x).take i).map iv ++ [.int .i64 1]) → Tb w5 (k + 1) 0 A' i c' ∧ Tb w5 k 0 none 0 0 ∧ Below k w w5 ∧ w5.ownsRow (k + 2) 3 1 v5 (i + 1) (((one x).take (i + 1)).map iv)) := Lib.hid (fun v5 w5 hg ho => by
          have a1 : ∀ q, q < wr.heap.size → some q ≠ (Value.slice A' i c').ownBlock → w5.heap[q]? = wr.heap[q]? := fun q hq hn => (hg.block q (by rw [World.size_alloc]; omega) hn).trans (Below.heap_alloc _ _ _ hq)
          have a2 : ∀ q, q < k + 2 → some q ≠ (Value.slice A' i c').ownBlock := fun q hq e => by have := own_ge HO.out e.symm; omega
          refine ⟨HT.out.2.same (a1 _ HT.out.2.lt (a2 _ (by omega))), HT.out.1.same (a1 _ HT.out.1.lt (a2 _ (by omega))), ?_, ?_⟩
          · refine ⟨hg.os.trans HB.out.os, hg.tape.trans HB.out.tape, hg.output.trans HB.out.output, ?_, fun q hq => ?_⟩
            · have h1 := hg.size; have h2 := HB.out.size; rw [World.size_alloc] at h1; omega
            · exact (a1 q (Nat.lt_trans hq HT.out.1.lt) (a2 q (by omega))).trans (HB.out.block q hq)
          · have e : ((one x).take (i + 1)).map iv = ((one x).take i).map iv ++ [.int .i64 1] := by rw [take_succ_get (one_get1 HIX.out), List.map_append]; rfl
            rw [e]; exact ho)
        have p1 := HT.out.2.c1
        go_wp2_with (at_builtin; refine wpList_append_vals Try.underlying22 int_info rfl rfl _ _ rfl (k + 2) (.slice A' i c') i (((one x).take i).map iv) rfl H1.out (some ⟨wr.heap.size, 0, none⟩) [.int .i64 1] (by simp [Value.oneCell']) 1 1 rfl rfl H2.out (by omega) (by omega) H3.out ?_; intro v5 w5 ho5 hg5 he5; obtain ⟨t5, t6, b5, o5⟩ := H4.out v5 w5 hg5 ho5; obtain ⟨A5, c5, rfl, hc5⟩ := own_form o5; have q1 := t5.c1; have q2 := t5.free 1; have F5 : Hid (Tb (w5.setCell ⟨k + 1, 1, none⟩ (.slice A5 (i + 1) c5)) (k + 1) 0 A5 (i + 1) c5 ∧ Tb (w5.setCell ⟨k + 1, 1, none⟩ (.slice A5 (i + 1) c5)) k 0 none 0 0 ∧ Below k w (w5.setCell ⟨k + 1, 1, none⟩ (.slice A5 (i + 1) c5)) ∧ (w5.setCell ⟨k + 1, 1, none⟩ (.slice A5 (i + 1) c5)).ownsRow (k + 2) 3 1 (.slice A5 (i + 1) c5) (i + 1) (((one x).take (i + 1)).map iv)) := Lib.hid (one_put t5 t6 b5 o5); clear ho5 hg5 he5 t5 t6 b5 o5)
        exact ⟨⟨i + 1, c5, A5, by omega, by simp, Lib.hid ⟨F5.out.2.1, F5.out.1⟩, Lib.hid F5.out.2.2.2, Lib.hid F5.out.2.2.1⟩, by simp [intOf]; omega⟩
      · have HLX : Hid (i < x) := Lib.hid (by omega)
        have hxe : ((i : Int) == (x : Int)) = false := by simp; omega
        have hiX1 : i ≤ 255 := by omega
        clear hix
        have H1 : Hid ((wr.alloc (.cells #[.int .i64 0] 3)).ownsRow (k + 2) 3 1 (.slice A' i c') i (((one x).take i).map iv)) := Lib.hid (own_below HO.out ((Below.refl _ wr).alloc (Nat.le_refl _) _))
        have H2 : Hid (Rv (wr.alloc (.cells #[.int .i64 0] 3)) (some ⟨wr.heap.size, 0, none⟩) [.int .i64 0]) := Lib.hid (lit_rv wr [.int .i64 0] _ rfl)
        have H3 : Hid (k + 2 ≤ (wr.alloc (.cells #[.int .i64 0] 3)).heap.size) := Lib.hid (by rw [World.size_alloc]; have := HT.out.2.lt; omega)
        have H4 : Hid (∀ v5 w5, (wr.alloc (.cells #[.int .i64 0] 3)).grownBy w5 (Value.slice A' i c').ownBlock → w5.ownsRow (k + 2) 3 1 v5 (i + 1) (((one x).take i).map iv ++ [.int .i64 0]) → Tb w5 (k + 1) 0 A' i c' ∧ Tb w5 k 0 none 0 0 ∧ Below k w w5 ∧ w5.ownsRow (k + 2) 3 1 v5 (i + 1) (((one x).take (i + 1)).map iv)) := Lib.hid (fun v5 w5 hg ho => by
          have a1 : ∀ q, q < wr.heap.size → some q ≠ (Value.slice A' i c').ownBlock → w5.heap[q]? = wr.heap[q]? := fun q hq hn => (hg.block q (by rw [World.size_alloc]; omega) hn).trans (Below.heap_alloc _ _ _ hq)
          have a2 : ∀ q, q < k + 2 → some q ≠ (Value.slice A' i c').ownBlock := fun q hq e => by have := own_ge HO.out e.symm; omega
          refine ⟨HT.out.2.same (a1 _ HT.out.2.lt (a2 _ (by omega))), HT.out.1.same (a1 _ HT.out.1.lt (a2 _ (by omega))), ?_, ?_⟩
          · refine ⟨hg.os.trans HB.out.os, hg.tape.trans HB.out.tape, hg.output.trans HB.out.output, ?_, fun q hq => ?_⟩
            · have h1 := hg.size; have h2 := HB.out.size; rw [World.size_alloc] at h1; omega
            · exact (a1 q (Nat.lt_trans hq HT.out.1.lt) (a2 q (by omega))).trans (HB.out.block q hq)
          · have e : ((one x).take (i + 1)).map iv = ((one x).take i).map iv ++ [.int .i64 0] := by rw [take_succ_get (one_get0 HLX.out), List.map_append]; rfl
            rw [e]; exact ho)
        have p1 := HT.out.2.c1
        go_wp2_with (at_builtin; refine wpList_append_vals Try.underlying22 int_info rfl rfl _ _ rfl (k + 2) (.slice A' i c') i (((one x).take i).map iv) rfl H1.out (some ⟨wr.heap.size, 0, none⟩) [.int .i64 0] (by simp [Value.oneCell']) 1 1 rfl rfl H2.out (by omega) (by omega) H3.out ?_; intro v5 w5 ho5 hg5 he5; obtain ⟨t5, t6, b5, o5⟩ := H4.out v5 w5 hg5 ho5; obtain ⟨A5, c5, rfl, hc5⟩ := own_form o5; have q1 := t5.c1; have q2 := t5.free 1; have F5 : Hid (Tb (w5.setCell ⟨k + 1, 1, none⟩ (.slice A5 (i + 1) c5)) (k + 1) 0 A5 (i + 1) c5 ∧ Tb (w5.setCell ⟨k + 1, 1, none⟩ (.slice A5 (i + 1) c5)) k 0 none 0 0 ∧ Below k w (w5.setCell ⟨k + 1, 1, none⟩ (.slice A5 (i + 1) c5)) ∧ (w5.setCell ⟨k + 1, 1, none⟩ (.slice A5 (i + 1) c5)).ownsRow (k + 2) 3 1 (.slice A5 (i + 1) c5) (i + 1) (((one x).take (i + 1)).map iv)) := Lib.hid (one_put t5 t6 b5 o5); clear ho5 hg5 he5 t5 t6 b5 o5)
        exact ⟨⟨i + 1, c5, A5, by omega, by simp, Lib.hid ⟨F5.out.2.1, F5.out.1⟩, Lib.hid F5.out.2.2.2, Lib.hid F5.out.2.2.1⟩, by simp [intOf]; omega⟩
    · have hiX : i = x + 1 := by omega
      have p0 := HT.out.2.c0
      have p1 := HT.out.2.c1
      have q0 := HT.out.1.c0
      have g0 := HT.out.1.free 0
      obtain ⟨Wc, hWc⟩ : ∃ Wc, wr.setCell ⟨k, 0, none⟩ (.int .i64 0) = Wc := ⟨_, rfl⟩
      have tc : Tb Wc k 0 none 0 0 := by rw [← hWc]; exact HT.out.1.set0 _
      have q1 := tc.c1
      have g1 := tc.free 1
      have FN : Hid (Tb (Wc.setCell ⟨k, 1, none⟩ (.slice A' i c')) k 0 A' i c' ∧ Below k w (Wc.setCell ⟨k, 1, none⟩ (.slice A' i c')) ∧ (Wc.setCell ⟨k, 1, none⟩ (.slice A' i c')).ownsRow k 3 1 (.slice A' i c') i ((one x).map iv)) := Lib.hid (by
        refine ⟨tc.set1 _ _ _, ?_, ?_⟩
        · rw [← hWc]; exact (HB.out.setCell (p := ⟨k, 0, none⟩) (Nat.le_refl _) _).setCell (p := ⟨k, 1, none⟩) (Nat.le_refl _) _
        · have h1 := HO.out
          rw [List.take_of_length_le (by rw [one_len]; omega)] at h1
          refine own_base (own_same h1 fun g' e => ?_) (by omega)
          have := own_ge h1 e
          rw [Below.heap_setCell _ _ _ _ (by show g' ≠ k; omega), ← hWc, Below.heap_setCell _ _ _ _ (by show g' ≠ k; omega)])
      clear tc HO HB HT hlt
      subst hiX
      go_wp2
      refine bodyPost_ret (results_cell rfl rfl (FN.out).1.load) rfl ?_
      exact ⟨A', c', rfl, FN.out.2.2, FN.out.2.1⟩

end Go.Proofs.Ytfgjeiheekohdaa
