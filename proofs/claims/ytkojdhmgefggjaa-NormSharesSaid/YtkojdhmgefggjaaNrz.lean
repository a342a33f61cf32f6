/-
  What norm.Normalize does: it returns the normalized table of valid counts, its norms in new memory, or the error. Nothing that was there has changed. Condition: at most 1000000 counts.
-/
import Derived.Test.YtkojdhmgefggjaaNor
namespace Go.Proofs.Ytkojdhmgefggjaa
open Go.RowKit Go.Shelf

/-- A table as a value and as a block. -/
abbrev tb (z : Int) (A : Option Addr) (n c : Nat) : Value := .agg #[.int .i64 z, .slice A n c]
def Tb (W : World) (b : Nat) (z : Int) (A : Option Addr) (n c : Nat) : Prop := W.heap[b]? = some (.cells #[.int .i64 z, .slice A n c] 24 (0, 0))
section
variable {W W' : World} {b : Nat} {z : Int} {A : Option Addr} {n c : Nat}
theorem Tb.lt (h : Tb W b z A n c) : b < W.heap.size := (Array.getElem?_eq_some_iff.1 h).1
theorem Tb.c0 (h : Tb W b z A n c) : W.cell? ⟨b, 0, none⟩ = some (.int .i64 z) := by rw [cell_of_row W b 0 _ _ _ h]; rfl
theorem Tb.c1 (h : Tb W b z A n c) : W.cell? ⟨b, 1, none⟩ = some (.slice A n c) := by rw [cell_of_row W b 1 _ _ _ h]; rfl
theorem Tb.free (h : Tb W b z A n c) (i : Nat) : W.frozen? ⟨b, i, none⟩ = false := by
  have : W.heap[b]? = _ := h
  simp [World.frozen?, this]
theorem Tb.same (h : Tb W b z A n c) (hb : W'.heap[b]? = W.heap[b]?) : Tb W' b z A n c := hb.trans h
theorem Tb.below (h : Tb W b z A n c) (hb : Below W.heap.size W W') : Tb W' b z A n c := hb.block b h.lt |>.trans h
theorem Tb.set0 (h : Tb W b z A n c) (y : Int) : Tb (W.setCell ⟨b, 0, none⟩ (.int .i64 y)) b y A n c := by
  have hb : W.heap[b]? = _ := h
  unfold Tb
  simp [World.setCell, Array.getElem?_modify, hb]
theorem Tb.set1 (h : Tb W b z A n c) (A' : Option Addr) (n' c' : Nat) : Tb (W.setCell ⟨b, 1, none⟩ (.slice A' n' c')) b z A' n' c' := by
  have hb : W.heap[b]? = _ := h
  unfold Tb
  simp [World.setCell, Array.getElem?_modify, hb]
theorem Tb.new (W : World) (z : Int) (A : Option Addr) (n c : Nat) : Tb (W.alloc (.cells #[.int .i64 z, .slice A n c] 24)) W.heap.size z A n c := World.alloc_heap_new W _
theorem Tb.load (h : Tb W b z A n c) : (loadVar 24 ⟨b, 0, none⟩).run Try.prog W = .ok (tb z A n c) W := by
  have c0 := h.c0
  have c1 := h.c1
  simp [loadVar, go_sem, c0, c1]
end

/-- The arguments that have a normalized table. -/
def good (l : List Int) (z : Int) : Prop := may l = true ∧ 0 ≤ z ∧ z ≤ 9 ∧ us l ≤ 2 ^ z.toNat

theorem pow_le {lg : Nat} (h : lg ≤ 9) : 2 ^ lg ≤ 512 := by
  have := Nat.pow_le_pow_right (show 0 < 2 by decide) h
  rw [show (2 : Nat) ^ 9 = 512 by decide] at this
  exact this
theorem pow_wrap {lg s : Nat} (hs : 2 ^ lg = s) (h : s ≤ 512) : wrap64 (2 ^ lg) = (s : Int) := by
  have : (2 : Int) ^ lg = (s : Int) := by rw [← hs]; exact (Int.natCast_pow 2 lg).symm
  rw [this]
  unfold wrap64
  omega

/-- The norms lie where they lay when the table is stored. -/
theorem nrz_fin {w w1 w3 w4 Wb : World} {L g4 : Nat} {xs : List Value} {x y : Value} (ht : Tb w1 w.heap.size 0 none 0 0) (h1 : Below w.heap.size w w1) (h3 : Below w1.heap.size w1 w3) (ho : w4.ownsRow w3.heap.size 3 1 (.slice (some ⟨g4, 0, none⟩) L L) L xs) (h4 : Below w3.heap.size w3 w4)
    (e : (w4.setCell ⟨w.heap.size, 0, none⟩ x).setCell ⟨w.heap.size, 1, none⟩ y = Wb) : Wb.ownsRow w.heap.size 3 1 (.slice (some ⟨g4, 0, none⟩) L L) L xs ∧ Below w.heap.size w Wb := by
  have hb : Below w.heap.size w w4 := below_on (below_on h1 (Nat.le_refl _) h3) (Nat.le_refl _) h4
  have hlt := ht.lt
  have h3s := h3.size
  have h1s := h1.size
  subst e
  refine ⟨?_, (hb.setCell (p := ⟨w.heap.size, 0, none⟩) (Nat.le_refl _) _).setCell (p := ⟨w.heap.size, 1, none⟩) (Nat.le_refl _) _⟩
  have hge : w3.heap.size ≤ g4 := own_ge3 ho rfl
  refine own_same3 ⟨ho.1, ?_⟩ (fun g' e => ?_) (W := w4)
  · rcases ho.2 with h | ⟨g', c', cur, e1, e2, e3⟩
    · exact .inl h
    · exact .inr ⟨g', c', cur, e1, by omega, e3⟩
  · cases e
    rw [Below.heap_setCell _ ⟨w.heap.size, 1, none⟩ _ _ (by show g4 ≠ w.heap.size; omega), Below.heap_setCell _ ⟨w.heap.size, 0, none⟩ _ _ (by show g4 ≠ w.heap.size; omega)]

set_option maxRecDepth 100000 in
set_option maxHeartbeats 2000000 in
theorem normalize_bad1 (w : World) (A : Option Addr) (l : List Int) (N c : Nat) (z : Int) (hN : l.length = N) (hb : N ≤ 1000000000) (hR : Ri w A l) (hm : may l = false) :
    Calls Try.prog 15 #[.slice A N c, .int .i64 z] w fun e w' => e = .returned (.tuple #[tb 0 none 0 0, .int .i64 2]) ∧ Below w.heap.size w w' := by
  have g1 : Below w.heap.size w (w.alloc (.cells #[.int .i64 0, .slice none 0 0] 24)) := (Below.refl _ w).alloc (Nat.le_refl _) _
  have t1 := Tb.new w 0 none 0 0
  have SV := Lib.hid (survey_any _ A l N c hN hb (hR.below g1))
  unfold srv at SV
  rw [hm] at SV
  obtain ⟨w1, hw1⟩ : ∃ w1, w.alloc (.cells #[.int .i64 0, .slice none 0 0] 24) = w1 := ⟨_, rfl⟩
  rw [hw1] at g1 t1 SV
  have c0 := t1.c0
  have f0 := t1.free 0
  obtain ⟨Wa, hWa⟩ : ∃ Wa, w1.setCell ⟨w.heap.size, 0, none⟩ (.int .i64 0) = Wa := ⟨_, rfl⟩
  have ta : Tb Wa w.heap.size 0 none 0 0 := by rw [← hWa]; exact t1.set0 0
  have c1 := ta.c1
  have f1 := ta.free 1
  obtain ⟨Wb, hWb⟩ : ∃ Wb, Wa.setCell ⟨w.heap.size, 1, none⟩ (.slice none 0 0) = Wb := ⟨_, rfl⟩
  have t2 : Tb Wb w.heap.size 0 none 0 0 := by rw [← hWb]; exact ta.set1 none 0 0
  have FN : Hid (Tb Wb w.heap.size 0 none 0 0 ∧ Below w.heap.size w Wb) := Lib.hid ⟨t2, by rw [← hWb, ← hWa]; exact (g1.setCell (p := ⟨w.heap.size, 0, none⟩) (Nat.le_refl _) _).setCell (p := ⟨w.heap.size, 1, none⟩) (Nat.le_refl _) _⟩
  clear t1 ta t2 g1 hN hR hm
  go_enter Try.func15, Try.ntmps15
  go_wp2_with (go_at_call 26; refine SV.out.mono ?_; rintro e w' ⟨rfl, rfl⟩)
  refine bodyPost_ret (results_cell2 rfl rfl FN.out.1.load) rfl ?_
  exact ⟨rfl, FN.out.2⟩

set_option maxRecDepth 100000 in
set_option maxHeartbeats 2000000 in
theorem normalize_bad2 (w : World) (A : Option Addr) (l : List Int) (N c : Nat) (z : Int) (hN : l.length = N) (hb : N ≤ 1000000000) (hR : Ri w A l) (hm : may l = true) (hz : z < 0) :
    Calls Try.prog 15 #[.slice A N c, .int .i64 z] w fun e w' => e = .returned (.tuple #[tb 0 none 0 0, .int .i64 2]) ∧ Below w.heap.size w w' := by
  have d1 : decide (z < 0) = true := decide_eq_true hz
  have g1 : Below w.heap.size w (w.alloc (.cells #[.int .i64 0, .slice none 0 0] 24)) := (Below.refl _ w).alloc (Nat.le_refl _) _
  have t1 := Tb.new w 0 none 0 0
  have SV := Lib.hid (survey_any _ A l N c hN hb (hR.below g1))
  unfold srv at SV
  rw [hm] at SV
  obtain ⟨w1, hw1⟩ : ∃ w1, w.alloc (.cells #[.int .i64 0, .slice none 0 0] 24) = w1 := ⟨_, rfl⟩
  rw [hw1] at g1 t1 SV
  have c0 := t1.c0
  have f0 := t1.free 0
  obtain ⟨Wa, hWa⟩ : ∃ Wa, w1.setCell ⟨w.heap.size, 0, none⟩ (.int .i64 0) = Wa := ⟨_, rfl⟩
  have ta : Tb Wa w.heap.size 0 none 0 0 := by rw [← hWa]; exact t1.set0 0
  have c1 := ta.c1
  have f1 := ta.free 1
  obtain ⟨Wb, hWb⟩ : ∃ Wb, Wa.setCell ⟨w.heap.size, 1, none⟩ (.slice none 0 0) = Wb := ⟨_, rfl⟩
  have t2 : Tb Wb w.heap.size 0 none 0 0 := by rw [← hWb]; exact ta.set1 none 0 0
  have FN : Hid (Tb Wb w.heap.size 0 none 0 0 ∧ Below w.heap.size w Wb) := Lib.hid ⟨t2, by rw [← hWb, ← hWa]; exact (g1.setCell (p := ⟨w.heap.size, 0, none⟩) (Nat.le_refl _) _).setCell (p := ⟨w.heap.size, 1, none⟩) (Nat.le_refl _) _⟩
  clear t1 ta t2 g1 hN hR hm
  go_enter Try.func15, Try.ntmps15
  go_wp2_with (go_at_call 26; refine SV.out.mono ?_; rintro e w' ⟨rfl, rfl⟩)
  refine bodyPost_ret (results_cell2 rfl rfl FN.out.1.load) rfl ?_
  exact ⟨rfl, FN.out.2⟩

set_option maxRecDepth 100000 in
set_option maxHeartbeats 2000000 in
theorem normalize_bad3 (w : World) (A : Option Addr) (l : List Int) (N c : Nat) (z : Int) (hN : l.length = N) (hb : N ≤ 1000000000) (hR : Ri w A l) (hm : may l = true) (hz : 9 < z) :
    Calls Try.prog 15 #[.slice A N c, .int .i64 z] w fun e w' => e = .returned (.tuple #[tb 0 none 0 0, .int .i64 2]) ∧ Below w.heap.size w w' := by
  have d1 : decide (z < 0) = false := decide_eq_false (by omega)
  have d2 : decide (9 < z) = true := decide_eq_true hz
  have g1 : Below w.heap.size w (w.alloc (.cells #[.int .i64 0, .slice none 0 0] 24)) := (Below.refl _ w).alloc (Nat.le_refl _) _
  have t1 := Tb.new w 0 none 0 0
  have SV := Lib.hid (survey_any _ A l N c hN hb (hR.below g1))
  unfold srv at SV
  rw [hm] at SV
  obtain ⟨w1, hw1⟩ : ∃ w1, w.alloc (.cells #[.int .i64 0, .slice none 0 0] 24) = w1 := ⟨_, rfl⟩
  rw [hw1] at g1 t1 SV
  have c0 := t1.c0
  have f0 := t1.free 0
  obtain ⟨Wa, hWa⟩ : ∃ Wa, w1.setCell ⟨w.heap.size, 0, none⟩ (.int .i64 0) = Wa := ⟨_, rfl⟩
  have ta : Tb Wa w.heap.size 0 none 0 0 := by rw [← hWa]; exact t1.set0 0
  have c1 := ta.c1
  have f1 := ta.free 1
  obtain ⟨Wb, hWb⟩ : ∃ Wb, Wa.setCell ⟨w.heap.size, 1, none⟩ (.slice none 0 0) = Wb := ⟨_, rfl⟩
  have t2 : Tb Wb w.heap.size 0 none 0 0 := by rw [← hWb]; exact ta.set1 none 0 0
  have FN : Hid (Tb Wb w.heap.size 0 none 0 0 ∧ Below w.heap.size w Wb) := Lib.hid ⟨t2, by rw [← hWb, ← hWa]; exact (g1.setCell (p := ⟨w.heap.size, 0, none⟩) (Nat.le_refl _) _).setCell (p := ⟨w.heap.size, 1, none⟩) (Nat.le_refl _) _⟩
  clear t1 ta t2 g1 hN hR hm
  go_enter Try.func15, Try.ntmps15
  go_wp2_with (go_at_call 26; refine SV.out.mono ?_; rintro e w' ⟨rfl, rfl⟩)
  refine bodyPost_ret (results_cell2 rfl rfl FN.out.1.load) rfl ?_
  exact ⟨rfl, FN.out.2⟩

set_option maxRecDepth 100000 in
set_option maxHeartbeats 2000000 in
theorem normalize_bad4 (w : World) (A : Option Addr) (l : List Int) (N c : Nat) (z : Int) (hN : l.length = N) (hb : N ≤ 1000000000) (hR : Ri w A l) (hm : may l = true) (lg s : Nat) (hlg : lg ≤ 9) (hz : z = (lg : Int)) (hs : 2 ^ lg = s) (hs5 : s ≤ 512) (hu : s < us l) :
    Calls Try.prog 15 #[.slice A N c, .int .i64 z] w fun e w' => e = .returned (.tuple #[tb 0 none 0 0, .int .i64 2]) ∧ Below w.heap.size w w' := by
  subst hz
  have d1 : decide ((lg : Int) < 0) = false := decide_eq_false (by omega)
  have d2 : decide (9 < (lg : Int)) = false := decide_eq_false (by omega)
  have d3 : decide ((s : Int) < (us l : Int)) = true := decide_eq_true (by omega)
  have hsh : wrap64 (2 ^ lg) = (s : Int) := pow_wrap hs hs5
  clear hs
  have g1 : Below w.heap.size w (w.alloc (.cells #[.int .i64 0, .slice none 0 0] 24)) := (Below.refl _ w).alloc (Nat.le_refl _) _
  have t1 := Tb.new w 0 none 0 0
  have SV := Lib.hid (survey_any _ A l N c hN hb (hR.below g1))
  unfold srv at SV
  rw [hm] at SV
  obtain ⟨w1, hw1⟩ : ∃ w1, w.alloc (.cells #[.int .i64 0, .slice none 0 0] 24) = w1 := ⟨_, rfl⟩
  rw [hw1] at g1 t1 SV
  have c0 := t1.c0
  have f0 := t1.free 0
  obtain ⟨Wa, hWa⟩ : ∃ Wa, w1.setCell ⟨w.heap.size, 0, none⟩ (.int .i64 0) = Wa := ⟨_, rfl⟩
  have ta : Tb Wa w.heap.size 0 none 0 0 := by rw [← hWa]; exact t1.set0 0
  have c1 := ta.c1
  have f1 := ta.free 1
  obtain ⟨Wb, hWb⟩ : ∃ Wb, Wa.setCell ⟨w.heap.size, 1, none⟩ (.slice none 0 0) = Wb := ⟨_, rfl⟩
  have t2 : Tb Wb w.heap.size 0 none 0 0 := by rw [← hWb]; exact ta.set1 none 0 0
  have FN : Hid (Tb Wb w.heap.size 0 none 0 0 ∧ Below w.heap.size w Wb) := Lib.hid ⟨t2, by rw [← hWb, ← hWa]; exact (g1.setCell (p := ⟨w.heap.size, 0, none⟩) (Nat.le_refl _) _).setCell (p := ⟨w.heap.size, 1, none⟩) (Nat.le_refl _) _⟩
  clear t1 ta t2 g1 hN hR hm
  go_enter Try.func15, Try.ntmps15
  go_wp2_with (go_at_call 26; refine SV.out.mono ?_; rintro e w' ⟨rfl, rfl⟩)
  refine bodyPost_ret (results_cell2 rfl rfl FN.out.1.load) rfl ?_
  exact ⟨rfl, FN.out.2⟩

theorem normalize_bad (w : World) (A : Option Addr) (l : List Int) (N c : Nat) (z : Int) (hN : l.length = N) (hb : N ≤ 1000000000) (hR : Ri w A l) (hg : ¬ good l z) :
    Calls Try.prog 15 #[.slice A N c, .int .i64 z] w fun e w' => e = .returned (.tuple #[tb 0 none 0 0, .int .i64 2]) ∧ Below w.heap.size w w' := by
  cases hm : may l with
  | false => exact normalize_bad1 w A l N c z hN hb hR hm
  | true =>
    by_cases h1 : z < 0
    · exact normalize_bad2 w A l N c z hN hb hR hm h1
    · by_cases h2 : 9 < z
      · exact normalize_bad3 w A l N c z hN hb hR hm h2
      · refine normalize_bad4 w A l N c z hN hb hR hm z.toNat (2 ^ z.toNat) (by omega) (by omega) rfl (pow_le (by omega)) ?_
        rcases Nat.lt_or_ge (2 ^ z.toNat) (us l) with h | h
        · exact h
        · exact absurd ⟨hm, by omega, by omega, h⟩ hg

set_option maxRecDepth 100000 in
set_option maxHeartbeats 2000000 in
theorem normalize_ok (w : World) (A : Option Addr) (k : List Nat) (N c lg s : Nat) (hN : k.length = N) (hb : N ≤ 1000000) (hR : Rn w A k) (hT : tot k ≤ 1099511627776) (h0 : 0 < nus k) (hlg : lg ≤ 9) (hs : 2 ^ lg = s) (hu : nus k ≤ s) :
    Calls Try.prog 15 #[.slice A N c, .int .i64 (lg : Int)] w fun e w' => ∃ g, e = .returned (.tuple #[tb lg (some ⟨g, 0, none⟩) (lst k + 1) (lst k + 1), .int .i64 0]) ∧ w'.ownsRow w.heap.size 3 1 (.slice (some ⟨g, 0, none⟩) (lst k + 1) (lst k + 1)) (lst k + 1) ((nrm k s).map iv) ∧ Below w.heap.size w w' := by
  have hs5 : s ≤ 512 := by rw [← hs]; exact pow_le hlg
  have d1 : decide ((lg : Int) < 0) = false := decide_eq_false (by omega)
  have d2 : decide (9 < (lg : Int)) = false := decide_eq_false (by omega)
  have hsh : wrap64 (2 ^ lg) = (s : Int) := pow_wrap hs hs5
  have g1 : Below w.heap.size w (w.alloc (.cells #[.int .i64 0, .slice none 0 0] 24)) := (Below.refl _ w).alloc (Nat.le_refl _) _
  have t1 := Tb.new w 0 none 0 0
  obtain ⟨w1, hw1⟩ : ∃ w1, w.alloc (.cells #[.int .i64 0, .slice none 0 0] 24) = w1 := ⟨_, rfl⟩
  rw [hw1] at g1 t1
  have hR1 := hR.below g1
  have SV := Lib.hid (survey_any w1 A (k.map (fun n : Nat => (n : Int))) N c (by rw [List.length_map]; exact hN) (by omega) (by show Rv _ _ _; rw [ri_nats]; exact hR1))
  have hmp : (k.map (fun n : Nat => (n : Int))).map Int.toNat = k := by rw [List.map_map]; exact (List.map_congr_left (g := id) (fun x _ => by simp)).trans (List.map_id k)
  have hfi : fine (k.map (fun n : Nat => (n : Int))) = true := by
    unfold fine
    rw [hmp, Bool.and_eq_true, decide_eq_true_iff, List.all_eq_true]
    exact ⟨fun z hz => by obtain ⟨x, _, rfl⟩ := List.mem_map.1 hz; simp, hT⟩
  obtain ⟨T, hTe⟩ : ∃ T, tot k = T := ⟨_, rfl⟩
  obtain ⟨u, hue⟩ : ∃ u, nus k = u := ⟨_, rfl⟩
  have hsv : srv (k.map (fun n : Nat => (n : Int))) = .tuple #[nv T, nv u, .bool true] := by
    rw [srv_yes (s := T) (u := u) hfi (by rw [hmp]; exact hTe) (by rw [hmp]; exact hue), decide_eq_true (show (0 : Int) < (u : Int) by omega)]
  rw [hsv] at SV
  have hT0 : 0 < T := by rw [← hTe]; exact nus_tot h0
  have DV := Lib.hid (divide_any w1 A k N c T s hN (by omega) hTe hT0 (by omega) hs5 hu hR1)
  have hus := usy_len k
  rw [hue] at hus hu h0
  have d3 : decide ((s : Int) < (u : Int)) = false := decide_eq_false (by omega)
  have ST : Hid (∀ w2 v, Dv w2 w1.heap.size w1.heap.size v (usy k) (shr k s) (st0 k s) T (lft k s) → Below w1.heap.size w1 w2 →
      Calls Try.prog 28 #[.pointer (some ⟨w1.heap.size, 0, none⟩)] w2 fun e w' => e = .returned (.tuple #[]) ∧ (∃ g c, Dv w' w1.heap.size w1.heap.size (.slice (some ⟨g, 0, none⟩) u c) (usy k) (shr k s) (fin k s) T 0) ∧ Below w1.heap.size w2 w') := Lib.hid (fun w2 v hd hb2 => by
    obtain ⟨A', c', rfl, _⟩ := own_form3 hd.own
    obtain ⟨g, rfl⟩ := own_some3 (by omega) hd.own
    rw [hus] at hd
    have h1 := settle_any w2 w1.heap.size w1.heap.size g u c' (usy k) (shr k s) (st0 k s) T (lft k s) hd hb2.size hus h0 (by omega) (usy_nodup k) (by omega) (rg0 k hs5 (by omega)) (lft_bd k hs5 (by omega)) (by unfold lft; omega)
    refine h1.mono ?_
    rintro e w' ⟨rfl, h2, h3⟩
    refine ⟨rfl, ⟨g, c', ?_⟩, h3⟩
    unfold fin
    rw [hTe]
    exact h2)
  have NM : Hid (∀ w3 g c', Dv w3 w1.heap.size w1.heap.size (.slice (some ⟨g, 0, none⟩) u c') (usy k) (shr k s) (fin k s) T 0 →
      Calls Try.prog 29 #[.pointer (some ⟨w1.heap.size, 0, none⟩)] w3 fun e w' => ∃ g', e = .returned (.slice (some ⟨g', 0, none⟩) (lst k + 1) (lst k + 1)) ∧ w'.ownsRow w3.heap.size 3 1 (.slice (some ⟨g', 0, none⟩) (lst k + 1) (lst k + 1)) (lst k + 1) ((nrm k s).map iv) ∧ Below w3.heap.size w3 w') := Lib.hid (fun w3 g c' hd => by
    have h1 := norms_any w3 w1.heap.size w1.heap.size g u c' (lst k) (usy k) (shr k s) (fin k s) T 0 hd hus h0 (by omega) (usy_last hus h0) usy_le (by have := lst_lt (k := k) (by omega); omega)
    rw [nrm_eq (by omega) hTe] at h1
    exact h1)
  have T1 := Lib.hid t1
  have G1 := Lib.hid g1
  have hlk : lst k + 1 = lst k + 1 := rfl
  obtain ⟨L, hL⟩ : ∃ L, lst k + 1 = L := ⟨_, rfl⟩
  rw [hL] at NM
  rw [hL]
  clear hN hR hT hs hTe hue hmp hfi hsv hR1 hus t1 g1 hL hlk
  go_enter Try.func15, Try.ntmps15
  go_wp2_with (first
    | (go_at_call 26; refine SV.out.mono ?_; rintro e w' ⟨rfl, rfl⟩)
    | (go_at_call 27; refine DV.out.mono ?_; rintro e w2 ⟨v, rfl, hd2, hb2⟩; have D2 := Lib.hid hd2; have B2 := Lib.hid hb2; clear hd2 hb2)
    | (go_at_call 28; refine (ST.out w2 v D2.out B2.out).mono ?_; rintro e w3 ⟨rfl, ⟨g3, c3, hd3⟩, hb3⟩; have D3 := Lib.hid hd3; have B3 := Lib.hid (Below.trans B2.out hb3); clear hd3 hb3)
    | (go_at_call 29; refine (NM.out w3 g3 c3 D3.out).mono ?_; rintro e w4 ⟨g4, rfl, ho4, hb4⟩; have O4 := Lib.hid ho4; have B4 := Lib.hid (below_on B3.out (Nat.le_refl _) hb4); have t4 := T1.out.below B4.out; have c0 := t4.c0; have f0 := t4.free 0; obtain ⟨Wa, hWa⟩ : ∃ Wa, w4.setCell ⟨w.heap.size, 0, none⟩ (.int .i64 (lg : Int)) = Wa := ⟨_, rfl⟩; have ta : Tb Wa w.heap.size lg none 0 0 := (by rw [← hWa]; exact t4.set0 lg); have c1 := ta.c1; have f1 := ta.free 1; obtain ⟨Wb, hWb⟩ : ∃ Wb, Wa.setCell ⟨w.heap.size, 1, none⟩ (.slice (some ⟨g4, 0, none⟩) L L) = Wb := ⟨_, rfl⟩; have t5 : Tb Wb w.heap.size lg (some ⟨g4, 0, none⟩) L L := (by rw [← hWb]; exact ta.set1 _ _ _); have FN := Lib.hid (nrz_fin T1.out G1.out B3.out O4.out hb4 (show (w4.setCell ⟨w.heap.size, 0, none⟩ (.int .i64 (lg : Int))).setCell ⟨w.heap.size, 1, none⟩ (.slice (some ⟨g4, 0, none⟩) L L) = Wb by rw [hWa, hWb])); have T5 := Lib.hid t5; clear ho4 hb4 t4 ta t5))
  refine bodyPost_ret (results_cell2 rfl rfl T5.out.load) rfl ?_
  exact ⟨g4, rfl, FN.out⟩

end Go.Proofs.Ytkojdhmgefggjaa
