/-
  Proved: the law TallyRises returns true for any counts and any number: Increasing hands on the used symbols by increasing count, can be left early and used again. No condition.
-/
import Derived.LoopN
import Derived.LoopNIn
import Derived.Test.YtdlhfcapfbbjjaaFrm
import Derived.Test.YtdlhfcapfbbjjaaEqa
namespace Go.Proofs.Ytdlhfcapfbbjjaa.tallyRises
open Go.ChangeShapes Go.WideShapes Go.ChangeAt Go.RowKit Go.Shelf

attribute [local go_sem] Oper.semAt_some

theorem fn_nil (W : World) (cs : Array Value) : (binOp BinOp.eql 53 (.func (.func 53) #[] cs) .nilFunc).run Try.prog W = .ok (.bool false) W := by
  first
    | kernel_rfl
    | rfl
theorem boxed_below {W W' : World} {B : Nat} {t : TypeId} {v : Value} (h : Boxed W B t v) (hb : Below W.heap.size W W') : Boxed W' B t v := (hb.block B h.lt).trans h
theorem boxed_same {W W' : World} {B : Nat} {t : TypeId} {v : Value} (h : Boxed W B t v) (hb : W'.heap[B]? = W.heap[B]?) : Boxed W' B t v := hb.trans h
/-- What stands before each turn. -/
structure Tst (w : World) (hm wt tk Bx r c' ci : Nat) (many t : Int) (A' Ai : Option Addr) (S : List (Nat × Nat)) (W : World) : Prop where
  mb : Boxed W hm 3 (.int .i64 many)
  rb : Boxed W (hm + 1) 4 (.bool false)
  wb : Boxed W wt 50 (.slice A' r c')
  tb : Boxed W tk 3 (.int .i64 t)
  rd : RdE W A' S
  kp : KpI Ai S r ci Bx W
  bel : Below w.heap.size w W
theorem Tst.below {w W W' : World} {hm wt tk Bx r c' ci : Nat} {many t : Int} {A' Ai : Option Addr} {S : List (Nat × Nat)} (h : Tst w hm wt tk Bx r c' ci many t A' Ai S W) (hb : Below W.heap.size W W') : Tst w hm wt tk Bx r c' ci many t A' Ai S W' :=
  ⟨boxed_below h.mb hb, boxed_below h.rb hb, boxed_below h.wb hb, boxed_below h.tb hb, rde_below h.rd hb (Nat.le_refl _), kpi_below h.kp hb (Nat.le_refl _), below_on h.bel (Nat.le_refl _) hb⟩
/-- The copy of the counts is overwritten. -/
structure Cst (w W3 : World) (N c4 Bx r ci : Nat) (A4 Ai : Option Addr) (S : List (Nat × Nat)) (W : World) : Prop where
  row : ∃ xs, W.ownsRow W3.heap.size 3 1 (.slice A4 N c4) N xs
  kp : KpI Ai S r ci Bx W
  bel : Below W3.heap.size W3 W
theorem Cst.next {w W3 : World} {N c4 Bx r ci H : Nat} {A4 Ai : Option Addr} {S : List (Nat × Nat)} {W : World} (h : Cst w W3 N c4 Bx r ci A4 Ai S W) (hH : ∀ ad, A4 = some ad → ad.block < H) (hB : H ≤ Bx) (hA : ∀ ad, Ai = some ad → H ≤ ad.block) {j : Nat} (hj : j < N) :
    ∃ g u, A4 = some ⟨g, 0, none⟩ ∧ W.cell? ⟨g, j, none⟩ = some u ∧ W.frozen? ⟨g, j, none⟩ = false ∧ Cst w W3 N c4 Bx r ci A4 Ai S (W.setCell ⟨g, j, none⟩ (.int .i64 1)) := by
  obtain ⟨xs, ho⟩ := h.row
  have hl : xs.length = N := by have := ho.1; omega
  obtain ⟨g, rfl⟩ : ∃ g, A4 = some ⟨g, 0, none⟩ := by
    rcases ho.2 with ⟨_, h1⟩ | ⟨g, c', cur, h1, _⟩
    · omega
    · injection h1 with h1
      exact ⟨g, h1⟩
  have hg2 : W3.heap.size ≤ g := (ho.lt g rfl).1
  have hgH : g < H := hH _ rfl
  obtain ⟨u, hu⟩ : ∃ u, xs[j]? = some u := ⟨_, List.getElem?_eq_getElem (by omega)⟩
  have hh : ∀ k, k ≠ g → (W.setCell ⟨g, j, none⟩ (.int .i64 1)).heap[k]? = W.heap[k]? := fun k hk => Below.heap_setCell _ _ _ _ hk
  refine ⟨g, u, rfl, by rw [ho.cellAt j (by omega)]; exact hu, ho.frozenAt j, ⟨_, (ho.stored j _).1⟩, ⟨(hh Bx (by omega)).trans h.kp.1, fun i p hp => ?_⟩, h.bel.setCell (p := ⟨g, j, none⟩) hg2 _⟩
  obtain ⟨g2, e, h1, h2⟩ := h.kp.2 i p hp
  have hne : g2 ≠ g := by have := hA _ e; simp only at this; omega
  exact ⟨g2, e, (World.cell?_of_block (hh _ hne)).trans h1, (World.cell?_of_block (hh _ hne)).trans h2⟩

set_option maxRecDepth 100000 in
set_option maxHeartbeats 4000000 in
theorem walk_long (A : Option Addr) (N cap : Nat) (many : Int) (w : World) (h : 400 < N) :
    Calls Try.prog 11 #[.slice A N cap, .int .i64 many] w fun e w' => e = .returned (.bool true) ∧ Below w.heap.size w w' := by
  have hd : decide ((400 : Int) < (N : Int)) = true := decide_eq_true (by omega)
  have b0 := bel_new w (.cells #[.int .i64 many] 3)
  have q0 := Boxed.new w 3 (.int .i64 many)
  have b1 := below_on b0 (Nat.le_refl _) (bel_new (w.alloc (.cells #[.int .i64 many] 3)) (.cells #[.bool false] 4))
  have p1 : Boxed ((w.alloc (.cells #[.int .i64 many] 3)).alloc (.cells #[.bool false] 4)) (w.heap.size + 1) 4 (.bool false) := by
    have := Boxed.new (w.alloc (.cells #[.int .i64 many] 3)) 4 (.bool false)
    rwa [World.size_alloc] at this
  have q1 := q0.alloc (.cells #[.bool false] 4)
  have z1 : ((w.alloc (.cells #[.int .i64 many] 3)).alloc (.cells #[.bool false] 4)).heap.size = w.heap.size + 2 := by simp
  obtain ⟨w1, hw1⟩ : ∃ w1, (w.alloc (.cells #[.int .i64 many] 3)).alloc (.cells #[.bool false] 4) = w1 := ⟨_, rfl⟩
  rw [hw1] at p1 q1 z1 b1
  have B1 := Lib.hid b1
  have P1 := Lib.hid p1
  have Q1 := Lib.hid q1
  have WK : Hid (∀ W, Calls Try.prog 13 #[] W fun e w' => e = .returned (.bool true) ∧ Below W.heap.size W w') := Lib.hid (fun W => works_any W)
  clear b0 b1 q0 q1 p1
  refine (callsIn_wide (n := 8)).1 ?_
  refine callsIn_of_wp_marks Try.func11 rfl trivial ?_ rfl
  simp only [Try.ntmps11, List.size_toArray, List.length_cons, List.length_nil, Nat.reduceAdd, Nat.reduceSub, Array.replicate_succ, Array.replicate_zero, List.push_toArray, List.append_toArray, List.nil_append, List.cons_append]
  refine wpIn_wide.2 ?_
  go_wp2_with (go_at_call 13; refine (WK.out w1).mono ?_; rintro e w9 ⟨rfl, hb⟩; have B9 := Lib.hid (below_on B1.out (Nat.le_refl _) hb); have p9 := boxed_below P1.out hb; have c9 := p9.cell; have f9 := p9.frozen; have P9 := Lib.hid (p9.set (.bool true)); clear p9 hb)
  have ld : (loadVar 4 ⟨w.heap.size + 1, 0, none⟩).run Try.prog (w9.setCell ⟨w.heap.size + 1, 0, none⟩ (.bool true)) = .ok (.bool true) (w9.setCell ⟨w.heap.size + 1, 0, none⟩ (.bool true)) := by
    have cd := P9.out.cell
    simp [loadVar, go_sem, cd]
  exact ⟨_, results_cell rfl rfl ld, rfl, B9.out.setCell (p := ⟨w.heap.size + 1, 0, none⟩) (by show w.heap.size ≤ w.heap.size + 1; omega) _⟩

set_option maxRecDepth 100000 in
set_option maxHeartbeats 16000000 in
theorem walk_ok (A : Option Addr) (l : List Int) (N cap : Nat) (many : Int) (w : World) (hN : l.length = N) (h : N ≤ 400) (hR : Ri w A l) :
    Calls Try.prog 11 #[.slice A N cap, .int .i64 many] w fun e w' => e = .returned (.bool true) ∧ Below w.heap.size w w' := by
  have hd : decide ((400 : Int) < (N : Int)) = false := decide_eq_false (by omega)
  have b0 := bel_new w (.cells #[.int .i64 many] 3)
  have q0 := Boxed.new w 3 (.int .i64 many)
  have b1 := below_on b0 (Nat.le_refl _) (bel_new (w.alloc (.cells #[.int .i64 many] 3)) (.cells #[.bool false] 4))
  have p1 : Boxed ((w.alloc (.cells #[.int .i64 many] 3)).alloc (.cells #[.bool false] 4)) (w.heap.size + 1) 4 (.bool false) := by
    have := Boxed.new (w.alloc (.cells #[.int .i64 many] 3)) 4 (.bool false)
    rwa [World.size_alloc] at this
  have q1 := q0.alloc (.cells #[.bool false] 4)
  have z1 : ((w.alloc (.cells #[.int .i64 many] 3)).alloc (.cells #[.bool false] 4)).heap.size = w.heap.size + 2 := by simp
  obtain ⟨w1, hw1⟩ : ∃ w1, (w.alloc (.cells #[.int .i64 many] 3)).alloc (.cells #[.bool false] 4) = w1 := ⟨_, rfl⟩
  rw [hw1] at p1 q1 z1 b1
  have B1 := Lib.hid b1
  have P1 := Lib.hid p1
  have Q1 := Lib.hid q1
  have WK : Hid (∀ W, Calls Try.prog 13 #[] W fun e w' => e = .returned (.bool true) ∧ Below W.heap.size W w') := Lib.hid (fun W => works_any W)
  have RI := Lib.hid (rising_u w1 A l N cap hN (hR.below B1.out))
  have R1 := Lib.hid (hR.below B1.out)
  have HN := Lib.hid hN
  have HIV : Hid ((l.map iv).length = N ∧ ∀ u ∈ l.map iv, u.oneCell' = true) := Lib.hid ⟨by rw [List.length_map]; exact hN, fun u hu => by obtain ⟨b, _, rfl⟩ := List.mem_map.1 hu; rfl⟩
  clear b0 b1 q0 q1 p1 hR hN
  refine (callsIn_wide (n := 8)).1 ?_
  refine callsIn_of_wp_marks Try.func11 rfl trivial ?_ rfl
  simp only [Try.ntmps11, List.size_toArray, List.length_cons, List.length_nil, Nat.reduceAdd, Nat.reduceSub, Array.replicate_succ, Array.replicate_zero, List.push_toArray, List.append_toArray, List.nil_append, List.cons_append]
  refine wpIn_wide.2 ?_
  go_wp2_with (first
    | (go_at_call 34; refine RI.out.mono ?_; rintro e w2 ⟨S, A', r, c', rfl, hSl, hr, hL, hrd, hb2⟩; have HSL := Lib.hid hSl; have HL := Lib.hid hL; have x2 := Boxed.new w2 50 (.slice none 0 0); have bx := bel_new w2 (.cells #[.slice none 0 0] 50); have cx := x2.cell; have fx := x2.frozen; obtain ⟨W3, hW3⟩ : ∃ W3, (w2.alloc (.cells #[.slice none 0 0] 50)).setCell ⟨w2.heap.size, 0, none⟩ (.slice A' r c') = W3 := ⟨_, rfl⟩; have x3 : Boxed W3 w2.heap.size 50 (.slice A' r c') := (by rw [← hW3]; exact x2.set _); have b23 : Below w2.heap.size w2 W3 := (by rw [← hW3]; exact bx.setCell (p := ⟨w2.heap.size, 0, none⟩) (Nat.le_refl _) _); have X3 := Lib.hid x3; have B2 := Lib.hid hb2; have B23 := Lib.hid b23; have RD3 := Lib.hid (rde_below hrd b23 (Nat.le_refl _)); have B3 := Lib.hid (below_on hb2 (Nat.le_refl _) b23); have RA := Lib.hid ((R1.out.below (below_on hb2 (Nat.le_refl _) b23)).below (bel_new W3 (.cells #[] 3))); have HR := Lib.hid hr; clear hSl hL hrd hb2 x2 bx x3 b23 hr)
    | (at_builtin; refine wpList_append_vals Try.underlying26 int_info rfl rfl _ _ rfl W3.heap.size (.slice (some ⟨W3.heap.size, 0, none⟩) 0 0) 0 [] rfl (World.ownsRow_made W3 #[] 0 (Nat.le_refl _) (by unfold maxLen; omega) rfl) A (l.map iv) HIV.out.2 N cap HIV.out.1 rfl RA.out (by omega) (by omega) (bel_new W3 (.cells #[] 3)).size ?_; intro v4 w4 ho4 hg4 _; rw [Nat.zero_add, List.nil_append] at ho4; obtain ⟨A4, c4, rfl, hc4⟩ := own_form ho4; have O4 := Lib.hid ho4; have B34 : Hid (Below W3.heap.size W3 w4) := Lib.hid (Below.grown (bel_new W3 (.cells #[] 3)) hg4 (bel_new W3 (.cells #[] 3)).size (fun k e => by simp [Value.ownBlock] at e; omega)); have HC4 := Lib.hid hc4; have IN := Lib.hid (incr_u w4 A4 l N c4 HN.out hc4 (Rv.of_own ho4) S r HL.out HSL.out); clear ho4 hg4 hc4)
    | (go_at_call 35; refine IN.out.mono ?_; rintro e w5 ⟨Bx, Ai, ci, rfl, hkp, hBx, hAi, hb5⟩; have fq := fun W => fn_nil W #[.pointer (some ⟨Bx, 0, none⟩)]; have HK5 := Lib.hid (And.intro hBx hAi); have CS : Hid (Cst w W3 N c4 Bx r ci A4 Ai S w5) := Lib.hid ⟨⟨_, own_below O4.out hb5⟩, hkp, below_on B34.out (Nat.le_refl _) hb5⟩; clear hkp hBx hAi hb5))
  have HA4 : Hid (∀ ad, A4 = some ad → ad.block < w4.heap.size) := Lib.hid (fun ad e => by
    have h1 := O4.out.2
    rcases h1 with ⟨h2, _⟩ | ⟨g, c', cur, h2, _, h3, _⟩
    · injection h2 with h2
      rw [h2] at e
      cases e
    · injection h2 with h2
      rw [h2] at e
      injection e with e
      rw [← e]
      exact (Array.getElem?_eq_some_iff.1 h3).1)
  clear RI IN RA HIV O4 B34
  go_loopw [8] (fun p wr => ∃ i : Nat, i ≤ N ∧ p = .int .i64 (i : Int) ∧ Hid (Cst w W3 N c4 Bx r ci A4 Ai S wr)) (fun p _ => N - (intOf p).toNat)
  case atStart => exact ⟨0, Nat.zero_le _, rfl, CS⟩
  case round =>
    obtain ⟨i, hi, rfl, HC⟩ := hrel
    clear CS
    by_cases hlt : i < N
    · obtain ⟨gc, u, hA, cu, fu, hn⟩ := HC.out.next HA4.out HK5.out.1 HK5.out.2 hlt
      subst hA
      have H9 := Lib.hid hn
      have wj : IntKind.i64.wrap (i : Int) = (i : Int) := IntWalk.i64_in _ (by omega)
      clear hn HC
      go_wp2
      exact ⟨⟨i + 1, by omega, by simp, H9⟩, by simp [intOf]; omega⟩
    · have y2 := Boxed.new wr 3 (.int .i64 0)
      have by2 := bel_new wr (.cells #[.int .i64 0] 3)
      have b37 := below_on HC.out.bel (Nat.le_refl _) by2
      obtain ⟨wt, hwt⟩ : ∃ wt, w2.heap.size = wt := ⟨_, rfl⟩
      obtain ⟨tk, htk⟩ : ∃ tk, wr.heap.size = tk := ⟨_, rfl⟩
      have X3' := X3.out
      rw [hwt] at X3'
      rw [htk] at y2
      have TS : Hid (Tst w w.heap.size wt tk Bx r c' ci many 0 A' Ai S (wr.alloc (.cells #[.int .i64 0] 3))) := Lib.hid ⟨boxed_below (boxed_below Q1.out B3.out) b37, boxed_below (boxed_below P1.out B3.out) b37, boxed_below X3' b37, y2, rde_below RD3.out b37 (Nat.le_refl _), kpi_below HC.out.kp by2 (Nat.le_refl _), below_on (below_on B1.out (Nat.le_refl _) B3.out) (Nat.le_refl _) b37⟩
      have NB : Hid (Boxed ((wr.alloc (.cells #[.int .i64 0] 3)).alloc (.cells #[.int .i64 0] 3)) (tk + 1) 3 (.int .i64 ((0 : Nat) : Int))) := Lib.hid (by
        have h9 := Boxed.new (wr.alloc (.cells #[.int .i64 0] 3)) 3 (.int .i64 0)
        rw [World.size_alloc, htk] at h9
        exact h9)
      have SZ : Hid ((wr.alloc (.cells #[.int .i64 0] 3)).heap.size = tk + 1 ∧ ((wr.alloc (.cells #[.int .i64 0] 3)).alloc (.cells #[.int .i64 0] 3)).heap.size = tk + 1 + 1) := Lib.hid ⟨by rw [World.size_alloc, htk], by rw [World.size_alloc, World.size_alloc, htk]⟩
      have BN := Lib.hid (bel_new (wr.alloc (.cells #[.int .i64 0] 3)) (.cells #[.int .i64 0] 3))
      have HTK : Hid (w.heap.size + 2 ≤ tk) := Lib.hid (by have h9 := B3.out.size; have h8 := HC.out.bel.size; omega)
      simp only [hwt]
      clear y2 by2 b37 X3' X3 RD3 HC
      go_wp2
      refine wp_loop_rounds 3 ?_
      rw [rounds_succ]
      go_wp2
      generalize hW7 : wr.alloc (.cells #[.int .i64 0] 3) = W7 at TS NB SZ BN ⊢
      generalize hW8 : W7.alloc (.cells #[.int .i64 0] 3) = W8 at NB SZ BN ⊢
      clear hW3 hW7 hW8 hwt htk
      refine (wpIn_wide (n := 8)).1 ?_
      have KB : Hid (∀ W, Chg (fun k => k = tk + 1) W8 W → Tst w w.heap.size wt tk Bx r c' ci many 0 A' Ai S W ∧ Below W7.heap.size W7 W) := Lib.hid (fun W hc => by
        have h9 : Below W7.heap.size W7 W := BN.out.trans (hc.new (B := W7.heap.size) BN.out.size (fun k (e : k = tk + 1) => by have := SZ.out; omega))
        exact ⟨TS.out.below h9, h9⟩)
      have hz8 : W8.heap.size = tk + 1 + 1 := SZ.out.2
      refine range_n rfl (by decide) (gf := 53) (lb := #[.pointer (some ⟨Bx, 0, none⟩)]) rfl trivial (enters_of Try.func53 (by kernel_rfl) rfl)
        (N := r) (enc := entAt S) (Kp := KpI Ai S r ci Bx) (fun _ => rfl) (incr2_hands (8 - 1) (by decide) Ai S r ci Bx HSL.out HR.out)
        (fun k => k = tk + 1) (by show ¬ W8.heap.size = tk + 1; omega) (by show ¬ W8.heap.size + 1 = tk + 1; omega) (fun j W => Boxed W (tk + 1) 3 (.int .i64 ((j : Nat) : Int)) ∧ (j = 0 ∨ (j : Int) < many)) (fun cd W => cd = .exit 4 ∧ ∃ j : Nat, 1 ≤ j ∧ j ≤ r ∧ Boxed W (tk + 1) 3 (.int .i64 (j : Int)) ∧ many ≤ (j : Int) ∧ (j = 1 ∨ (j : Int) - 1 < many))
        (fun j W W' hal hp => ⟨boxed_same hp.1 (hal _ (by omega) (by omega)), hp.2⟩)
        (fun cd W W' hal hp => by obtain ⟨e, j, h1, h2, h3, h4⟩ := hp; exact ⟨e, j, h1, h2, boxed_same h3 (hal _ (by omega) (by omega)), h4⟩)
        (fun j W W' hb hp => ⟨boxed_below hp.1 hb, hp.2⟩)
        (fun j W hc _ => (KB.out W hc).1.kp) ⟨NB.out, .inl rfl⟩
        (fun j => { tmps := #[Value.slice A N cap, Value.int IntKind.i64 many, undef, Value.pointer (some { block := w.heap.size, off := 0 }), Value.pointer (some { block := w.heap.size + 1, off := 0 }), Value.pointer (some { block := wt, off := 0 }), Value.slice A4 N c4, Value.func (Fn.func 53) #[] #[Value.pointer (some { block := Bx, off := 0 })], Value.int IntKind.i64 ↑i, Value.pointer (some { block := tk, off := 0 }), Value.pointer (some { block := tk + 1, off := 0 }), nv (S[j]?.getD (0, 0)).1, nv (S[j]?.getD (0, 0)).2, Value.slice A N cap, Value.int IntKind.i64 ↑N, Value.bool false, undef, Value.slice A N cap, Value.slice A' r c', Value.slice (some { block := W3.heap.size, off := 0 }) 0 0, Value.slice A N cap, Value.slice A4 N c4, Value.slice A4 N c4, Value.func (Fn.func 53) #[] #[Value.pointer (some { block := Bx, off := 0 })], Value.func (Fn.func 53) #[] #[Value.pointer (some { block := Bx, off := 0 })], Value.bool false, Value.int IntKind.i64 ↑i, Value.slice A4 N c4, Value.int IntKind.i64 ↑N, Value.bool false, u30, u31, u32, u33, u34, Value.int IntKind.i64 0, Value.bool true, undef, undef, Value.func (Fn.func 53) #[] #[Value.pointer (some { block := Bx, off := 0 })], nv (S[j]?.getD (0, 0)).1, nv (S[j]?.getD (0, 0)).2, undef, undef, undef, undef, undef, undef, undef, undef, undef, undef, undef, undef, undef, undef, undef, undef, undef, undef, undef, undef, undef, undef, undef, undef, undef, undef, undef, undef, undef, undef, undef, undef, undef, undef, undef, undef, undef, undef, undef, undef, undef, undef, undef, undef, undef, undef], defers := [] }) ?assigna0 ?bodya0 ?donea0 ?stopa0
      case assigna0 =>
        intro l' j W2 K _ hK
        simp only [entAt]
        gi_wp2
        exact hK
      case bodya0 =>
        rintro l' j W2 hj hg2 hs2 hp2
        obtain ⟨⟨sx, yx⟩, hx⟩ : ∃ p, S[j]? = some p := ⟨_, List.getElem?_eq_getElem (by rw [HSL.out]; exact hj)⟩
        have hgd : S[j]?.getD (0, 0) = (sx, yx) := by rw [hx]; rfl
        obtain ⟨kt, _⟩ := KB.out W2 hg2
        obtain ⟨gA, hA', ca, cb⟩ := kt.rd j _ hx
        subst hA'
        have cw := kt.wb.cell
        have ck := hp2.1.cell
        have fk := hp2.1.frozen
        simp only [hgd, nv] at ca cb ⊢
        have u1 : decide ((r : Int) ≤ (j : Int)) = false := decide_eq_false (by omega)
        have u2 : ¬ r ≤ j := by omega
        have hj5 : j ≤ 300 := by have := HR.out; omega
        have wj : IntKind.i64.wrap (j : Int) = (j : Int) := IntWalk.i64_in _ (by omega)
        have eqv := fun W => eq2 (sx : Int) (yx : Int) W
        obtain ⟨W3', hW3'⟩ : ∃ W3', W2.setCell ⟨tk + 1, 0, none⟩ (.int .i64 ((j : Int) + 1)) = W3' := ⟨_, rfl⟩
        have b3 : Boxed W3' (tk + 1) 3 (.int .i64 ((j + 1 : Nat) : Int)) := by rw [← hW3', Int.natCast_add]; exact hp2.1.set _
        have c3 : Chg (fun k => k = tk + 1) W2 W3' := by rw [← hW3']; exact Chg.set (Chg.refl (fun k => k = tk + 1) W2) ⟨tk + 1, 0, none⟩ (by exact rfl) _
        obtain ⟨kt3, _⟩ := KB.out W3' (hg2.trans c3)
        have ct3 := kt3.tb.cell
        have cm3 := kt3.mb.cell
        have cn3 := b3.cell
        rw [Int.natCast_add] at cn3
        have C3 := Lib.hid c3
        have H3 := Lib.hid b3
        have hcond := hp2.2
        clear kt kt3 hx hgd hp2 hg2 b3 c3
        by_cases hmany : many ≤ (j : Int) + 1
        · have k1 : decide (many ≤ (j : Int) + 1) = true := decide_eq_true hmany
          gi_wp2
          refine ⟨C3.out, ?_⟩
          show (Code.exit 4 = Code.exit 4) ∧ _
          exact ⟨rfl, j + 1, by omega, by omega, H3.out, by omega, by rcases hcond with hc | hc <;> omega⟩
        · have k1 : decide (many ≤ (j : Int) + 1) = false := decide_eq_false hmany
          gi_wp2
          exact ⟨C3.out, H3.out⟩
      case donea0 =>
        rintro W2 hK hg2 hs2 hp2
        have cn := hp2.1.cell
        have hcase : r = 0 ∨ (r : Int) < many := hp2.2
        clear hp2
        obtain ⟨kt, _⟩ := KB.out W2 hg2
        have ct := kt.tb.cell
        have cw := kt.wb.cell
        have cm := kt.mb.cell
        have T2 := Lib.hid kt
        have HD2 : Hid (W2.heap[tk + 1 + 1]? = some (.deferred (some []))) := Lib.hid (by rw [← hz8]; exact hK)
        have HZ2 : Hid (tk + 1 + 1 < W2.heap.size) := Lib.hid (by omega)
        obtain ⟨M, hM⟩ : ∃ M, max 1 many = M := ⟨_, rfl⟩
        have hMn : min (r : Int) M = (r : Int) := by omega
        have hnn5 : r ≤ 300 := by have := HR.out; omega
        clear hK hg2 kt hcase
        go_wp2
        rw [rounds_succ]
        obtain ⟨tk2, htk2⟩ : ∃ tk2, W2.heap.size = tk2 := ⟨_, rfl⟩
        have TS2 : Hid (Tst w w.heap.size wt tk2 Bx r c' ci many 1 A' Ai S (W2.alloc (.cells #[.int .i64 1] 3))) := Lib.hid (by
          have h9 := T2.out.below (bel_new W2 (.cells #[.int .i64 1] 3))
          have h8 := Boxed.new W2 3 (.int .i64 1)
          rw [htk2] at h8
          exact ⟨h9.mb, h9.rb, h9.wb, h8, h9.rd, h9.kp, h9.bel⟩)
        have NB2 : Hid (Boxed ((W2.alloc (.cells #[.int .i64 1] 3)).alloc (.cells #[.int .i64 0] 3)) (tk2 + 1) 3 (.int .i64 ((0 : Nat) : Int))) := Lib.hid (by
          have h9 := Boxed.new (W2.alloc (.cells #[.int .i64 1] 3)) 3 (.int .i64 0)
          rw [World.size_alloc, htk2] at h9
          exact h9)
        have SZ2 : Hid ((W2.alloc (.cells #[.int .i64 1] 3)).heap.size = tk2 + 1 ∧ ((W2.alloc (.cells #[.int .i64 1] 3)).alloc (.cells #[.int .i64 0] 3)).heap.size = tk2 + 1 + 1) := Lib.hid ⟨by rw [World.size_alloc, htk2], by rw [World.size_alloc, World.size_alloc, htk2]⟩
        have BN2 := Lib.hid (bel_new (W2.alloc (.cells #[.int .i64 1] 3)) (.cells #[.int .i64 0] 3))
        have HD3 : Hid (((W2.alloc (.cells #[.int .i64 1] 3)).alloc (.cells #[.int .i64 0] 3)).heap[tk + 1 + 1]? = some (.deferred (some []))) := Lib.hid (((below_on (bel_new W2 (.cells #[.int .i64 1] 3)) (Nat.le_refl _) (bel_new _ (.cells #[.int .i64 0] 3))).block _ HZ2.out).trans HD2.out)
        have HZ3 : Hid (tk + 1 + 1 < tk2) := Lib.hid (by have := HZ2.out; omega)
        clear ct cw cm cn hM hMn T2 HD2 HZ2
        go_wp2
        generalize hW7 : W2.alloc (.cells #[.int .i64 1] 3) = Wt2 at TS2 NB2 SZ2 BN2 HD3 ⊢
        generalize hW8 : Wt2.alloc (.cells #[.int .i64 0] 3) = Wn2 at NB2 SZ2 BN2 HD3 ⊢
        simp only [htk2]
        clear hW7 hW8 htk2
        refine (wpIn_wide (n := 8)).1 ?_
        have KB : Hid (∀ W, Chg (fun k => k = tk2 + 1) Wn2 W → Tst w w.heap.size wt tk2 Bx r c' ci many 1 A' Ai S W ∧ Below Wt2.heap.size Wt2 W) := Lib.hid (fun W hc => by
          have h9 : Below Wt2.heap.size Wt2 W := BN2.out.trans (hc.new (B := Wt2.heap.size) BN2.out.size (fun k (e : k = tk2 + 1) => by have := SZ2.out; omega))
          exact ⟨TS2.out.below h9, h9⟩)
        have hz8 : Wn2.heap.size = tk2 + 1 + 1 := SZ2.out.2
        refine range_n rfl (by decide) (gf := 53) (lb := #[.pointer (some ⟨Bx, 0, none⟩)]) rfl trivial (enters_of Try.func53 (by kernel_rfl) rfl)
          (N := r) (enc := entAt S) (Kp := KpI Ai S r ci Bx) (fun _ => rfl) (incr2_hands (8 - 1) (by decide) Ai S r ci Bx HSL.out HR.out)
          (fun k => k = tk2 + 1) (by show ¬ Wn2.heap.size = tk2 + 1; omega) (by show ¬ Wn2.heap.size + 1 = tk2 + 1; omega) (fun j W => Boxed W (tk2 + 1) 3 (.int .i64 ((j : Nat) : Int))) (fun _ _ => False)
          (fun j W W' hal hp => boxed_same hp (hal _ (by omega) (by omega)))
          (fun cd W W' hal hp => hp)
          (fun j W W' hb hp => boxed_below hp hb)
          (fun j W hc _ => (KB.out W hc).1.kp) NB2.out
          (fun j => { tmps := #[Value.slice A N cap, Value.int IntKind.i64 many, undef, Value.pointer (some { block := w.heap.size, off := 0 }), Value.pointer (some { block := w.heap.size + 1, off := 0 }), Value.pointer (some { block := wt, off := 0 }), Value.slice A4 N c4, Value.func (Fn.func 53) #[] #[Value.pointer (some { block := Bx, off := 0 })], Value.int IntKind.i64 ↑i, Value.pointer (some { block := tk2, off := 0 }), Value.pointer (some { block := tk2 + 1, off := 0 }), nv (S[j]?.getD (0, 0)).1, nv (S[j]?.getD (0, 0)).2, Value.slice A N cap, Value.int IntKind.i64 ↑N, Value.bool false, undef, Value.slice A N cap, Value.slice A' r c', Value.slice (some { block := W3.heap.size, off := 0 }) 0 0, Value.slice A N cap, Value.slice A4 N c4, Value.slice A4 N c4, Value.func (Fn.func 53) #[] #[Value.pointer (some { block := Bx, off := 0 })], Value.func (Fn.func 53) #[] #[Value.pointer (some { block := Bx, off := 0 })], Value.bool false, Value.int IntKind.i64 ↑i, Value.slice A4 N c4, Value.int IntKind.i64 ↑N, Value.bool false, u30, u31, u32, u33, u34, Value.int IntKind.i64 1, Value.bool true, Value.int IntKind.i64 0, Value.int IntKind.i64 1, Value.func (Fn.func 53) #[] #[Value.pointer (some { block := Bx, off := 0 })], nv (S[j]?.getD (0, 0)).1, nv (S[j]?.getD (0, 0)).2, undef, undef, undef, undef, undef, undef, undef, undef, undef, undef, undef, undef, undef, undef, undef, undef, undef, undef, undef, undef, undef, undef, undef, Value.int IntKind.i64 0, Value.bool true, Value.bool true, Value.int IntKind.i64 ↑r, Value.slice A' r c', Value.int IntKind.i64 ↑r, Value.int IntKind.i64 many, Value.int IntKind.i64 M, Value.int IntKind.i64 ↑r, Value.bool false, Value.bool false, Value.bool false, Value.int IntKind.i64 0, Value.bool false, Value.bool false, undef, undef, undef, undef, Value.bool false, Value.bool false, Value.int IntKind.i64 0, undef], defers := [] }) ?assignba ?bodyba ?doneba ?stopba
        case assignba =>
          intro l' j W2 K _ hK
          simp only [entAt]
          gi_wp2
          exact hK
        case bodyba =>
          rintro l' j W2 hj hg2 hs2 hp2
          obtain ⟨⟨sx, yx⟩, hx⟩ : ∃ p, S[j]? = some p := ⟨_, List.getElem?_eq_getElem (by rw [HSL.out]; exact hj)⟩
          have hgd : S[j]?.getD (0, 0) = (sx, yx) := by rw [hx]; rfl
          obtain ⟨kt, _⟩ := KB.out W2 hg2
          obtain ⟨gA, hA', ca, cb⟩ := kt.rd j _ hx
          subst hA'
          have cw := kt.wb.cell
          have ck := hp2.cell
          have fk := hp2.frozen
          simp only [hgd, nv] at ca cb ⊢
          have u1 : decide ((r : Int) ≤ (j : Int)) = false := decide_eq_false (by omega)
          have u2 : ¬ r ≤ j := by omega
          have hj5 : j ≤ 300 := by have := HR.out; omega
          have wj : IntKind.i64.wrap (j : Int) = (j : Int) := IntWalk.i64_in _ (by omega)
          have eqv := fun W => eq2 (sx : Int) (yx : Int) W
          obtain ⟨W3', hW3'⟩ : ∃ W3', W2.setCell ⟨tk2 + 1, 0, none⟩ (.int .i64 ((j : Int) + 1)) = W3' := ⟨_, rfl⟩
          have b3 : Boxed W3' (tk2 + 1) 3 (.int .i64 ((j + 1 : Nat) : Int)) := by rw [← hW3', Int.natCast_add]; exact hp2.set _
          have c3 : Chg (fun k => k = tk2 + 1) W2 W3' := by rw [← hW3']; exact Chg.set (Chg.refl (fun k => k = tk2 + 1) W2) ⟨tk2 + 1, 0, none⟩ (by exact rfl) _
          obtain ⟨kt3, _⟩ := KB.out W3' (hg2.trans c3)
          have ct3 := kt3.tb.cell
          have cm3 := kt3.mb.cell
          have cn3 := b3.cell
          rw [Int.natCast_add] at cn3
          have C3 := Lib.hid c3
          have H3 := Lib.hid b3
          clear kt kt3 hx hgd hp2 hg2 b3 c3
          gi_wp2
          exact ⟨C3.out, H3.out⟩
        case doneba =>
          rintro W2 hK hg2 hs2 hp2
          obtain ⟨kt, hb79⟩ := KB.out W2 hg2
          have ct := kt.tb.cell
          have ft := kt.tb.frozen
          have cw := kt.wb.cell
          have cn := hp2.cell
          have T9 := Lib.hid kt
          have HDa : Hid (W2.heap[tk2 + 1 + 1]? = some (.deferred (some []))) := Lib.hid (by rw [← hz8]; exact hK)
          have HDb : Hid (W2.heap[tk + 1 + 1]? = some (.deferred (some []))) := Lib.hid ((hg2.block _ (by have := HZ3.out; have := SZ2.out; omega) (by show ¬ tk + 1 + 1 = tk2 + 1; have := HZ3.out; omega)).trans HD3.out)
          have HZa : Hid (tk2 + 1 + 1 < W2.heap.size ∧ tk + 1 + 1 < tk2) := Lib.hid ⟨by omega, HZ3.out⟩
          have b9 := bel_new W2 (.cells #[.int .i64 2] 3)
          have HDa2 : Hid ((W2.alloc (.cells #[.int .i64 2] 3)).heap[tk2 + 1 + 1]? = some (.deferred (some []))) := Lib.hid ((b9.block _ HZa.out.1).trans HDa.out)
          have HDb2 : Hid ((W2.alloc (.cells #[.int .i64 2] 3)).heap[tk + 1 + 1]? = some (.deferred (some []))) := Lib.hid ((b9.block _ (by have := HZa.out; omega)).trans HDb.out)
          have TF : Hid (Boxed (W2.alloc (.cells #[.int .i64 2] 3)) (w.heap.size + 1) 4 (.bool false) ∧ Below w.heap.size w (W2.alloc (.cells #[.int .i64 2] 3)) ∧ W2.heap.size ≤ (W2.alloc (.cells #[.int .i64 2] 3)).heap.size) := Lib.hid ⟨boxed_below kt.rb b9, below_on kt.bel (Nat.le_refl _) b9, b9.size⟩
          clear hK hg2 kt hp2 hb79 b9
          go_wp2
          rw [rounds_succ]
          go_wp2_with (go_at_call 13; refine (WK.out _).mono ?_; rintro e w12 ⟨rfl, hb12⟩; have B12 := Lib.hid hb12; have p6 := boxed_below TF.out.1 hb12; have c6 := p6.cell; have f6 := p6.frozen; have P6 := Lib.hid (p6.set (.bool true)); clear p6 hb12)
          have hKa : (w12.setCell ⟨w.heap.size + 1, 0, none⟩ (.bool true)).heap[tk2 + 1 + 1]? = some (.deferred (some [])) := by
            rw [Below.heap_setCell _ _ _ _ (by show tk2 + 1 + 1 ≠ w.heap.size + 1; have := HTK.out; have := HZa.out; omega), B12.out.block _ (by have := HZa.out; have := TF.out.2.2; omega)]
            exact HDa2.out
          have hKb : (w12.setCell ⟨w.heap.size + 1, 0, none⟩ (.bool true)).heap[tk + 1 + 1]? = some (.deferred (some [])) := by
            rw [Below.heap_setCell _ _ _ _ (by show tk + 1 + 1 ≠ w.heap.size + 1; have := HTK.out; omega), B12.out.block _ (by have := HZa.out; have := TF.out.2.2; omega)]
            exact HDb2.out
          have BW : Below w.heap.size w (w12.setCell ⟨w.heap.size + 1, 0, none⟩ (.bool true)) := Below.setCell (below_on TF.out.2.1 (Nat.le_refl _) B12.out) (p := ⟨w.heap.size + 1, 0, none⟩) (show w.heap.size ≤ w.heap.size + 1 by omega) _
          refine ⟨by simp, .inl ⟨_, _, rfl, run_takeDeferred hKa, ?_⟩⟩
          have hKc : ((w12.setCell ⟨w.heap.size + 1, 0, none⟩ (.bool true)).putObj (tk2 + 1 + 1) (.deferred none)).heap[tk + 1 + 1]? = some (.deferred (some [])) := by
            rw [World.putObj_heap_other (by have := HZa.out; omega)]
            exact hKb
          refine ⟨by simp, .inl ⟨_, _, rfl, run_takeDeferred hKc, ?_⟩⟩
          have qd : Boxed (((w12.setCell ⟨w.heap.size + 1, 0, none⟩ (.bool true)).putObj (tk2 + 1 + 1) (.deferred none)).putObj (tk + 1 + 1) (.deferred none)) (w.heap.size + 1) 4 (.bool true) := boxed_same (boxed_same P6.out (World.putObj_heap_other (by have := HTK.out; have := HZa.out; omega))) (World.putObj_heap_other (by have := HTK.out; omega))
          have BD := below_put_inc (below_put_inc BW (tk2 + 1 + 1) (by have := HTK.out; have := HZa.out; omega) (.deferred none)) (tk + 1 + 1) (by have := HTK.out; omega) (.deferred none)
          generalize ((w12.setCell ⟨w.heap.size + 1, 0, none⟩ (.bool true)).putObj (tk2 + 1 + 1) (.deferred none)).putObj (tk + 1 + 1) (.deferred none) = Wd at qd BD ⊢
          have ld : (loadVar 4 ⟨w.heap.size + 1, 0, none⟩).run Try.prog Wd = .ok (.bool true) Wd := by
            have cd := qd.cell
            simp [loadVar, go_sem, cd]
          exact ⟨_, results_cell rfl rfl ld, rfl, BD⟩
        case stopba =>
          rintro cd W2 hK hg2 hs2 hp2
          exact hp2.elim
      case stopa0 =>
        rintro cd W2 hK hg2 hs2 ⟨rfl, nn, h1, h2, h3, h4, h5⟩
        have cn := h3.cell
        clear h3
        obtain ⟨kt, _⟩ := KB.out W2 hg2
        have ct := kt.tb.cell
        have cw := kt.wb.cell
        have cm := kt.mb.cell
        have T2 := Lib.hid kt
        have HD2 : Hid (W2.heap[tk + 1 + 1]? = some (.deferred (some []))) := Lib.hid (by rw [← hz8]; exact hK)
        have HZ2 : Hid (tk + 1 + 1 < W2.heap.size) := Lib.hid (by omega)
        obtain ⟨M, hM⟩ : ∃ M, max 1 many = M := ⟨_, rfl⟩
        have hMn : min (r : Int) M = (nn : Int) := by omega
        have hnn5 : nn ≤ 300 := by have := HR.out; omega
        clear hK hg2 kt h1 h2 h4 h5
        refine wpIn_wide.2 ?_
        go_wp2
        rw [rounds_succ]
        obtain ⟨tk2, htk2⟩ : ∃ tk2, W2.heap.size = tk2 := ⟨_, rfl⟩
        have TS2 : Hid (Tst w w.heap.size wt tk2 Bx r c' ci many 1 A' Ai S (W2.alloc (.cells #[.int .i64 1] 3))) := Lib.hid (by
          have h9 := T2.out.below (bel_new W2 (.cells #[.int .i64 1] 3))
          have h8 := Boxed.new W2 3 (.int .i64 1)
          rw [htk2] at h8
          exact ⟨h9.mb, h9.rb, h9.wb, h8, h9.rd, h9.kp, h9.bel⟩)
        have NB2 : Hid (Boxed ((W2.alloc (.cells #[.int .i64 1] 3)).alloc (.cells #[.int .i64 0] 3)) (tk2 + 1) 3 (.int .i64 ((0 : Nat) : Int))) := Lib.hid (by
          have h9 := Boxed.new (W2.alloc (.cells #[.int .i64 1] 3)) 3 (.int .i64 0)
          rw [World.size_alloc, htk2] at h9
          exact h9)
        have SZ2 : Hid ((W2.alloc (.cells #[.int .i64 1] 3)).heap.size = tk2 + 1 ∧ ((W2.alloc (.cells #[.int .i64 1] 3)).alloc (.cells #[.int .i64 0] 3)).heap.size = tk2 + 1 + 1) := Lib.hid ⟨by rw [World.size_alloc, htk2], by rw [World.size_alloc, World.size_alloc, htk2]⟩
        have BN2 := Lib.hid (bel_new (W2.alloc (.cells #[.int .i64 1] 3)) (.cells #[.int .i64 0] 3))
        have HD3 : Hid (((W2.alloc (.cells #[.int .i64 1] 3)).alloc (.cells #[.int .i64 0] 3)).heap[tk + 1 + 1]? = some (.deferred (some []))) := Lib.hid (((below_on (bel_new W2 (.cells #[.int .i64 1] 3)) (Nat.le_refl _) (bel_new _ (.cells #[.int .i64 0] 3))).block _ HZ2.out).trans HD2.out)
        have HZ3 : Hid (tk + 1 + 1 < tk2) := Lib.hid (by have := HZ2.out; omega)
        clear ct cw cm cn hM hMn T2 HD2 HZ2
        go_wp2
        generalize hW7 : W2.alloc (.cells #[.int .i64 1] 3) = Wt2 at TS2 NB2 SZ2 BN2 HD3 ⊢
        generalize hW8 : Wt2.alloc (.cells #[.int .i64 0] 3) = Wn2 at NB2 SZ2 BN2 HD3 ⊢
        simp only [htk2]
        clear hW7 hW8 htk2
        refine (wpIn_wide (n := 8)).1 ?_
        have KB : Hid (∀ W, Chg (fun k => k = tk2 + 1) Wn2 W → Tst w w.heap.size wt tk2 Bx r c' ci many 1 A' Ai S W ∧ Below Wt2.heap.size Wt2 W) := Lib.hid (fun W hc => by
          have h9 : Below Wt2.heap.size Wt2 W := BN2.out.trans (hc.new (B := Wt2.heap.size) BN2.out.size (fun k (e : k = tk2 + 1) => by have := SZ2.out; omega))
          exact ⟨TS2.out.below h9, h9⟩)
        have hz8 : Wn2.heap.size = tk2 + 1 + 1 := SZ2.out.2
        refine range_n rfl (by decide) (gf := 53) (lb := #[.pointer (some ⟨Bx, 0, none⟩)]) rfl trivial (enters_of Try.func53 (by kernel_rfl) rfl)
          (N := r) (enc := entAt S) (Kp := KpI Ai S r ci Bx) (fun _ => rfl) (incr2_hands (8 - 1) (by decide) Ai S r ci Bx HSL.out HR.out)
          (fun k => k = tk2 + 1) (by show ¬ Wn2.heap.size = tk2 + 1; omega) (by show ¬ Wn2.heap.size + 1 = tk2 + 1; omega) (fun j W => Boxed W (tk2 + 1) 3 (.int .i64 ((j : Nat) : Int))) (fun _ _ => False)
          (fun j W W' hal hp => boxed_same hp (hal _ (by omega) (by omega)))
          (fun cd W W' hal hp => hp)
          (fun j W W' hb hp => boxed_below hp hb)
          (fun j W hc _ => (KB.out W hc).1.kp) NB2.out
          (fun j => { tmps := #[Value.slice A N cap, Value.int IntKind.i64 many, undef, Value.pointer (some { block := w.heap.size, off := 0 }), Value.pointer (some { block := w.heap.size + 1, off := 0 }), Value.pointer (some { block := wt, off := 0 }), Value.slice A4 N c4, Value.func (Fn.func 53) #[] #[Value.pointer (some { block := Bx, off := 0 })], Value.int IntKind.i64 ↑i, Value.pointer (some { block := tk2, off := 0 }), Value.pointer (some { block := tk2 + 1, off := 0 }), nv (S[j]?.getD (0, 0)).1, nv (S[j]?.getD (0, 0)).2, Value.slice A N cap, Value.int IntKind.i64 ↑N, Value.bool false, undef, Value.slice A N cap, Value.slice A' r c', Value.slice (some { block := W3.heap.size, off := 0 }) 0 0, Value.slice A N cap, Value.slice A4 N c4, Value.slice A4 N c4, Value.func (Fn.func 53) #[] #[Value.pointer (some { block := Bx, off := 0 })], Value.func (Fn.func 53) #[] #[Value.pointer (some { block := Bx, off := 0 })], Value.bool false, Value.int IntKind.i64 ↑i, Value.slice A4 N c4, Value.int IntKind.i64 ↑N, Value.bool false, u30, u31, u32, u33, u34, Value.int IntKind.i64 1, Value.bool true, Value.int IntKind.i64 0, Value.int IntKind.i64 1, Value.func (Fn.func 53) #[] #[Value.pointer (some { block := Bx, off := 0 })], nv (S[j]?.getD (0, 0)).1, nv (S[j]?.getD (0, 0)).2, undef, undef, undef, undef, undef, undef, undef, undef, undef, undef, undef, undef, undef, undef, undef, undef, undef, undef, undef, undef, undef, undef, undef, Value.int IntKind.i64 0, Value.bool true, Value.bool true, Value.int IntKind.i64 ↑nn, Value.slice A' r c', Value.int IntKind.i64 ↑r, Value.int IntKind.i64 many, Value.int IntKind.i64 M, Value.int IntKind.i64 ↑nn, Value.bool false, Value.bool false, Value.bool false, Value.int IntKind.i64 0, Value.bool false, Value.bool false, undef, undef, undef, undef, Value.bool false, Value.bool false, Value.int IntKind.i64 0, undef], defers := [] }) ?assignbb ?bodybb ?donebb ?stopbb
        case assignbb =>
          intro l' j W2 K _ hK
          simp only [entAt]
          gi_wp2
          exact hK
        case bodybb =>
          rintro l' j W2 hj hg2 hs2 hp2
          obtain ⟨⟨sx, yx⟩, hx⟩ : ∃ p, S[j]? = some p := ⟨_, List.getElem?_eq_getElem (by rw [HSL.out]; exact hj)⟩
          have hgd : S[j]?.getD (0, 0) = (sx, yx) := by rw [hx]; rfl
          obtain ⟨kt, _⟩ := KB.out W2 hg2
          obtain ⟨gA, hA', ca, cb⟩ := kt.rd j _ hx
          subst hA'
          have cw := kt.wb.cell
          have ck := hp2.cell
          have fk := hp2.frozen
          simp only [hgd, nv] at ca cb ⊢
          have u1 : decide ((r : Int) ≤ (j : Int)) = false := decide_eq_false (by omega)
          have u2 : ¬ r ≤ j := by omega
          have hj5 : j ≤ 300 := by have := HR.out; omega
          have wj : IntKind.i64.wrap (j : Int) = (j : Int) := IntWalk.i64_in _ (by omega)
          have eqv := fun W => eq2 (sx : Int) (yx : Int) W
          obtain ⟨W3', hW3'⟩ : ∃ W3', W2.setCell ⟨tk2 + 1, 0, none⟩ (.int .i64 ((j : Int) + 1)) = W3' := ⟨_, rfl⟩
          have b3 : Boxed W3' (tk2 + 1) 3 (.int .i64 ((j + 1 : Nat) : Int)) := by rw [← hW3', Int.natCast_add]; exact hp2.set _
          have c3 : Chg (fun k => k = tk2 + 1) W2 W3' := by rw [← hW3']; exact Chg.set (Chg.refl (fun k => k = tk2 + 1) W2) ⟨tk2 + 1, 0, none⟩ (by exact rfl) _
          obtain ⟨kt3, _⟩ := KB.out W3' (hg2.trans c3)
          have ct3 := kt3.tb.cell
          have cm3 := kt3.mb.cell
          have cn3 := b3.cell
          rw [Int.natCast_add] at cn3
          have C3 := Lib.hid c3
          have H3 := Lib.hid b3
          clear kt kt3 hx hgd hp2 hg2 b3 c3
          gi_wp2
          exact ⟨C3.out, H3.out⟩
        case donebb =>
          rintro W2 hK hg2 hs2 hp2
          obtain ⟨kt, hb79⟩ := KB.out W2 hg2
          have ct := kt.tb.cell
          have ft := kt.tb.frozen
          have cw := kt.wb.cell
          have cn := hp2.cell
          have T9 := Lib.hid kt
          have HDa : Hid (W2.heap[tk2 + 1 + 1]? = some (.deferred (some []))) := Lib.hid (by rw [← hz8]; exact hK)
          have HDb : Hid (W2.heap[tk + 1 + 1]? = some (.deferred (some []))) := Lib.hid ((hg2.block _ (by have := HZ3.out; have := SZ2.out; omega) (by show ¬ tk + 1 + 1 = tk2 + 1; have := HZ3.out; omega)).trans HD3.out)
          have HZa : Hid (tk2 + 1 + 1 < W2.heap.size ∧ tk + 1 + 1 < tk2) := Lib.hid ⟨by omega, HZ3.out⟩
          have b9 := bel_new W2 (.cells #[.int .i64 2] 3)
          have HDa2 : Hid ((W2.alloc (.cells #[.int .i64 2] 3)).heap[tk2 + 1 + 1]? = some (.deferred (some []))) := Lib.hid ((b9.block _ HZa.out.1).trans HDa.out)
          have HDb2 : Hid ((W2.alloc (.cells #[.int .i64 2] 3)).heap[tk + 1 + 1]? = some (.deferred (some []))) := Lib.hid ((b9.block _ (by have := HZa.out; omega)).trans HDb.out)
          have TF : Hid (Boxed (W2.alloc (.cells #[.int .i64 2] 3)) (w.heap.size + 1) 4 (.bool false) ∧ Below w.heap.size w (W2.alloc (.cells #[.int .i64 2] 3)) ∧ W2.heap.size ≤ (W2.alloc (.cells #[.int .i64 2] 3)).heap.size) := Lib.hid ⟨boxed_below kt.rb b9, below_on kt.bel (Nat.le_refl _) b9, b9.size⟩
          clear hK hg2 kt hp2 hb79 b9
          go_wp2
          rw [rounds_succ]
          go_wp2_with (go_at_call 13; refine (WK.out _).mono ?_; rintro e w12 ⟨rfl, hb12⟩; have B12 := Lib.hid hb12; have p6 := boxed_below TF.out.1 hb12; have c6 := p6.cell; have f6 := p6.frozen; have P6 := Lib.hid (p6.set (.bool true)); clear p6 hb12)
          have hKa : (w12.setCell ⟨w.heap.size + 1, 0, none⟩ (.bool true)).heap[tk2 + 1 + 1]? = some (.deferred (some [])) := by
            rw [Below.heap_setCell _ _ _ _ (by show tk2 + 1 + 1 ≠ w.heap.size + 1; have := HTK.out; have := HZa.out; omega), B12.out.block _ (by have := HZa.out; have := TF.out.2.2; omega)]
            exact HDa2.out
          have hKb : (w12.setCell ⟨w.heap.size + 1, 0, none⟩ (.bool true)).heap[tk + 1 + 1]? = some (.deferred (some [])) := by
            rw [Below.heap_setCell _ _ _ _ (by show tk + 1 + 1 ≠ w.heap.size + 1; have := HTK.out; omega), B12.out.block _ (by have := HZa.out; have := TF.out.2.2; omega)]
            exact HDb2.out
          have BW : Below w.heap.size w (w12.setCell ⟨w.heap.size + 1, 0, none⟩ (.bool true)) := Below.setCell (below_on TF.out.2.1 (Nat.le_refl _) B12.out) (p := ⟨w.heap.size + 1, 0, none⟩) (show w.heap.size ≤ w.heap.size + 1 by omega) _
          refine ⟨by simp, .inl ⟨_, _, rfl, run_takeDeferred hKa, ?_⟩⟩
          have hKc : ((w12.setCell ⟨w.heap.size + 1, 0, none⟩ (.bool true)).putObj (tk2 + 1 + 1) (.deferred none)).heap[tk + 1 + 1]? = some (.deferred (some [])) := by
            rw [World.putObj_heap_other (by have := HZa.out; omega)]
            exact hKb
          refine ⟨by simp, .inl ⟨_, _, rfl, run_takeDeferred hKc, ?_⟩⟩
          have qd : Boxed (((w12.setCell ⟨w.heap.size + 1, 0, none⟩ (.bool true)).putObj (tk2 + 1 + 1) (.deferred none)).putObj (tk + 1 + 1) (.deferred none)) (w.heap.size + 1) 4 (.bool true) := boxed_same (boxed_same P6.out (World.putObj_heap_other (by have := HTK.out; have := HZa.out; omega))) (World.putObj_heap_other (by have := HTK.out; omega))
          have BD := below_put_inc (below_put_inc BW (tk2 + 1 + 1) (by have := HTK.out; have := HZa.out; omega) (.deferred none)) (tk + 1 + 1) (by have := HTK.out; omega) (.deferred none)
          generalize ((w12.setCell ⟨w.heap.size + 1, 0, none⟩ (.bool true)).putObj (tk2 + 1 + 1) (.deferred none)).putObj (tk + 1 + 1) (.deferred none) = Wd at qd BD ⊢
          have ld : (loadVar 4 ⟨w.heap.size + 1, 0, none⟩).run Try.prog Wd = .ok (.bool true) Wd := by
            have cd := qd.cell
            simp [loadVar, go_sem, cd]
          exact ⟨_, results_cell rfl rfl ld, rfl, BD⟩
        case stopbb =>
          rintro cd W2 hK hg2 hs2 hp2
          exact hp2.elim

theorem walk (A : Option Addr) (l : List Int) (cap : Nat) (many : Int) (w : World) (hR : Ri w A l) (_ : ∀ z ∈ l, -9223372036854775808 ≤ z ∧ z ≤ 9223372036854775807) (_ : l.length ≤ cap) (_ : (Lit.int .i64 many).wf = true) :
    Calls Try.prog 11 #[.slice A l.length cap, .int .i64 many] w fun e w' => e = .returned (.bool true) ∧ Below w.heap.size w w' := by
  by_cases h : 400 < l.length
  · exact walk_long A _ cap many w h
  · exact walk_ok A l _ cap many w rfl (by omega) hR

set_option maxRecDepth 100000 in
theorem lifted (os : Os) (started : os.Started) (H : Type) (enc : TypeId × Value → H) :
    ReturnsInHanded {} Try.checked os 11 .any (Rows.tallyRisesSpec.pre6 enc Try.prog Try.f11 Rows.tallyRisesRow.domain false) (Rows.tallyRisesSpec.post enc Try.prog Try.f11 false true false false) := by
  refine returnsInHanded_of_change_sized (C := Try.checked) ownB started (by kernel_rfl) Try.func11
    (ChangeSpec.witness6 (enc := enc) (C := Try.checked) false ⟨#[], #[.slice none 0 0, .int .i64 0], []⟩ 8 (by kernel_rfl) (by kernel_rfl) (by kernel_rfl) (by kernel_rfl)) ?_
  intro W base args ds gs before hval0 hW _ hsz0 _
  have hsz : (DataW.weightsEach Try.prog (Try.f11.params.toList ++ Rows.tallyRisesSpec.plain.varTypes Try.prog) (ds ++ gs)).all (· ≤ reachBytes) = true := hsz0
  clear hsz0
  have hval : ∀ (j : Nat) t v, Try.f11.params[j]? = some t → args[j]? = some v → Value.okWide Try.prog W .any base t v := hval0
  have hW' := hW
  obtain ⟨p, q, hA0, hV, rfl, hfz, hnd⟩ := hW
  have hA : DataW.TrodAll enc Try.prog W 0 (fun _ => true) true Try.f11.params.toList args.toList ds p := hA0
  rw [Try.params11] at hA hval hsz
  obtain ⟨v0, vs0, d0, ds0, p0, q0, hargs, rfl, rfl, h0, r0⟩ := trodAll_cons hA
  obtain ⟨v1, vs1, d1, ds1, p1, q1, rfl, rfl, rfl, h1, r1⟩ := trodAll_cons r0
  obtain ⟨rfl, rfl, rfl⟩ := trodAll_nil r1
  obtain rfl : args = #[v0, v1] := by cases args; simp_all
  obtain ⟨rfl, rfl⟩ := trodVars_none hV
  obtain ⟨a0, len0, cap0, rfl⟩ := okWide_slice Try.underlying26 (hval 0 26 v0 rfl rfl)
  have k0 := h0
  have lt0 : ∀ x ∈ p0, x.block < W.heap.size := by obtain ⟨m, hm⟩ := k0; exact DataW.trod_lt m _ _ _ hm
  obtain ⟨l0, rfl, hc0, ri0, wi0⟩ := open_intl h0
  obtain ⟨a1, rfl, rfl, rfl, w1⟩ := open_int Try.underlying3 (hval 1 3 v1 rfl rfl) h1
  clear hA0 hval0
  refine (walk a0 l0 cap0 a1 W ri0 wi0 hc0 w1).mono fun e W' ⟨he, bel⟩ => ?_
  subst he
  exact ⟨_, rfl, _, _, _, [], _, [], hW', trodAll_mk1 (shut_bool Try.underlying4 _), (trodAll_cons_mk (Below.trod laidOut (by kernel_rfl) (of_decide_eq_true (by kernel_rfl)) k0 bel lt0) (trodAll_cons_mk (shut_int Try.underlying3 w1) trodAll_mk0)), rfl, bel.frame _, fun h => by cases h⟩

theorem proved : Rows.TallyRisesSaid :=
  OpenClaim.holds_of_wide 11 Try.f11 rfl rfl rfl rfl rfl rfl rfl ⟨rfl, rfl, rfl, rfl, rfl⟩ rfl rfl rfl rfl rfl (by kernel_rfl) Try.func11 (by kernel_rfl)
    (of_decide_eq_true (by kernel_rfl)) (by unfold Func.isWrapper; rw [if_neg (by decide +kernel)]; exact ⟨rfl, rfl⟩)
    (fun os started H enc _ => lifted os started H enc)

#print axioms proved

end Go.Proofs.Ytdlhfcapfbbjjaa.tallyRises
