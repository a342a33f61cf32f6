/-
  What the reference's Close and SameBits do; a Writer that a call has made. Conditions: at most 19000 bits (Close).
-/
import Derived.Test.YtaedfbceaolbcaaRfB
namespace Go.Proofs.Ytaedfbceaolbcaa
open Go.RowKit

set_option maxHeartbeats 1000000 in
theorem refClose_any (w : World) (A : Option Addr) (l : List Bool) (N cap : Nat) (hN : l.length = N) (hs : N ≤ 19000) (hR : Rb w A l) :
    Calls Try.prog 19 #[.slice A N cap] w (Got w (closed l)) := by
  have HN := Lib.hid hN
  have HR := Lib.hid hR
  have O0 := Lib.hid (World.ownsRow_nil w w.heap.size 4 1)
  clear hN hR
  go_enter Try.func19, Try.ntmps19
  go_wp2_with (first
    | (at_builtin; refine wpList_append_vals Try.underlying32 bool_info rfl rfl _ _ rfl w.heap.size (.slice none 0 0) 0 [] rfl O0.out A (l.map Value.bool) (bool_one l) N cap (by rw [List.length_map]; exact HN.out) rfl HR.out (by omega) (Nat.le_refl _) ?_; intro v1 w1 ho1 hg1 _; rw [Nat.zero_add, List.nil_append] at ho1; obtain ⟨A1, c1, rfl, _⟩ := own_form ho1; have HB1 := Lib.hid ((Below.refl w.heap.size w).grown hg1 (Nat.le_refl _) (fun j ej => by cases ej)); have BA := Lib.hid (HB1.out.alloc HB1.out.size (.cells #[.bool true] 4)); have OA := Lib.hid (own_below ho1 ((Below.refl _ _).alloc (Nat.le_refl _) (.cells #[.bool true] 4))); clear ho1 hg1)
    | (at_builtin; refine wpList_append_vals Try.underlying32 bool_info rfl rfl _ _ rfl w.heap.size (.slice A1 N c1) N (l.map Value.bool) rfl OA.out (some ⟨w1.heap.size, 0, none⟩) [.bool true] (by simp [Value.oneCell']) 1 1 rfl rfl (rv_one _ _ _) (by omega) BA.out.size ?_; intro v2 w2 ho2 hg2 _; obtain ⟨A2, c2, rfl, _⟩ := own_form ho2; have HB2 := Lib.hid (BA.out.grown hg2 BA.out.size (fun j ej => (OA.out.lt j ej).1)); have O2 := Lib.hid ho2; clear ho2 hg2)
    | (go_at_call 17; refine (refBytes_any _ _ (l ++ [true]) _ _ (by rw [List.length_append, HN.out]; rfl) (by omega) (by have h1 := Rv.of_own O2.out; rw [show l.map Value.bool ++ [Value.bool true] = (l ++ [true]).map Value.bool by simp] at h1; exact h1)).mono ?_; intro e w3 hg3; obtain ⟨A3, c3, rfl, ho3, hb3⟩ := hg3.on HB2.out; have H3 := Lib.hid (And.intro ho3 hb3); clear ho3 hb3 hg3))
  go_ret
  exact ⟨A3, c3, rfl, H3.out⟩

set_option maxRecDepth 100000 in
set_option maxHeartbeats 1000000 in
theorem sameBits_any (w : World) (A B : Option Addr) (l m : List Bool) (N M c d : Nat) (hN : l.length = N) (hM : m.length = M) (hs : N ≤ 20000) (hA : Rb w A l) (hB : Rb w B m) :
    Calls Try.prog 20 #[.slice A N c, .slice B M d] w fun e w' => e = .returned (.bool (decide (l = m))) ∧ ∃ d, w' = w.drewN d := by
  obtain ⟨r, hr⟩ : ∃ r, decide (l = m) = r := ⟨_, rfl⟩
  rw [hr]
  by_cases hNM : N = M
  · subst hNM
    have HN := Lib.hid hN
    have HM := Lib.hid hM
    have HRR := Lib.hid hr
    have HA := Lib.hid hA
    have HB := Lib.hid hB
    clear hN hM hr hA hB
    go_enter Try.func20, Try.ntmps20
    go_wp2_with fail
    go_loopw [5] (fun b wr => ∃ i k : Nat, i ≤ N ∧ b = .int .i64 (i : Int) ∧ wr = w.drewN k ∧ Hid (l.take i = m.take i)) (fun b _ => N - (intOf b).toNat)
    case atStart => exact ⟨0, 0, by omega, rfl, rfl, Lib.hid (by simp)⟩
    case round =>
      obtain ⟨i, k, hi, rfl, rfl, HT⟩ := hrel
      by_cases hlt : i < N
      · obtain ⟨x, hx⟩ : ∃ x, l[i]? = some x := ⟨_, List.getElem?_eq_getElem (by rw [HN.out]; exact hlt)⟩
        obtain ⟨y, hy⟩ : ∃ y, m[i]? = some y := ⟨_, List.getElem?_eq_getElem (by rw [HM.out]; exact hlt)⟩
        obtain ⟨aL, haL, e0⟩ := HA.out i (.bool x) (by rw [List.getElem?_map, hx]; rfl)
        obtain ⟨bL, hbL, e1⟩ := HB.out i (.bool y) (by rw [List.getElem?_map, hy]; rfl)
        subst haL hbL
        have HX := Lib.hid hx
        have HY := Lib.hid hy
        clear hx hy
        by_cases hxy : x = y
        · subst hxy
          go_wp2_with fail
          go_quiet (fail)
          go_wp2_with fail
          refine ⟨⟨i + 1, k + nq, by omega, by simp, by simp, Lib.hid ?_⟩, by simp [intOf]; omega⟩
          obtain ⟨h1, e2⟩ := List.getElem?_eq_some_iff.1 HX.out
          obtain ⟨h2, e3⟩ := List.getElem?_eq_some_iff.1 HY.out
          rw [List.take_succ_eq_append_getElem h1, List.take_succ_eq_append_getElem h2, HT.out, e2, e3]
        · have hne : (x == y) = false := by simp [hxy]
          have HF : Hid (r = false) := Lib.hid (by
            rw [← HRR.out]
            refine decide_eq_false fun e => hxy ?_
            have h1 := HX.out
            rw [e, HY.out] at h1
            exact (Option.some.inj h1).symm)
          clear hxy
          go_wp2_with fail
          go_quiet (fail)
          go_wp2
          go_ret
          exact ⟨by rw [HF.out]; rfl, k + nq, by simp⟩
      · have hie : i = N := by omega
        subst hie
        have HF : Hid (r = true) := Lib.hid (by
          rw [← HRR.out]
          refine decide_eq_true ?_
          have h1 := HT.out
          rw [List.take_of_length_le (by rw [HN.out]; exact Nat.le_refl _), List.take_of_length_le (by rw [HM.out]; exact Nat.le_refl _)] at h1
          exact h1)
        clear hlt hi
        go_wp2
        go_ret
        exact ⟨by rw [HF.out]; rfl, k, rfl⟩
  · have HF : Hid (r = false) := Lib.hid (by
      rw [← hr]
      refine decide_eq_false fun e => hNM ?_
      rw [← hN, ← hM, e])
    have hne : ((N : Int) != (M : Int)) = true := by simp; omega
    clear hr hNM hN hM hA hB
    go_enter Try.func20, Try.ntmps20
    go_wp2
    go_ret
    exact ⟨by rw [HF.out]; rfl, 0, rfl⟩

/-- A Writer x that the call has made, and nothing that was there before has changed. -/
structure At (w0 w : World) (x : Nat) (v : Value) (l : List Bool) : Prop where
  wr : Wr w x v l
  bel : Below w0.heap.size w0 w
  ge : w0.heap.size ≤ x
  row : ∀ g, v.ownBlock = some g → w0.heap.size ≤ g

theorem At.new (w0 w : World) (hb : Below w0.heap.size w0 w) : At w0 (w.alloc (.cells #[.int .u8 0, .int .i64 0, .slice none 0 0] 28)) w.heap.size (.slice none 0 0) [] :=
  ⟨⟨[], 0, 0, heap_alloc_new w _, by decide, Str.nil, World.ownsRow_nil _ _ _ _⟩, hb.alloc hb.size _, hb.size, fun g hg => by cases hg⟩
theorem At.on {w0 w w' : World} {x : Nat} {v : Value} {l : List Bool} (h : At w0 w x v l) (hb : Below w.heap.size w w') : At w0 w' x v l :=
  ⟨h.wr.below hb, below_on h.bel (Nat.le_refl _) hb, h.ge, h.row⟩
theorem At.dr {w0 w : World} {x : Nat} {v : Value} {l : List Bool} (h : At w0 w x v l) (d : Nat) : At w0 (w.drewN d) x v l :=
  ⟨h.wr, below_drewN' h.bel d, h.ge, h.row⟩
theorem At.chg {w0 w w' : World} {x : Nat} {v v' : Value} {l l' : List Bool} (h : At w0 w x v l) (hw : Wr w' x v' l') (hc : Chg w w' x v.ownBlock) (hn : New w v.ownBlock v'.ownBlock) : At w0 w' x v' l' := by
  refine ⟨hw, h.bel.trans (hc.below h.bel.size h.ge h.row), h.ge, fun g hg => ?_⟩
  rcases hn with e | ⟨g', e, hge⟩
  · exact h.row g (e ▸ hg)
  · rw [e] at hg
    injection hg with hg
    have := h.bel.size
    omega

end Go.Proofs.Ytaedfbceaolbcaa
