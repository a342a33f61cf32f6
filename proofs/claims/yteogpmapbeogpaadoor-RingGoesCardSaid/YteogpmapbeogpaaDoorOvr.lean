/-
  What the laws' helper over does at a ring that is none: it returns true. No condition.
-/
import Derived.Test.YteogpmapbeogpaaDoorNon
namespace Go.Proofs.YteogpmapbeogpaaDoor
open Go.RowKit Go.Shelf

theorem results_cell {fn : Func} {a : Tmp} {t : TypeId} (h : fn.results = #[.cell a t]) {tmps : Array Value} {P : Program} {w : World} {ad : Addr} {v : Value} (hp : tmps.getD a undef = .pointer (some ad)) (hl : (loadVar t ad).run P w = .ok v w) :
    (results fn tmps).run P w = .ok v w := by
  have hp' : tmps[a]?.getD undef = .pointer (some ad) := by simpa using hp
  simp [results, h, hp', asAddr]
  exact hl

theorem fn_nil (W : World) (cs : Array Value) : (binOp BinOp.eql 44 (.func (.func 37) #[] cs) .nilFunc).run Tryd.prog W = .ok (.bool false) W := by
  first
    | kernel_rfl
    | rfl

set_option maxRecDepth 100000 in
set_option maxHeartbeats 2000000 in
theorem over_none {w : World} (p : Option Addr) (hL : ∀ W, Below w.heap.size w W → Calls Tryd.prog 29 #[.pointer p] W fun e w' => e = .returned (.int .i64 0) ∧ w' = W) :
    Calls Tryd.prog 21 #[.pointer p, .slice none 0 0, .int .i64 9] w fun e w' => e = .returned (.bool true) ∧ Below w.heap.size w w' := by
  refine (callsIn_wide (n := 8)).1 ?_
  refine callsIn_of_wp_marks Tryd.func21 rfl trivial ?_ rfl
  simp only [Tryd.ntmps21, List.size_toArray, List.length_cons, List.length_nil, Nat.reduceAdd, Nat.reduceSub, Array.replicate_succ, Array.replicate_zero, List.push_toArray, List.append_toArray, List.nil_append, List.cons_append]
  refine wpIn_wide.2 ?_
  obtain ⟨w1, hw1⟩ : ∃ w1, ((w.alloc (.cells #[.slice none 0 0] 22)).alloc (.cells #[.int .i64 9] 3)).alloc (.cells #[.bool false] 4) = w1 := ⟨_, rfl⟩
  have g1 : Below w.heap.size w w1 := by rw [← hw1]; exact (((Below.refl _ w).alloc (Nat.le_refl _) _).alloc (by simp) _).alloc (by simp; omega) _
  have s1 : w1.heap.size = w.heap.size + 3 := by rw [← hw1]; simp
  have b1 : Bx w1 w.heap.size 22 (.slice none 0 0) := by rw [← hw1]; exact ((Bx.new w _ _).same (Below.heap_alloc _ _ _ (by simp))).same (Below.heap_alloc _ _ _ (by simp; omega))
  have b2 : Bx w1 (w.heap.size + 1) 3 (.int .i64 9) := by
    rw [← hw1]
    have := (Bx.new (w.alloc (.cells #[.slice none 0 0] 22)) 3 (.int .i64 9)).same (Below.heap_alloc _ (.cells #[.bool false] 4) _ (by simp))
    rwa [World.size_alloc] at this
  have b3 : Bx w1 (w.heap.size + 1 + 1) 4 (.bool false) := by
    rw [← hw1]
    have := Bx.new ((w.alloc (.cells #[.slice none 0 0] 22)).alloc (.cells #[.int .i64 9] 3)) 4 (.bool false)
    rwa [World.size_alloc, World.size_alloc] at this
  have AL := Lib.hid (all_none (w := w1) p (fun W hW => hL W (below_on g1 (Nat.le_refl _) hW)))
  clear hL
  go_wp2_with fail
  refine AL.out.mono ?_
  rintro e w2 ⟨q, A, c, rfl, bq, g2, hq⟩
  clear hw1 AL
  have s2 := g2.size
  have fq := fun W => fn_nil W #[.pointer (some ⟨q, 0, none⟩)]
  go_wp2_with fail
  clear fq
  have g3 : Below w.heap.size w (w2.alloc (.cells #[.int .i64 0] 3)) := below_on (below_on g1 (Nat.le_refl _) g2) (Nat.le_refl _) (lit_bel w2 _)
  have n3 : Bx (w2.alloc (.cells #[.int .i64 0] 3)) w2.heap.size 3 (.int .i64 0) := Bx.new w2 _ _
  have q3 := bq.below (lit_bel w2 (.cells #[.int .i64 0] 3))
  have c1 := (b1.below g2).below (lit_bel w2 (.cells #[.int .i64 0] 3))
  have c2 := (b2.below g2).below (lit_bel w2 (.cells #[.int .i64 0] 3))
  have c3 := (b3.below g2).below (lit_bel w2 (.cells #[.int .i64 0] 3))
  have s3 : (w2.alloc (.cells #[.int .i64 0] 3)).heap.size = w2.heap.size + 1 := by simp
  have ql := bq.lt
  generalize w2.alloc (.cells #[.int .i64 0] 3) = W1 at g3 n3 q3 c1 c2 c3 s3 ⊢
  clear b1 b2 b3 bq g1
  refine (wpIn_wide (n := 8)).1 ?_
  refine range_s rfl (by decide) (gf := 37) (lb := #[.pointer (some ⟨q, 0, none⟩)]) rfl trivial (enters_of Tryd.func37 (by kernel_rfl) rfl)
    (N := 0) (enc := fun _ => #[.int .i64 0, .int .u8 0]) (Kp := fun W => Bx W q 22 (.slice A 0 c)) (fun _ => rfl) (all1_hands0 (8 - 1) A c q _)
    (fun _ => False) (fun h => h) (fun h => h) (fun _ W => Bx W q 22 (.slice A 0 c) ∧ Bx W w2.heap.size 3 (.int .i64 0) ∧ Bx W w.heap.size 22 (.slice none 0 0) ∧ Bx W (w.heap.size + 1) 3 (.int .i64 9) ∧ Bx W (w.heap.size + 1 + 1) 4 (.bool false)) (fun _ _ => False)
    (fun j W W' hal hp => ⟨hp.1.same (hal _ (by omega) (by omega)), hp.2.1.same (hal _ (by omega) (by omega)), hp.2.2.1.same (hal _ (by omega) (by omega)), hp.2.2.2.1.same (hal _ (by omega) (by omega)), hp.2.2.2.2.same (hal _ (by omega) (by omega))⟩) (fun _ _ _ _ h => h)
    (fun j W _ hp => hp.1) ⟨q3, n3, c1, c2, c3⟩
    (fun _ => { tmps := #[], defers := [] }) (fun l j W K hj => absurd hj (Nat.not_lt_zero _)) (fun l j W hj => absurd hj (Nat.not_lt_zero _)) ?done (fun _ _ _ _ _ h => h.elim)
  case done =>
    intro W2 hK hg2 hs2 hp2
    obtain ⟨_, p2, p3, p4, p5⟩ := hp2
    have HB := Lib.hid (g3.trans (hg2.new g3.size (fun q h => h.elim)))
    have HK := Lib.hid hK
    have k2 := p2.cell
    have k3 := p3.cell
    have k4 := p4.cell
    have k5 := p5.cell
    have f5 := p5.free
    have P5 := Lib.hid p5
    clear hK hg2 p2 p3 p4 p5 g3 n3 q3 c1 c2 c3
    go_wp2
    have hKc : (W2.setCell ⟨w.heap.size + 1 + 1, 0, none⟩ (.bool true)).heap[W1.heap.size]? = some (.deferred (some [])) := by
      rw [Below.heap_setCell _ _ _ _ (by show W1.heap.size ≠ w.heap.size + 1 + 1; omega)]
      exact HK.out
    have P6 := P5.out.set (.bool true)
    have BW : Below w.heap.size w (W2.setCell ⟨w.heap.size + 1 + 1, 0, none⟩ (.bool true)) := Below.setCell HB.out (p := ⟨w.heap.size + 1 + 1, 0, none⟩) (show w.heap.size ≤ w.heap.size + 1 + 1 by omega) _
    refine ⟨by simp, .inl ⟨_, _, rfl, run_takeDeferred hKc, ?_⟩⟩
    have qd : Bx ((W2.setCell ⟨w.heap.size + 1 + 1, 0, none⟩ (.bool true)).putObj W1.heap.size (.deferred none)) (w.heap.size + 1 + 1) 4 (.bool true) := P6.same (World.putObj_heap_other (by omega))
    have BD := below_put BW W1.heap.size (by omega) (.deferred none)
    generalize (W2.setCell ⟨w.heap.size + 1 + 1, 0, none⟩ (.bool true)).putObj W1.heap.size (.deferred none) = Wd at qd BD ⊢
    have ld : (loadVar 4 ⟨w.heap.size + 1 + 1, 0, none⟩).run Tryd.prog Wd = .ok (.bool true) Wd := by
      have cd := qd.cell
      simp [loadVar, go_sem, cd]
    exact ⟨_, results_cell rfl rfl ld, rfl, BD⟩

end Go.Proofs.YteogpmapbeogpaaDoor
