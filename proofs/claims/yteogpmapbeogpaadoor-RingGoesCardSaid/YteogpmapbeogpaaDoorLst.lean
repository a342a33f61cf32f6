/-
  What Last of a ring does: it returns the last n bytes of the contents, in new memory. No condition.
-/
import Derived.Test.YteogpmapbeogpaaDoorCol
namespace Go.Proofs.YteogpmapbeogpaaDoor
open Go.RowKit

/-- A variable in a block of its own. -/
def Bx (w : World) (b : Nat) (t : TypeId) (u : Value) : Prop := w.heap[b]? = some (.cells #[u] t (0, 0))
theorem Bx.lt {w : World} {b : Nat} {t : TypeId} {u : Value} (h : Bx w b t u) : b < w.heap.size := (Array.getElem?_eq_some_iff.1 h).1
theorem Bx.cell {w : World} {b : Nat} {t : TypeId} {u : Value} (h : Bx w b t u) : w.cell? ⟨b, 0, none⟩ = some u := by rw [cell_of_row w b 0 _ _ _ h]; rfl
theorem Bx.free {w : World} {b : Nat} {t : TypeId} {u : Value} (h : Bx w b t u) : w.frozen? ⟨b, 0, none⟩ = false := by
  have : w.heap[b]? = _ := h
  simp [World.frozen?, this]
theorem Bx.same {w w' : World} {b : Nat} {t : TypeId} {u : Value} (h : Bx w b t u) (hb : w'.heap[b]? = w.heap[b]?) : Bx w' b t u := hb.trans h
theorem Bx.new (w : World) (t : TypeId) (u : Value) : Bx (w.alloc (.cells #[u] t)) w.heap.size t u := World.alloc_heap_new w _
theorem Bx.below {w w' : World} {b : Nat} {t : TypeId} {u : Value} (h : Bx w b t u) (hb : Below w.heap.size w w') : Bx w' b t u := h.same (hb.block b h.lt)
theorem Bx.set {w : World} {b : Nat} {t : TypeId} {u : Value} (h : Bx w b t u) (u' : Value) : Bx (w.setCell ⟨b, 0, none⟩ u') b t u' := by
  have hb : w.heap[b]? = _ := h
  unfold Bx
  simp [World.setCell, Array.getElem?_modify, hb]

set_option maxRecDepth 100000 in
set_option maxHeartbeats 2000000 in
theorem last1_feeds {w : World} {x lim t : Nat} {v : Value} {l : List UInt8} (h : Rg w x v lim l t) (Br Bn : Nat) (n : Nat) (hn : n ≤ l.length) (hr : Bx w Br 26 (.pointer (some ⟨x, 0, none⟩))) (hb : Bx w Bn 3 (.int .i64 (n : Int))) :
    Feeds 41 #[.pointer (some ⟨Br, 0, none⟩), .pointer (some ⟨Bn, 0, none⟩)] (l.drop (l.length - n)) (fun _ => True) w := by
  intro i W A c hi _ hic hW hR
  have hl := h.len
  have hm := h.most
  have cr := (hr.below hW).cell
  have cn := (hb.below hW).cell
  rw [List.length_drop] at hi
  obtain ⟨d, hd⟩ : ∃ d, n - i = d := ⟨_, rfl⟩
  obtain ⟨B, m, hm0, hmd, hRB, _, hST⟩ := stretch_any (h.below hW) d (by omega) (by omega)
  have ST := Lib.hid fun q => hST (W.drewN q) rfl
  have hT : (l.drop (l.length - n)).drop i = l.drop (l.length - d) := by rw [List.drop_drop]; congr 1; omega
  have hTl : (l.drop (l.length - n)).length - i = d := by rw [List.length_drop]; omega
  have hTn : (l.drop (l.length - n)).length = n := by rw [List.length_drop]; omega
  rw [hT, hTl, hTn]
  obtain ⟨S, hS⟩ : ∃ S, l.drop (l.length - d) = S := ⟨_, rfl⟩
  rw [hS]
  have HS : Hid (S.length = d) := Lib.hid (by rw [← hS, List.length_drop]; omega)
  have hsub : (n : Int) - (i : Int) = (d : Int) := by omega
  have hin : i ≤ n := by omega
  have hnb : n ≤ 134217728 := by omega
  rw [hS] at hRB
  have HRB := Lib.hid hRB
  obtain ⟨PP, hPP⟩ : ∃ PP : Ending → World → Prop, PP = fun e W' => ∃ B Y k cb q, e = .returned (.slice B k cb) ∧ W' = W.drewN q ∧ 0 < k ∧ k ≤ cb ∧ k ≤ 1099511627776 ∧ Y.length = k ∧ Rd W B Y ∧ Y.take d = S.take k ∧ (n ≤ i + k ∨ True) := ⟨_, rfl⟩
  rw [← hPP]
  have HPP := Lib.hid hPP
  have HD := Lib.hid hd
  clear hW hR hT hTl hTn hS hi h hr hb hPP hd hsub hRB hST
  go_enter Tryd.func41, Tryd.ntmps41
  have x0 : IntKind.i64.wrap ((n : Int) - (i : Int)) = (d : Int) := by rw [← HD.out]; exact (IntWalk.i64_in _ (by omega)).trans (by omega)
  have x1 : IntKind.i64.wrap (d : Int) = (d : Int) := IntWalk.i64_in _ (by have := HD.out; omega)
  go_wp2
  go_quiet ((go_at_call 42; exact Calls.quiet_of (ST.out _)))
  go_wp2
  rw [HPP.out]
  refine ⟨B, S.take m, m, m, _, rfl, rfl, hm0, Nat.le_refl _, by have := HD.out; omega, by rw [List.length_take, HS.out]; omega, HRB.out, ?_, .inr trivial⟩
  rw [List.take_take, Nat.min_eq_right hmd]

/-- The last n bytes, as Last counts them. -/
def lst (z : Int) (l : List UInt8) : List UInt8 := if z < 1 then [] else fin z.toNat l

theorem last_fin {u : Value} {w w2 : World} {l : List UInt8} {z : Int} {n : Nat} (W : World) (hW : Below w.heap.size w W) (h : ColPost W (l.drop (l.length - n)) (.returned u) w2) (hn : n = min z.toNat l.length) (hz : 1 ≤ z) : ColPost w (lst z l) (.returned u) w2 := by
  have e : l.drop (l.length - n) = lst z l := by
    unfold lst
    rw [if_neg (by omega)]
    unfold fin
    congr 1
    omega
  rw [e] at h
  obtain ⟨A, c, h1, h2, h3, h4⟩ := h
  refine ⟨A, c, h1, h2, ?_, below_on hW (Nat.le_refl _) h4⟩
  refine ⟨h3.1, ?_⟩
  rcases h3.2 with h | ⟨g, c', cur, e, hg, hr⟩
  · exact .inl h
  · exact .inr ⟨g, c', cur, e, Nat.le_trans hW.size hg, hr⟩

/-- The two variables that Last boxes. -/
theorem last_box (w : World) (P : Value) (z : Int) (w1 : World) (hw1 : (w.alloc (.cells #[P] 26)).alloc (.cells #[.int .i64 z] 3) = w1) :
    Below w.heap.size w w1 ∧ Bx w1 w.heap.size 26 P ∧ Bx w1 (w.heap.size + 1) 3 (.int .i64 z) ∧ w1.heap.size = w.heap.size + 2 := by
  subst hw1
  refine ⟨((Below.refl _ w).alloc (Nat.le_refl _) _).alloc (by simp) _, (Bx.new w _ _).same (Below.heap_alloc _ _ _ (by simp)), ?_, by simp⟩
  have := Bx.new (w.alloc (.cells #[P] 26)) 3 (.int .i64 z)
  rwa [World.size_alloc] at this

set_option maxRecDepth 100000 in
set_option maxHeartbeats 4000000 in
/-- Last of fewer than one byte. -/
theorem last_none {w : World} (p : Option Addr) (L : Nat) (z zs : Int) (hL : ∀ W, Below w.heap.size w W → Calls Tryd.prog 29 #[.pointer p] W fun e w' => e = .returned (.int .i64 (L : Int)) ∧ w' = W) (hz : zs < 1) (hsp : (zs = z ∧ ¬ ((L : Int) < z)) ∨ (zs = (L : Int) ∧ (L : Int) < z)) :
    Calls Tryd.prog 25 #[.pointer p, .int .i64 z] w (ColPost w []) := by
  obtain ⟨w1, hw1⟩ : ∃ w1, (w.alloc (.cells #[.pointer p] 26)).alloc (.cells #[.int .i64 z] 3) = w1 := ⟨_, rfl⟩
  obtain ⟨b1, r1, n1, sz⟩ := last_box w (.pointer p) z w1 hw1
  have LE := Lib.hid (hL w1.drew ⟨b1.os, b1.tape, b1.output, b1.size, b1.block⟩)
  have cr := r1.cell
  have cn := n1.cell
  have fn := n1.free
  obtain ⟨w2, hw2⟩ : ∃ w2, (w1.setCell ⟨w.heap.size + 1, 0, none⟩ (.int .i64 zs)).drew = w2 := ⟨_, rfl⟩
  have n2 : Bx w2 (w.heap.size + 1) 3 (.int .i64 zs) := by rw [← hw2]; exact (n1.set _).same (w := w1.setCell _ _) rfl
  have c2 := n2.cell
  have b2 : Below w.heap.size w w2 := by rw [← hw2]; exact below_drewN' (Below.setCell b1 (p := ⟨w.heap.size + 1, 0, none⟩) (Nat.le_succ _) _) 1
  have B2 := Lib.hid b2
  clear b1 r1 n1 sz n2 b2 hL
  rcases hsp with ⟨rfl, h1⟩ | ⟨rfl, h1⟩
  all_goals
    go_enter Tryd.func25, Tryd.ntmps25
    go_wp2
    go_region_with (go_at_call 29; refine LE.out.mono ?_; rintro e w3 ⟨rfl, rfl⟩)
    all_goals
      go_wp2
      go_ret
      exact ⟨none, 0, rfl, Nat.le_refl _, World.ownsRow_nil _ _ _ _, B2.out⟩

set_option maxRecDepth 100000 in
set_option maxHeartbeats 4000000 in
/-- Last of at least one byte. -/
theorem last_some {w : World} {x lim t : Nat} {v : Value} {l : List UInt8} (h : Rg w x v lim l t) (n : Nat) (hn1 : 1 ≤ n) (hnl : n ≤ l.length) (z : Int) (hz : n = min z.toNat l.length) (hsp : ((n : Int) = z ∧ ¬ ((l.length : Int) < z)) ∨ (n = l.length ∧ (l.length : Int) < z)) :
    Calls Tryd.prog 25 #[.pointer (some ⟨x, 0, none⟩), .int .i64 z] w (ColPost w (lst z l)) := by
  obtain ⟨w1, hw1⟩ : ∃ w1, (w.alloc (.cells #[.pointer (some ⟨x, 0, none⟩)] 26)).alloc (.cells #[.int .i64 z] 3) = w1 := ⟨_, rfl⟩
  obtain ⟨b1, r1, n1, sz⟩ := last_box w (.pointer (some ⟨x, 0, none⟩)) z w1 hw1
  have hll : l.length ≤ 134217728 := Nat.le_trans h.len h.most
  have b1d : Below w.heap.size w w1.drew := ⟨b1.os, b1.tape, b1.output, b1.size, b1.block⟩
  have LE := Lib.hid (h.below b1d).len_any
  have cr := r1.cell
  have cn := n1.cell
  have fn := n1.free
  obtain ⟨w2, hw2⟩ : ∃ w2, (w1.setCell ⟨w.heap.size + 1, 0, none⟩ (.int .i64 (n : Int))).drew = w2 := ⟨_, rfl⟩
  have n2 : Bx w2 (w.heap.size + 1) 3 (.int .i64 (n : Int)) := by rw [← hw2]; exact (n1.set _).same (w := w1.setCell _ _) rfl
  have r2 : Bx w2 w.heap.size 26 (.pointer (some ⟨x, 0, none⟩)) := by rw [← hw2]; exact (r1.same (w' := w1.setCell _ _) (Below.heap_setCell _ _ _ _ (by simp))).same rfl
  have c2 := n2.cell
  have b2 : Below w.heap.size w w2 := by rw [← hw2]; exact below_drewN' (Below.setCell b1 (p := ⟨w.heap.size + 1, 0, none⟩) (Nat.le_succ _) _) 1
  have g2 := h.below b2
  have CO := Lib.hid (collect_any w2 41 #[.pointer (some ⟨w.heap.size, 0, none⟩), .pointer (some ⟨w.heap.size + 1, 0, none⟩)] (enters_of Tryd.func41 (by kernel_rfl) rfl) (l.drop (l.length - n)) n (by rw [List.length_drop]; omega) (by omega) (fun _ => True) trivial (last1_feeds g2 w.heap.size (w.heap.size + 1) n hnl r2 n2))
  have FN : Hid (∀ u w3, ColPost w2 (l.drop (l.length - n)) (.returned u) w3 → ColPost w (lst z l) (.returned u) w3) := Lib.hid fun u w3 hp => last_fin w2 b2 hp hz (by omega)
  have Hdef : Hid (∀ e w3, ColPost w2 (l.drop (l.length - n)) e w3 → ∃ u, e = .returned u) := Lib.hid fun e w3 ⟨A, c, e1, _⟩ => ⟨_, e1⟩
  obtain ⟨L, hL⟩ : ∃ L, l.length = L := ⟨_, rfl⟩
  rw [hL] at LE hsp hnl hll
  clear b1 r1 n1 sz n2 b2 h r2 b1d g2 hz
  rcases hsp with ⟨rfl, h1⟩ | ⟨rfl, h1⟩
  all_goals
    clear hL
    go_enter Tryd.func25, Tryd.ntmps25
    go_wp2
    go_region_with (go_at_call 29; refine LE.out.mono ?_; rintro e w3 ⟨rfl, rfl⟩)
    all_goals
      go_wp2_with (go_at_call 40; go_loud (refine CO.out.mono ?_; intro e w4 hp; obtain ⟨u, rfl⟩ := Hdef.out e w4 hp; have P4 := Lib.hid (FN.out u w4 hp); clear hp))
      go_ret
      exact P4.out

theorem last_any {w : World} {x lim t : Nat} {v : Value} {l : List UInt8} (h : Rg w x v lim l t) (z : Int) :
    Calls Tryd.prog 25 #[.pointer (some ⟨x, 0, none⟩), .int .i64 z] w (ColPost w (lst z l)) := by
  by_cases h1 : z < 1
  · have := last_none (some ⟨x, 0, none⟩) l.length z z (fun W hW => (h.below hW).len_any) h1 (.inl ⟨rfl, by omega⟩)
    rw [show lst z l = [] by unfold lst; rw [if_pos h1]]
    exact this
  · by_cases h2 : l.length = 0
    · have := last_none (some ⟨x, 0, none⟩) l.length z (l.length : Int) (fun W hW => (h.below hW).len_any) (by omega) (.inr ⟨rfl, by omega⟩)
      rw [show lst z l = [] by unfold lst; rw [if_neg h1, List.eq_nil_of_length_eq_zero h2]; simp [fin]]
      exact this
    · rcases Int.lt_or_le (l.length : Int) z with h3 | h3
      · exact last_some h l.length (by omega) (Nat.le_refl _) z (by omega) (.inr ⟨rfl, h3⟩)
      · exact last_some h z.toNat (by omega) (by omega) z (by omega) (.inl ⟨by omega, by omega⟩)

theorem last_nil {w : World} (p : Option Addr) (z : Int) (hL : ∀ W, Below w.heap.size w W → Calls Tryd.prog 29 #[.pointer p] W fun e w' => e = .returned (.int .i64 0) ∧ w' = W) :
    Calls Tryd.prog 25 #[.pointer p, .int .i64 z] w (ColPost w []) := by
  rcases Int.lt_or_le (0 : Int) z with h3 | h3
  · exact last_none p 0 z 0 hL (by omega) (.inr ⟨rfl, h3⟩)
  · exact last_none p 0 z z hL (by omega) (.inl ⟨rfl, by simp; omega⟩)

end Go.Proofs.YteogpmapbeogpaaDoor
