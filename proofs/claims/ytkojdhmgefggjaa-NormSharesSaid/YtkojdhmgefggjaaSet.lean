/-
  What division.settle does: states are given or taken one at a time until all are given and none is given twice. Nothing but the division's blocks and new memory changes. Condition: the numbers are in their ranges; not more symbols than states.
-/
import Derived.Test.YtkojdhmgefggjaaAdj
namespace Go.Proofs.Ytkojdhmgefggjaa
open Go.RowKit Go.Shelf

@[local go_sem] theorem run_store_func {P : Program} {w : World} {a : Addr} {m : Mode} (f : Fn) (x y : Array Value) : (store a (.func f x y) m).run P w = stored P w a (.func f x y) m := run_store P w a _ m rfl

theorem Chg.keeps {S : Nat → Prop} {W W' : World} (hc : Chg S W W') {a : Nat} {v : Value} (h : W.cell? ⟨a, 0, none⟩ = some v) (hn : ¬ S a) : W'.cell? ⟨a, 0, none⟩ = some v := by
  rw [World.cell?_of_block (hc.block a (cell_lt h) hn)]; exact h
theorem two_not {a b g n c : Nat} (h1 : a ≠ b) (h2 : a ≠ g) : ¬ Two b (.slice (some ⟨g, 0, none⟩) n c) a := fun (e : _ ∨ _) => by
  rcases e with e | e
  · exact h1 e
  · injection e with e; exact h2 e.symm
theorem two_ge {B b g n c : Nat} (h1 : B ≤ b) (h2 : B ≤ g) : ∀ k, Two b (.slice (some ⟨g, 0, none⟩) n c) k → B ≤ k := fun k (e : _ ∨ _) => by
  rcases e with e | e
  · omega
  · injection e with e; rw [← e]; exact h2

set_option maxRecDepth 100000 in
set_option maxHeartbeats 2000000 in
theorem settle_any (w : World) (B b g n c : Nat) (U : List Nat) (sh st : Nat → Int) (T : Nat) (lf : Int) (hd : Dv w B b (.slice (some ⟨g, 0, none⟩) n c) U sh st T lf) (hB : B ≤ w.heap.size) (hU : U.length = n) (hn0 : 0 < n) (hnb : n ≤ 512) (hnd : U.Nodup) (hT : T ≤ 1099511627776) (hr : Rg U sh st 512) (hlf : -262144 ≤ lf ∧ lf ≤ 512) (hsm : (n : Int) ≤ sm st U + lf) :
    Calls Try.prog 28 #[.pointer (some ⟨b, 0, none⟩)] w fun e w' => e = .returned (.tuple #[]) ∧ Dv w' B b (.slice (some ⟨g, 0, none⟩) n c) U sh (dnN sh T U (-lf).toNat (upN sh T U lf.toNat st)) T 0 ∧ Below B w w' := by
  have hbl : b < w.heap.size := hd.lt
  have hgl : g < w.heap.size := own_lt3 hd.own rfl
  have hgB : B ≤ g := own_ge3 hd.own rfl
  have hbB := hd.low
  have z0 : Boxed ((w.alloc (.cells #[.pointer (some ⟨b, 0, none⟩)] 44)).alloc (.cells #[.nilFunc] 55)) w.heap.size 44 (.pointer (some ⟨b, 0, none⟩)) := (Boxed.new w _ _).alloc _
  have z1 : Boxed ((w.alloc (.cells #[.pointer (some ⟨b, 0, none⟩)] 44)).alloc (.cells #[.nilFunc] 55)) (w.heap.size + 1) 55 .nilFunc := by
    have := Boxed.new (w.alloc (.cells #[.pointer (some ⟨b, 0, none⟩)] 44)) 55 .nilFunc
    rwa [World.size_alloc] at this
  have gz : Below w.heap.size w ((w.alloc (.cells #[.pointer (some ⟨b, 0, none⟩)] 44)).alloc (.cells #[.nilFunc] 55)) := ((Below.refl _ w).alloc (Nat.le_refl _) _).alloc (by simp) _
  have zc := z1.cell
  have zf := z1.frozen
  obtain ⟨w2, hw2⟩ : ∃ w2, World.setCell ((w.alloc (.cells #[.pointer (some ⟨b, 0, none⟩)] 44)).alloc (.cells #[.nilFunc] 55)) ⟨w.heap.size + 1, 0, none⟩ (.func (Fn.func 32) #[] #[.pointer (some ⟨w.heap.size, 0, none⟩)]) = w2 := ⟨_, rfl⟩
  have b0 : Boxed w2 w.heap.size 44 (.pointer (some ⟨b, 0, none⟩)) := by rw [← hw2]; exact Boxed.other z0 (by omega) _
  have b1 : Boxed w2 (w.heap.size + 1) 55 (.func (Fn.func 32) #[] #[.pointer (some ⟨w.heap.size, 0, none⟩)]) := by rw [← hw2]; exact z1.set _
  have g1 : Below w.heap.size w w2 := by rw [← hw2]; exact gz.setCell (p := ⟨w.heap.size + 1, 0, none⟩) (by show w.heap.size ≤ w.heap.size + 1; omega) _
  clear z0 z1 gz
  have hmf : ∀ (fn : Fn) (first cap : Array Value) (w : World), (Instr.makeFunc fn first cap).run Try.prog w = .ok (.func fn first cap) w := fun _ _ _ _ => rfl
  have hU0 : U ≠ [] := fun e => by rw [e] at hU; simp at hU; omega
  have UA := upN_all (sh := sh) (t := (T : Int)) hU0 hnd lf.toNat st
  have C1 := Lib.hid (adjust_up w2 B b g n c U sh st T lf w.heap.size (hd.below g1) b0.cell ⟨by omega, by omega⟩ hU hn0 hnb hnd hT ⟨hr.sh, fun i hi => by have := hr.st i hi; omega⟩ ⟨hlf.1, by omega⟩)
  have C2 : Hid (∀ w3, Dv w3 B b (.slice (some ⟨g, 0, none⟩) n c) U sh (upN sh T U lf.toNat st) T (lf - 1 * lf.toNat) → Chg (Two b (.slice (some ⟨g, 0, none⟩) n c)) w2 w3 →
      Calls Try.prog 33 #[.pointer (some ⟨b, 0, none⟩), .agg #[.int .i64 (-1), fv 36 #[], fv 37 #[], fv 38 #[.pointer (some ⟨w.heap.size + 1, 0, none⟩)]]] w3
        fun e w' => e = .returned (.tuple #[]) ∧ Dv w' B b (.slice (some ⟨g, 0, none⟩) n c) U sh (dnN sh T U (-lf).toNat (upN sh T U lf.toNat st)) T 0 ∧ Chg (Two b (.slice (some ⟨g, 0, none⟩) n c)) w3 w') := Lib.hid (fun w3 hd3 hc3 => by
    have nb : ∀ a, w.heap.size ≤ a → ¬ Two b (.slice (some ⟨g, 0, none⟩) n c) a := fun a ha => two_not (by omega) (by omega)
    have h1 := adjust_dn w3 B b g n c U sh (upN sh T U lf.toNat st) T (lf - 1 * lf.toNat) (w.heap.size + 1) w.heap.size hd3 (hc3.keeps b0.cell (nb _ (Nat.le_refl _))) ⟨by omega, by omega⟩ (hc3.keeps b1.cell (nb _ (by omega))) ⟨by omega, by omega⟩ (by rw [UA.1]; omega) hU hnb hnd hT
      ⟨hr.sh, fun i hi => by have := UA.2 0 512 (fun i hi => hr.st i hi) i hi; omega⟩ ⟨by omega, by omega⟩
    have e1 : (-(lf - 1 * (lf.toNat : Int))).toNat = (-lf).toNat := by omega
    have e2 : lf - 1 * (lf.toNat : Int) - (-1) * ((-lf).toNat : Int) = 0 := by omega
    rw [e1, e2] at h1
    exact h1)
  have N2 := Lib.hid (fun w4 (hc : Chg (Two b (.slice (some ⟨g, 0, none⟩) n c)) w2 w4) => (show Below B w w4 from (Below.mono g1 hB).trans (hc.new (by have := g1.size; omega) (two_ge hbB hgB))))
  have c0 := b0.cell
  have c1 := b1.cell
  have B0 := Lib.hid b0
  have B1 := Lib.hid b1
  simp only [fv] at C1 C2
  clear hd hr hlf hsm hnd hU UA b0 b1 g1 hU0
  go_enter Try.func28, Try.ntmps28
  go_wp2_with (first
    | (go_at_call 33; refine (C2.out w3 D3.out H3.out).mono ?_; rintro e w4 ⟨rfl, hd4, hc4⟩; have D4 := Lib.hid hd4; have H4 := Lib.hid (H3.out.trans hc4); clear hd4 hc4)
    | (go_at_call 33; refine C1.out.mono ?_; rintro e w3 ⟨rfl, hd3, hc3⟩; have D3 := Lib.hid hd3; have H3 := Lib.hid hc3; have c3 := hc3.keeps B0.out.cell (two_not (by omega) (by omega)); clear hd3 hc3))
  go_end0
  exact ⟨rfl, D4.out, N2.out _ H4.out⟩

end Go.Proofs.Ytkojdhmgefggjaa
