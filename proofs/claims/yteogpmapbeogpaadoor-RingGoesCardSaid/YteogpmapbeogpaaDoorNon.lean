/-
  What few does at one call, and what All and the laws' helper over do at a ring that is none. No condition.
-/
import Derived.Test.YteogpmapbeogpaaDoorTwo
namespace Go.Proofs.YteogpmapbeogpaaDoor
open Go.RowKit Go.Shelf

def FewPost (W : World) (e : Ending) (w' : World) : Prop := (∃ b, e = .returned (.bool b)) ∧ w' = W

set_option maxRecDepth 100000 in
set_option maxHeartbeats 4000000 in
theorem few_one (W : World) (b : Nat) (wh : Int) (A : Option Addr) (n c : Nat) (ofs nn : Int) (c0 : W.cell? ⟨b, 0, none⟩ = some (.int .i64 wh)) (c1 : W.cell? ⟨b, 1, none⟩ = some (.slice A n c)) (c3 : W.cell? ⟨b, 3, none⟩ = some (.int .i64 nn)) :
    Calls Tryd.prog 11 #[.slice (some ⟨b, 0, none⟩) 1 1, .int .i64 1] W (FewPost W) := by
  have _ := ofs
  obtain ⟨q1, e1⟩ : ∃ q, decide ((100 : Int) < (n : Int)) = q := ⟨_, rfl⟩
  obtain ⟨q2, e2⟩ : ∃ q, decide (300 < nn) = q := ⟨_, rfl⟩
  obtain ⟨q3, e3⟩ : ∃ q, decide (nn ≤ 131072) = q := ⟨_, rfl⟩
  obtain ⟨q4, e4⟩ : ∃ q, (wh == 3) = q := ⟨_, rfl⟩
  obtain ⟨q5, e5⟩ : ∃ q, (wh == 4) = q := ⟨_, rfl⟩
  go_enter Tryd.func11, Tryd.ntmps11
  go_wp2
  go_loop [5] (fun p => ∃ i : Nat, i ≤ 1 ∧ p = .int .i64 (i : Int)) (fun p => 1 - (intOf p).toNat)
  case atStart => exact ⟨0, by decide, rfl⟩
  case round =>
    obtain ⟨i, hi, rfl⟩ := hrel
    rcases Nat.eq_zero_or_pos i with rfl | h1
    · have hz : ((0 : Nat) : Int) = 0 := rfl
      simp only [hz]
      cases q1
      · cases q2
        · go_wp2
          exact ⟨⟨1, by decide, rfl⟩, by simp [intOf]⟩
        · cases q3
          · go_wp2
            exact ⟨⟨1, by decide, rfl⟩, by simp [intOf]⟩
          · cases q4
            · cases q5
              · go_wp2
                exact ⟨⟨1, by decide, rfl⟩, by simp [intOf]⟩
              · go_wp2
                go_ret
                exact ⟨⟨_, rfl⟩, rfl⟩
            · go_wp2
              go_ret
              exact ⟨⟨_, rfl⟩, rfl⟩
      · go_wp2
        go_ret
        exact ⟨⟨_, rfl⟩, rfl⟩
    · obtain rfl : i = 1 := by omega
      have hz : ((1 : Nat) : Int) = 1 := rfl
      simp only [hz]
      go_wp2
      go_ret
      exact ⟨⟨_, rfl⟩, rfl⟩

/-- All of a ring that is none: an iterator over no bytes. -/
def AllPost (w : World) (e : Ending) (w' : World) : Prop :=
  ∃ q A c, e = .returned (.func (.func 37) #[] #[.pointer (some ⟨q, 0, none⟩)]) ∧ Bx w' q 22 (.slice A 0 c) ∧ Below w.heap.size w w' ∧ w.heap.size ≤ q

set_option maxRecDepth 100000 in
set_option maxHeartbeats 2000000 in
theorem all_none {w : World} (p : Option Addr) (hL : ∀ W, Below w.heap.size w W → Calls Tryd.prog 29 #[.pointer p] W fun e w' => e = .returned (.int .i64 0) ∧ w' = W) :
    Calls Tryd.prog 20 #[.pointer p] w (AllPost w) := by
  have LE := Lib.hid (hL w (Below.refl _ _))
  have LA := Lib.hid (last_nil p 0 hL)
  have FN : Hid (∀ (w1 : World) (A : Option Addr) (c : Nat), Below w.heap.size w w1 → AllPost w (.returned (.func (.func 37) #[] #[.pointer (some ⟨w1.heap.size, 0, none⟩)])) (w1.alloc (.cells #[.slice A 0 c] 22))) :=
    Lib.hid fun w1 A c hb => ⟨_, A, c, rfl, Bx.new w1 _ _, below_on hb (Nat.le_refl _) (lit_bel w1 _), hb.size⟩
  clear hL
  go_enter Tryd.func20, Tryd.ntmps20
  go_wp2_with fail
  refine LE.out.mono ?_
  rintro e w ⟨rfl, rfl⟩
  go_wp2_with fail
  refine LA.out.mono ?_
  rintro e w1 ⟨A, c, rfl, _, _, hb⟩
  have F1 := Lib.hid (FN.out w1 A c hb)
  clear hb
  simp only [List.length_nil]
  go_wp2_with fail
  go_ret
  exact F1.out

set_option maxRecDepth 100000 in
set_option maxHeartbeats 2000000 in
theorem all1_hands0 (n : Nat) (A : Option Addr) (c q : Nat) (enc : Nat → Array Value) :
    Hands Fence.wide n Tryd.prog 37 #[.pointer (some ⟨q, 0, none⟩)] 0 enc (fun W => Bx W q 22 (.slice A 0 c)) := by
  intro l I X W hI hX hKp hY h0
  refine callsIn_of_wp Tryd.func37 rfl trivial ?_ rfl
  simp only [Tryd.ntmps37, List.size_toArray, List.length_cons, List.length_nil, Nat.reduceAdd, Nat.reduceSub, Array.replicate_succ, Array.replicate_zero, List.push_toArray, List.append_toArray, List.nil_append, List.cons_append]
  have c0 := (hKp 0 W h0).cell
  have H0 := Lib.hid h0
  clear hY hKp hI hX h0
  refine wpIn_wide.2 ?_
  go_wp2
  go_loopw [7] (fun p wr => p = .int .i64 0 ∧ wr = W) (fun _ _ => 0)
  case atStart => exact ⟨rfl, rfl⟩
  case round =>
    obtain ⟨rfl, rfl⟩ := hrel
    go_wp2
    go_end0
    exact ⟨⟨_, rfl⟩, .inl H0.out⟩

end Go.Proofs.YteogpmapbeogpaaDoor
