/-
  What states and floorLog2 of package cells do; a cell as a value and as a block; what the functions with a result variable in memory return. Nothing has changed. Conditions: those that each theorem states.
-/
import Derived.Test.YtonapehlhkoplaaLen
import Derived.Test.YtonapehlhkoplaaUni
namespace Go.Proofs.Ytonapehlhkoplaa
open Go.RowKit Go.Shelf

set_option maxRecDepth 100000 in
set_option maxHeartbeats 1000000 in
theorem states_any (w : World) (z : Int) (h : -1 ≤ z) (h2 : z ≤ 1000000) : Calls Try.prog 50 #[.int .i64 z] w fun e w' => e = .returned (.int .i64 (sts z)) ∧ w' = w := by
  by_cases h1 : z = -1
  · subst h1
    go_enter Try.func50, Try.ntmps50
    go_wp2
    go_ret
    exact ⟨rfl, rfl⟩
  · have e : sts z = z := by unfold sts; rw [if_neg h1]
    have hm : max z (-z) = z := by omega
    rw [e]
    go_enter Try.func50, Try.ntmps50
    go_wp2
    go_ret
    exact ⟨rfl, rfl⟩

set_option maxRecDepth 100000 in
set_option maxHeartbeats 1000000 in
theorem floor_any (w : World) (x : Nat) (h : 1 ≤ x) (h2 : x ≤ 1000000) : Calls Try.prog 51 #[.int .i64 (x : Int)] w fun e w' => e = .returned (.int .i64 (x.log2 : Int)) ∧ w' = w := by
  have LN := Lib.hid (len_any w x (by omega))
  have hb : blen x = x.log2 + 1 := by unfold blen; rw [if_neg (by omega)]
  have hl : x.log2 < 20 := (Nat.log2_lt (by omega)).2 (by omega)
  obtain ⟨g, hg⟩ : ∃ g, x.log2 = g := ⟨_, rfl⟩
  rw [hb] at LN
  rw [hg] at LN hl ⊢
  clear hb hg
  go_enter Try.func51, Try.ntmps51
  go_wp2_with (go_at_call 54; refine LN.out.mono ?_; rintro e w' ⟨rfl, rfl⟩)
  go_ret
  exact ⟨by simp, rfl⟩

/-- A cell as a value and as a block. -/
abbrev cev (p q r : Int) : Value := .agg #[.int .i64 p, .int .i64 q, .int .i64 r]
def Ce (W : World) (b : Nat) (p q r : Int) : Prop := W.heap[b]? = some (.cells #[.int .i64 p, .int .i64 q, .int .i64 r] 35 (0, 0))
section
variable {W W' : World} {b : Nat} {p q r : Int}
theorem Ce.lt (h : Ce W b p q r) : b < W.heap.size := (Array.getElem?_eq_some_iff.1 h).1
theorem Ce.c0 (h : Ce W b p q r) : W.cell? ⟨b, 0, none⟩ = some (.int .i64 p) := by rw [cell_of_row W b 0 _ _ _ h]; rfl
theorem Ce.c1 (h : Ce W b p q r) : W.cell? ⟨b, 1, none⟩ = some (.int .i64 q) := by rw [cell_of_row W b 1 _ _ _ h]; rfl
theorem Ce.c2 (h : Ce W b p q r) : W.cell? ⟨b, 2, none⟩ = some (.int .i64 r) := by rw [cell_of_row W b 2 _ _ _ h]; rfl
theorem Ce.free (h : Ce W b p q r) (i : Nat) : W.frozen? ⟨b, i, none⟩ = false := by
  have : W.heap[b]? = _ := h
  simp [World.frozen?, this]
theorem Ce.same (h : Ce W b p q r) (hb : W'.heap[b]? = W.heap[b]?) : Ce W' b p q r := hb.trans h
theorem Ce.below (h : Ce W b p q r) (hb : Below W.heap.size W W') : Ce W' b p q r := hb.block b h.lt |>.trans h
theorem Ce.set0 (h : Ce W b p q r) (z : Int) : Ce (W.setCell ⟨b, 0, none⟩ (.int .i64 z)) b z q r := by
  have hb : W.heap[b]? = _ := h
  unfold Ce
  simp [World.setCell, Array.getElem?_modify, hb]
theorem Ce.set1 (h : Ce W b p q r) (z : Int) : Ce (W.setCell ⟨b, 1, none⟩ (.int .i64 z)) b p z r := by
  have hb : W.heap[b]? = _ := h
  unfold Ce
  simp [World.setCell, Array.getElem?_modify, hb]
theorem Ce.set2 (h : Ce W b p q r) (z : Int) : Ce (W.setCell ⟨b, 2, none⟩ (.int .i64 z)) b p q z := by
  have hb : W.heap[b]? = _ := h
  unfold Ce
  simp [World.setCell, Array.getElem?_modify, hb]
theorem Ce.new (W : World) (p q r : Int) : Ce (W.alloc (.cells #[.int .i64 p, .int .i64 q, .int .i64 r] 35)) W.heap.size p q r := World.alloc_heap_new W _
theorem Ce.load (h : Ce W b p q r) : (loadVar 35 ⟨b, 0, none⟩).run Try.prog W = .ok (cev p q r) W := by
  have c0 := h.c0
  have c1 := h.c1
  have c2 := h.c2
  simp [loadVar, go_sem, c0, c1, c2]
end

theorem results_cell {fn : Func} {a : Tmp} {t : TypeId} (h : fn.results = #[.cell a t]) {tmps : Array Value} {P : Program} {w : World} {ad : Addr} {v : Value} (hp : tmps.getD a undef = .pointer (some ad)) (hl : (loadVar t ad).run P w = .ok v w) :
    (results fn tmps).run P w = .ok v w := by
  have hp' : tmps[a]?.getD undef = .pointer (some ad) := by simpa using hp
  simp [results, h, hp', asAddr]
  exact hl
theorem results_cell2 {fn : Func} {a b : Tmp} {t : TypeId} (h : fn.results = #[.cell a t, .tmp b]) {tmps : Array Value} {P : Program} {w : World} {ad : Addr} {v : Value} (hp : tmps.getD a undef = .pointer (some ad)) (hl : (loadVar t ad).run P w = .ok v w) :
    (results fn tmps).run P w = .ok (.tuple #[v, tmps.getD b undef]) w := by
  have hp' : tmps[a]?.getD undef = .pointer (some ad) := by simpa using hp
  simp [results, h, hp', asAddr]
  rw [hl]
  simp [Result.andThen]

end Go.Proofs.Ytonapehlhkoplaa
