/-
  What a guarded read's last steps (the error stored in its variable, the cursor put back after an error) leave of memory. No condition beyond those that each theorem states.
-/
import Derived.Test.YtnbohkiimbooaaaNVar
namespace Go.Proofs.Ytnbohkiimbooaaa
open Go.RowKit

theorem Rd.set_other {w : World} {A : Option Addr} {l : List UInt8} (h : Rd w A l) {q : Addr} {x : Int} (hq : w.cell? q = some (.int .i64 x)) (u : Value) : Rd (w.setCell q u) A l := by
  refine h.keep fun p v hp ⟨b, hv⟩ => ?_
  subst hv
  have hne : q ≠ p := by
    rintro rfl
    rw [hq] at hp
    cases hp
  rw [World.cell?_setCell_other _ _ _ _ hne]; exact hp

section
variable {w W W1 : World} {c : Nat} {A : Option Addr} {cap : Nat} {l : List UInt8} {k k' k1 : Nat} {Ok : World → Value → Int → World → Prop} {v : Value} {err : Int}

theorem err_set (hWb : Below w.heap.size w W) (hWs : W.heap.size = w.heap.size + 3) (hcl : c < w.heap.size) (hg : W.grownBy W1 (some c)) (hc : Cur W1 c A cap l k') (x : Int) (hx : W1.cell? ⟨w.heap.size + 1, 0, none⟩ = some (.int .i64 x)) (u : Value) :
    Cur (W1.setCell ⟨w.heap.size + 1, 0, none⟩ u) c A cap l k' ∧ w.grownBy (W1.setCell ⟨w.heap.size + 1, 0, none⟩ u) (some c) ∧ (∀ j, W.heap.size ≤ j → (W1.setCell ⟨w.heap.size + 1, 0, none⟩ u).heap[j]? = W1.heap[j]?) ∧ (W1.setCell ⟨w.heap.size + 1, 0, none⟩ u).heap.size = W1.heap.size := by
  have hs := grown_setCell W1 (w.heap.size + 1) 0 u
  refine ⟨⟨hc.blk.grown hs (by simp; omega), hc.rd.set_other hx u, hc.le, hc.cap, hc.small⟩, ⟨?_, ?_, ?_, ?_, ?_⟩, ?_, by simp [World.setCell]⟩
  · exact hs.os.trans (hg.os.trans hWb.os)
  · exact hs.tape.trans (hg.tape.trans hWb.tape)
  · exact hs.output.trans (hg.output.trans hWb.output)
  · exact Nat.le_trans hWb.size (Nat.le_trans hg.size hs.size)
  · intro j hj hne
    rw [Below.heap_setCell W1 _ u j (by simp; omega), hg.block j (by omega) hne, hWb.block j hj]
  · intro j hj
    exact Below.heap_setCell W1 _ u j (by simp; omega)

theorem readPost_ok (hWb : Below w.heap.size w W) (hWs : W.heap.size = w.heap.size + 3) (hcl : c < w.heap.size) (hg : W.grownBy W1 (some c)) (hc : Cur W1 c A cap l k') (hk : err = 0 → k' = k1) (x : Int) (hx : W1.cell? ⟨w.heap.size + 1, 0, none⟩ = some (.int .i64 x)) (u : Value)
    (hok : Ok W v err W1) (he : err = 0) : ReadPost w c A cap l k k1 Ok (.returned (.tuple #[v, .int .i64 err])) (W1.setCell ⟨w.heap.size + 1, 0, none⟩ u) := by
  obtain ⟨h1, h2, h3, h4⟩ := err_set hWb hWs hcl hg hc x hx u
  refine ⟨v, err, W, W1, rfl, ?_, h2, hWb, hWs, hok, h3, h4⟩
  rw [if_pos he, ← hk he]
  exact h1

theorem readPost_bad (hWb : Below w.heap.size w W) (hWs : W.heap.size = w.heap.size + 3) (hcl : c < w.heap.size) (hg : W.grownBy W1 (some c)) (hc : Cur W1 c A cap l k') (hk0 : k ≤ l.length) (x : Int) (hx : W1.cell? ⟨w.heap.size + 1, 0, none⟩ = some (.int .i64 x)) (u : Value)
    (hok : Ok W v err W1) (he : err ≠ 0) : ReadPost w c A cap l k k1 Ok (.returned (.tuple #[v, .int .i64 err])) ((W1.setCell ⟨w.heap.size + 1, 0, none⟩ u).setCell ⟨c, 1, none⟩ (.int .i64 (k : Int))) := by
  obtain ⟨h1, h2, h3, h4⟩ := err_set hWb hWs hcl hg hc x hx u
  have hs := grown_setCell (W1.setCell ⟨w.heap.size + 1, 0, none⟩ u) c 1 (.int .i64 (k : Int))
  refine ⟨v, err, W, W1, rfl, ?_, grown_trans h2 hs, hWb, hWs, hok, ?_, ?_⟩
  · rw [if_neg he]
    exact h1.grown_self hs (h1.blk.set k) hk0
  · intro j hj
    rw [← h3 j hj]
    exact Below.heap_setCell _ _ _ j (by simp; omega)
  · rw [← h4]
    simp [World.setCell]

end
end Go.Proofs.Ytnbohkiimbooaaa
