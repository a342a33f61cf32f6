/-
  What a guarded read's last steps (the error stored in its variable, the cursor put back after an error) leave of memory. No condition beyond those that each theorem states.
  What num.read[[]byte] does round one read of a cursor: it hands on the value and the error, and puts the cursor back where it stood if there was an error; for a nil cursor it returns ErrNil. Condition: what the inner function does is given.
  A cursor stays as it is while new memory is made. No condition.
-/
import Derived.Test.YtpjbjbohbdlciaaRCurA
import Derived.Defers
import Derived.Laws.Pointers
namespace Go.Proofs.Ytpjbjbohbdlciaa.Nm

section
open Go.RowKit
theorem Rd.set_other {w : World} {A : Option Addr} {l : List UInt8} (h : Rd w A l) {q : Addr} {x : Int} (hq : w.cell? q = some (.int .i64 x)) (u : Value) : Rd (w.setCell q u) A l := by
  refine h.keep fun p v hp ⟨b, hv⟩ => ?_
  subst hv
  have hne : q ≠ p := by
    rintro rfl
    rw [hq] at hp
    cases hp
  rw [World.cell?_setCell_other _ _ _ _ hne]; exact hp

section
variable {w W W1 : World} {c : Nat} {A : Option Addr} {cap : Nat} {l : List UInt8} {k k' k1 : Nat} {Ok : World → Value → Int → World → Prop} {v : Value} {err : Int}

theorem err_set (hWb : Below w.heap.size w W) (hWs : W.heap.size = w.heap.size + 3) (hcl : c < w.heap.size) (hg : W.grownBy W1 (some c)) (hc : Cur W1 c A cap l k') (x : Int) (hx : W1.cell? ⟨w.heap.size + 1, 0, none⟩ = some (.int .i64 x)) (u : Value) :
    Cur (W1.setCell ⟨w.heap.size + 1, 0, none⟩ u) c A cap l k' ∧ w.grownBy (W1.setCell ⟨w.heap.size + 1, 0, none⟩ u) (some c) ∧ (∀ j, W.heap.size ≤ j → (W1.setCell ⟨w.heap.size + 1, 0, none⟩ u).heap[j]? = W1.heap[j]?) ∧ (W1.setCell ⟨w.heap.size + 1, 0, none⟩ u).heap.size = W1.heap.size := by
  have hs := grown_setCell W1 (w.heap.size + 1) 0 u
  refine ⟨⟨hc.blk.grown hs (by simp; omega), hc.rd.set_other hx u, hc.le, hc.cap, hc.small⟩, ⟨?_, ?_, ?_, ?_, ?_⟩, ?_, by simp [World.setCell]⟩
  · exact hs.os.trans (hg.os.trans hWb.os)
  · exact hs.tape.trans (hg.tape.trans hWb.tape)
  · exact hs.output.trans (hg.output.trans hWb.output)
  · exact Nat.le_trans hWb.size (Nat.le_trans hg.size hs.size)
  · intro j hj hne
    rw [Below.heap_setCell W1 _ u j (by simp; omega), hg.block j (by omega) hne, hWb.block j hj]
  · intro j hj
    exact Below.heap_setCell W1 _ u j (by simp; omega)

theorem readPost_ok (hWb : Below w.heap.size w W) (hWs : W.heap.size = w.heap.size + 3) (hcl : c < w.heap.size) (hg : W.grownBy W1 (some c)) (hc : Cur W1 c A cap l k') (hk : err = 0 → k' = k1) (x : Int) (hx : W1.cell? ⟨w.heap.size + 1, 0, none⟩ = some (.int .i64 x)) (u : Value)
    (hok : Ok W v err W1) (he : err = 0) : ReadPost w c A cap l k k1 Ok (.returned (.tuple #[v, .int .i64 err])) (W1.setCell ⟨w.heap.size + 1, 0, none⟩ u) := by
  obtain ⟨h1, h2, h3, h4⟩ := err_set hWb hWs hcl hg hc x hx u
  refine ⟨v, err, W, W1, rfl, ?_, h2, hWb, hWs, hok, h3, h4⟩
  rw [if_pos he, ← hk he]
  exact h1

theorem readPost_bad (hWb : Below w.heap.size w W) (hWs : W.heap.size = w.heap.size + 3) (hcl : c < w.heap.size) (hg : W.grownBy W1 (some c)) (hc : Cur W1 c A cap l k') (hk0 : k ≤ l.length) (x : Int) (hx : W1.cell? ⟨w.heap.size + 1, 0, none⟩ = some (.int .i64 x)) (u : Value)
    (hok : Ok W v err W1) (he : err ≠ 0) : ReadPost w c A cap l k k1 Ok (.returned (.tuple #[v, .int .i64 err])) ((W1.setCell ⟨w.heap.size + 1, 0, none⟩ u).setCell ⟨c, 1, none⟩ (.int .i64 (k : Int))) := by
  obtain ⟨h1, h2, h3, h4⟩ := err_set hWb hWs hcl hg hc x hx u
  have hs := grown_setCell (W1.setCell ⟨w.heap.size + 1, 0, none⟩ u) c 1 (.int .i64 (k : Int))
  refine ⟨v, err, W, W1, rfl, ?_, grown_trans h2 hs, hWb, hWs, hok, ?_, ?_⟩
  · rw [if_neg he]
    exact h1.grown_self hs (h1.blk.set k) hk0
  · intro j hj
    rw [← h3 j hj]
    exact Below.heap_setCell _ _ _ j (by simp; omega)
  · rw [← h4]
    simp [World.setCell]

end
end

section
open Go.RowKit Go.Shelf
set_option maxHeartbeats 400000 in
theorem restore_bs_ok (be : Nat) (p q : Value) (u : FrameMode) (w : World) (he : w.cell? ⟨be, 0, none⟩ = some (.int .i64 0)) :
    CallsD Try.prog 77 #[.pointer (some ⟨be, 0, none⟩), p, q] u w fun e u' w' => u' = u ∧ (e = .returned (.tuple #[]) ∧ w = w') := by
  go_enter_d Try.func77, Try.ntmps77
  go_wp2
  go_end0
  exact ⟨rfl, rfl⟩

set_option maxHeartbeats 400000 in
theorem restore_bs_bad (be bs bc c : Nat) (err x v : Int) (u : FrameMode) (w : World) (he : w.cell? ⟨be, 0, none⟩ = some (.int .i64 err)) (hn : (err != 0) = true) (hs : w.cell? ⟨bs, 0, none⟩ = some (.int .i64 x))
    (hb : w.cell? ⟨bc, 0, none⟩ = some (.pointer (some ⟨c, 0, none⟩))) (hc : w.cell? ⟨c, 1, none⟩ = some (.int .i64 v)) (hf : w.frozen? ⟨c, 1, none⟩ = false) :
    CallsD Try.prog 77 #[.pointer (some ⟨be, 0, none⟩), .pointer (some ⟨bs, 0, none⟩), .pointer (some ⟨bc, 0, none⟩)] u w fun e u' w' => u' = u ∧ (e = .returned (.tuple #[]) ∧ w' = w.setCell ⟨c, 1, none⟩ (.int .i64 x)) := by
  go_enter_d Try.func77, Try.ntmps77
  go_wp2
  go_end0
  exact ⟨rfl, rfl⟩

set_option maxHeartbeats 400000 in
theorem read_bs_nil (g : Value) (w : World) : Calls Try.prog 61 #[.pointer none, g] w fun e w' => e = .returned (.tuple #[.slice none 0 0, .int .i64 1]) ∧ Below w.heap.size w w' := by
  have hmf : ∀ (fn : Fn) (first cap : Array Value) (w : World), (Instr.makeFunc fn first cap).run Try.prog w = .ok (.func fn first cap) w := fun _ _ _ _ => rfl
  go_enter_defers Try.func61, Try.ntmps61
  go_wp2
  simp [bodyPostD, Leaves, results, Try.results61, go_sem]
  exact ((Below.refl _ _).alloc (Nat.le_refl _) _).alloc (by simp) _

set_option maxHeartbeats 1000000 in
theorem read_bs_any {w : World} {c : Nat} {A : Option Addr} {cap : Nat} {l : List UInt8} {k : Nat} (h : Cur w c A cap l k) (cs : Array Value) (k1 : Nat) (Ok : World → Value → Int → World → Prop)
    (hT : ∀ W, Below w.heap.size w W → W.heap.size = w.heap.size + 3 → Calls Try.prog 62 cs W (TakePost W c A cap l k1 Ok)) :
    Calls Try.prog 61 #[.pointer (some ⟨c, 0, none⟩), .func (.func 62) #[] cs] w (ReadPost w c A cap l k k1 Ok) := by
  have hmf : ∀ (fn : Fn) (first cap : Array Value) (w : World), (Instr.makeFunc fn first cap).run Try.prog w = .ok (.func fn first cap) w := fun _ _ _ _ => rfl
  have h1 := h.blk.cell1
  have hcl := h.blk.lt
  have H := Lib.hid h
  obtain ⟨W, hW⟩ : ∃ W, (((w.alloc (Obj.cells #[Value.pointer (some ⟨c, 0, none⟩)] 36)).alloc (Obj.cells #[Value.int IntKind.i64 0] 27)).alloc (Obj.cells #[Value.int IntKind.i64 (k : Int)] 3)) = W := ⟨_, rfl⟩
  have hWs : W.heap.size = w.heap.size + 3 := by rw [← hW]; simp
  have hWb : Below w.heap.size w W := by rw [← hW]; exact (((Below.refl _ _).alloc (Nat.le_refl _) _).alloc (by simp) _).alloc (by simp; omega) _
  have q0 : W.cell? ⟨w.heap.size, 0, none⟩ = some (.pointer (some ⟨c, 0, none⟩)) := by rw [← hW]; simp [go_sem]
  have q1 : W.cell? ⟨w.heap.size + 1, 0, none⟩ = some (.int .i64 0) := by rw [← hW]; simp [go_sem]
  have q2 : W.cell? ⟨w.heap.size + 1 + 1, 0, none⟩ = some (.int .i64 (k : Int)) := by rw [← hW]; simp [go_sem]
  have f1 : W.frozen? ⟨w.heap.size + 1, 0, none⟩ = false := by rw [← hW]; simp [go_sem]
  have HT := Lib.hid (hT W hWb hWs)
  have HW := Lib.hid hW
  have HWs := Lib.hid hWs
  have HWb := Lib.hid hWb
  have Q := Lib.hid (And.intro q0 (And.intro q1 (And.intro q2 f1)))
  clear h hT hW hWs hWb q0 q1 q2 f1
  go_enter_defers Try.func61, Try.ntmps61
  go_wp2_with fail
  rw [HW.out]
  refine HT.out.mono ?_
  rintro e W1 ⟨v, err, rfl, ⟨k', hc1, hk1⟩, hg1, hok⟩
  obtain ⟨q0, q1, q2, f1⟩ := Q.out
  have hlt1 : w.heap.size + 1 < W.heap.size := by have := HWs.out; omega
  have r0 : W1.cell? ⟨w.heap.size, 0, none⟩ = some (.pointer (some ⟨c, 0, none⟩)) := hg1.cell q0 (by simp; omega)
  have r1 : W1.cell? ⟨w.heap.size + 1, 0, none⟩ = some (.int .i64 0) := hg1.cell q1 (by simp; omega)
  have r2 : W1.cell? ⟨w.heap.size + 1 + 1, 0, none⟩ = some (.int .i64 (k : Int)) := hg1.cell q2 (by simp; omega)
  have f2 : W1.frozen? ⟨w.heap.size + 1, 0, none⟩ = false := (World.frozen?_of_block (w := W) (hg1.block _ hlt1 (by simp; omega))).trans f1
  have HC := Lib.hid hc1
  have HK := Lib.hid hk1
  have HG := Lib.hid hg1
  have HO := Lib.hid hok
  clear hc1 hk1 hg1 hok q0 q1 q2 f1 hlt1 h1
  have s1 : (W1.setCell ⟨w.heap.size + 1, 0, none⟩ (.int .i64 err)).cell? ⟨w.heap.size + 1, 0, none⟩ = some (.int .i64 err) := World.cell?_setCell_same' _ _ _ (by rw [r1]; rfl)
  have S1 := Lib.hid s1
  clear s1
  go_wp2
  refine leaves_cons (f := 77) (args := #[.pointer (some ⟨w.heap.size + 1, 0, none⟩), .pointer (some ⟨w.heap.size + 1 + 1, 0, none⟩), .pointer (some ⟨w.heap.size, 0, none⟩)]) (by simp) (by simp [go_sem]) ?_
  by_cases he : err = 0
  · refine (restore_bs_ok (w.heap.size + 1) _ _ .returning _ ?_).mono ?_
    · rw [S1.out, he]
    rintro e u' w2 ⟨rfl, rfl, rfl⟩
    simp only [Leaves, settle]
    refine ⟨_, ?_, readPost_ok HWb.out HWs.out hcl HG.out HC.out HK.out 0 r1 _ HO.out he⟩
    simp [results, Try.results61, go_sem, S1.out]
  · have c1 : (W1.setCell ⟨w.heap.size + 1, 0, none⟩ (.int .i64 err)).cell? ⟨c, 1, none⟩ = some (.int .i64 (k' : Int)) := by
      rw [World.cell?_setCell_other _ _ _ _ (by simp)]; exact HC.out.blk.cell1
    have c2 : (W1.setCell ⟨w.heap.size + 1, 0, none⟩ (.int .i64 err)).frozen? ⟨c, 1, none⟩ = false := by
      rw [World.frozen?_setCell]; exact HC.out.blk.free 1
    refine (restore_bs_bad (w.heap.size + 1) (w.heap.size + 1 + 1) w.heap.size c err k k' .returning _ S1.out (by rw [bne_iff_ne]; exact he) ?_ ?_ c1 c2).mono ?_
    · rw [World.cell?_setCell_other _ _ _ _ (by simp)]; exact r2
    · rw [World.cell?_setCell_other _ _ _ _ (by simp)]; exact r0
    rintro e u' w2 ⟨rfl, rfl, rfl⟩
    simp only [Leaves, settle]
    have s2 : ((W1.setCell ⟨w.heap.size + 1, 0, none⟩ (.int .i64 err)).setCell ⟨c, 1, none⟩ (.int .i64 (k : Int))).cell? ⟨w.heap.size + 1, 0, none⟩ = some (.int .i64 err) := by
      rw [World.cell?_setCell_other _ _ _ _ (by simp)]; exact S1.out
    refine ⟨_, ?_, readPost_bad HWb.out HWs.out hcl HG.out HC.out H.out.le 0 r1 _ HO.out he⟩
    simp [results, Try.results61, go_sem, s2]
end

section
open Go.RowKit Go.Shelf
theorem Cur.alloc {w : World} {c : Nat} {A : Option Addr} {cap : Nat} {l : List UInt8} {k : Nat} (h : Cur w c A cap l k) (o : Obj) : Cur (w.alloc o) c A cap l k := h.below ((Below.refl _ _).alloc (Nat.le_refl _) _)
end

end Go.Proofs.Ytpjbjbohbdlciaa.Nm
