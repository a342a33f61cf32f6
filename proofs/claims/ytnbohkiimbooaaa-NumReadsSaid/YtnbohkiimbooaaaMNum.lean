/-
  What the method Number of a cursor does: the value and the error of Varint, and ErrLimit where the value is above most (a negative most counts as 0). Condition: most is an int; at most 3 * 10^14 bytes.
-/
import Derived.Test.YtnbohkiimbooaaaMVar
import Derived.Test.YtnbohkiimbooaaaReadIn
namespace Go.Proofs.Ytnbohkiimbooaaa
open Go.RowKit Go.Shelf

/-- Number's value and error. -/
def numB (r : VRes) (most : Int) : Nat × Nat := if r.err = 0 then (if max most 0 < (r.val : Int) then (0, 18) else (r.val, 0)) else (0, r.err)

set_option maxHeartbeats 400000 in
theorem number1_any {w : World} {c : Nat} {A : Option Addr} {cap : Nat} {l : List UInt8} {k B B' : Nat} {most : Int} (h : Cur w c A cap l k) (hB : w.cell? ⟨B, 0, none⟩ = some (.pointer (some ⟨c, 0, none⟩))) (hB' : w.cell? ⟨B', 0, none⟩ = some (.int .i64 most)) (hne : c ≠ B')
    (hm : most ≤ 9223372036854775807) (hv : (gv (l.drop k)).val ≤ 4611686018427387903) :
    Calls Try.prog 54 #[.pointer (some ⟨B, 0, none⟩), .pointer (some ⟨B', 0, none⟩)] w (TakePost w c A cap l (k + (gv (l.drop k)).len) (OkIs (.int .i64 ((numB (gv (l.drop k)) most).1 : Int)) ((numB (gv (l.drop k)) most).2 : Int))) := by
  have HX := Lib.hid (nextVarint_any h)
  clear h
  generalize gv (l.drop k) = r at *
  obtain ⟨N, hN⟩ : ∃ N, numB r most = N := ⟨_, rfl⟩
  have HN := Lib.hid hN
  have HV := Lib.hid hv
  have HM := Lib.hid hm
  rw [hN]
  clear hN hv hm
  go_enter Try.func54, Try.ntmps54
  go_wp2_with fail
  refine HX.out.mono ?_
  rintro e w1 ⟨k', rfl, hc, hg, hk⟩
  have hB1 : w1.cell? ⟨B', 0, none⟩ = some (.int .i64 most) := hg.cell hB' (by simp; omega)
  have HC := Lib.hid hc
  have HG := Lib.hid hg
  have HK := Lib.hid hk
  clear hc hg hk hB hB'
  by_cases he : r.err = 0
  · have he0 : ((r.err : Int) != 0) = false := by rw [he]; rfl
    have HE := Lib.hid he
    clear he
    have hv := HV.out
    have hm := HM.out
    by_cases hn : most < 0
    · have hw : IntKind.u64.wrap (0 : Int) = 0 := by decide
      by_cases hmm : (0 : Int) < (r.val : Int)
      · have hN : N = (0, 18) := by rw [← HN.out, numB, if_pos HE.out, if_pos (by omega)]
        subst hN
        go_wp2
        go_ret2
        exact ⟨_, _, rfl, ⟨k', HC.out, fun h => by first | exact HK.out HE.out | simp at h⟩, HG.out, rfl, rfl⟩
      · have hN : N = (r.val, 0) := by rw [← HN.out, numB, if_pos HE.out, if_neg (by omega)]
        subst hN
        go_wp2
        go_ret2
        exact ⟨_, _, rfl, ⟨k', HC.out, fun h => by first | exact HK.out HE.out | simp at h⟩, HG.out, rfl, rfl⟩
    · have hw : IntKind.u64.wrap most = most := by rw [wrap_u64_mod]; omega
      by_cases hmm : most < (r.val : Int)
      · have hN : N = (0, 18) := by rw [← HN.out, numB, if_pos HE.out, if_pos (by omega)]
        subst hN
        go_wp2
        go_ret2
        exact ⟨_, _, rfl, ⟨k', HC.out, fun h => by first | exact HK.out HE.out | simp at h⟩, HG.out, rfl, rfl⟩
      · have hN : N = (r.val, 0) := by rw [← HN.out, numB, if_pos HE.out, if_neg (by omega)]
        subst hN
        go_wp2
        go_ret2
        exact ⟨_, _, rfl, ⟨k', HC.out, fun h => by first | exact HK.out HE.out | simp at h⟩, HG.out, rfl, rfl⟩
  · have he0 : ((r.err : Int) != 0) = true := by rw [bne_iff_ne]; omega
    have hN : N = (0, r.err) := by rw [← HN.out, numB, if_neg he]
    subst hN
    have HE := Lib.hid he
    clear he
    go_wp2
    go_ret2
    exact ⟨_, _, rfl, ⟨k', HC.out, fun h => absurd (by simpa using h) HE.out⟩, HG.out, rfl, rfl⟩

set_option maxHeartbeats 400000 in
theorem number_any {w : World} {c : Nat} {A : Option Addr} {cap : Nat} {l : List UInt8} {k : Nat} (h : Cur w c A cap l k) (most : Int) (hm : most ≤ 9223372036854775807) :
    Calls Try.prog 37 #[.pointer (some ⟨c, 0, none⟩), .int .i64 most] w (RN w c A cap l k (.int .i64 ((numB (gv (l.drop k)) most).1 : Int)) ((numB (gv (l.drop k)) most).2 : Int) (gv (l.drop k)).len) := by
  have hmf : ∀ (fn : Fn) (first cap : Array Value) (w : World), (Instr.makeFunc fn first cap).run Try.prog w = .ok (.func fn first cap) w := fun _ _ _ _ => rfl
  have hcl := h.blk.lt
  obtain ⟨w0, hw0⟩ : ∃ w0, (w.alloc (.cells #[.pointer (some ⟨c, 0, none⟩)] 36)).alloc (.cells #[.int .i64 most] 3) = w0 := ⟨_, rfl⟩
  have hc0 : Cur w0 c A cap l k := by rw [← hw0]; exact (h.alloc _).alloc _
  have hT : ∀ W, Below w0.heap.size w0 W → W.heap.size = w0.heap.size + 3 →
      Calls Try.prog 54 #[.pointer (some ⟨w.heap.size, 0, none⟩), .pointer (some ⟨w.heap.size + 1, 0, none⟩)] W (TakePost W c A cap l (k + (gv (l.drop k)).len) (OkIs (.int .i64 ((numB (gv (l.drop k)) most).1 : Int)) ((numB (gv (l.drop k)) most).2 : Int))) := by
    intro W hb _
    refine number1_any (hc0.below hb) ?_ ?_ (by omega) hm (gv_val_le _)
    · rw [hb.cell (by rw [← hw0]; simp; omega), ← hw0]; simp [go_sem]
    · rw [hb.cell (by rw [← hw0]; simp), ← hw0]; simp [go_sem]
  have HX := Lib.hid (read_in_any hc0 _ _ _ hT)
  have HW := Lib.hid hw0
  clear h hT hw0 hc0 hm
  generalize gv (l.drop k) = r at *
  generalize numB r most = N at *
  go_enter Try.func37, Try.ntmps37
  go_wp2_with fail
  rw [HW.out]
  refine HX.out.mono ?_
  intro e w1 h1
  rw [← HW.out] at h1
  obtain ⟨rfl, hc, hg⟩ := rn_of_read2 h1
  have HC := Lib.hid hc
  have HG := Lib.hid hg
  clear hc hg h1
  go_wp2
  go_ret2
  exact ⟨rfl, HC.out, HG.out⟩

set_option maxHeartbeats 400000 in
theorem number_nil (w : World) (most : Int) : Calls Try.prog 37 #[.pointer none, .int .i64 most] w fun e w' => e = .returned (.tuple #[.int .i64 0, .int .i64 1]) ∧ Below w.heap.size w w' := by
  have hmf : ∀ (fn : Fn) (first cap : Array Value) (w : World), (Instr.makeFunc fn first cap).run Try.prog w = .ok (.func fn first cap) w := fun _ _ _ _ => rfl
  go_enter Try.func37, Try.ntmps37
  go_wp2_with fail
  refine (read_in_nil _ _).mono ?_
  rintro e w1 ⟨rfl, hb⟩
  go_wp2
  go_ret2
  exact ⟨rfl, (((Below.refl _ _).alloc (Nat.le_refl _) _).alloc (by simp) _).trans (hb.mono (by simp; omega))⟩

end Go.Proofs.Ytnbohkiimbooaaa
