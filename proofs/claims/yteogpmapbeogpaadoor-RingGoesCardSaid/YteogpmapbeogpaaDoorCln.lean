/-
  What bytes.Clone and Clone of a ring do: a ring of its own with the same state. No condition.
-/
import Derived.Test.YteogpmapbeogpaaDoorEqu
namespace Go.Proofs.YteogpmapbeogpaaDoor
open Go.RowKit

theorem own_empty (w : World) : (w.alloc (.cells #[] 5)).ownsRow w.heap.size 5 1 (.slice (some ⟨w.heap.size, 0, none⟩) 0 0) 0 [] :=
  ⟨rfl, .inr ⟨w.heap.size, 0, #[], rfl, Nat.le_refl _, World.alloc_heap_new w _, Nat.le_refl _, by simp, by simp, by simp⟩⟩

set_option maxRecDepth 100000 in
set_option maxHeartbeats 1000000 in
theorem bclone_any (A : Option Addr) (l : List UInt8) (N c : Nat) (hk : l.length = N) (hN : N ≤ 134217728) (w : World) (hR : Rd w A l) :
    Calls Tryd.prog 38 #[.slice A N c] w fun e w' => ∃ A' c', e = .returned (.slice A' N c') ∧ N ≤ c' ∧ w'.ownsRow w.heap.size 5 1 (.slice A' N c') N (l.map byt) ∧ Below w.heap.size w w' := by
  cases A with
  | none =>
    have hk0 : l = [] := by
      rcases l with _ | ⟨b, l⟩
      · rfl
      · obtain ⟨ad, e, _⟩ := hR 0 (byt b) rfl
        cases e
    subst hk0
    simp at hk
    subst hk
    have q1 := fun W => Lib.run_eql_slice_nil (P := Tryd.prog) W 22 5 none 0 c 0 0 Tryd.underlying22
    go_enter Tryd.func38, Tryd.ntmps38
    go_wp2
    go_ret
    exact ⟨none, 0, rfl, Nat.le_refl _, World.ownsRow_nil w w.heap.size 5 1, Below.refl _ _⟩
  | some ad =>
    have q1 := fun W => Lib.run_eql_slice_nil (P := Tryd.prog) W 22 5 (some ad) N c 0 0 Tryd.underlying22
    go_enter Tryd.func38, Tryd.ntmps38
    have O0 : Hid ((w.alloc (.cells #[] 5)).ownsRow w.heap.size 5 1 (.slice (some ⟨w.heap.size, 0, none⟩) 0 0) 0 []) := Lib.hid (own_empty w)
    have B0 : Hid (Below w.heap.size w (w.alloc (.cells #[] 5))) := Lib.hid ((Below.refl _ w).alloc (Nat.le_refl _) _)
    have R0 : Hid (Rd (w.alloc (.cells #[] 5)) (some ad) l) := Lib.hid (hR.below B0.out)
    have HK := Lib.hid hk
    clear hk hR
    go_wp2_with (at_builtin; refine wpList_append_vals Tryd.underlying22 byte_info rfl rfl _ _ rfl w.heap.size (.slice (some ⟨w.heap.size, 0, none⟩) 0 0) 0 [] rfl O0.out (some ad) (l.map byt) (byt_one l) N c (by rw [List.length_map]; exact HK.out) rfl R0.out (by omega) (by omega) B0.out.size ?_; intro v1 w1 ho hg he; rw [Nat.zero_add, List.nil_append] at ho; obtain ⟨A1, c1, rfl, hc1⟩ := own_form ho; have B1 := Lib.hid (B0.out.grown hg B0.out.size (fun j ej => by cases ej; exact Nat.le_refl _)); have O1 := Lib.hid ho; clear ho hg he)
    go_ret
    exact ⟨A1, c1, rfl, hc1, O1.out, B1.out⟩

/-- A ring of its own with the same state. -/
def ClnPost (w : World) (lim : Nat) (l : List UInt8) (t : Nat) (e : Ending) (w' : World) : Prop :=
  ∃ y u, e = .returned (.pointer (some ⟨y, 0, none⟩)) ∧ Rg w' y u lim l t ∧ Below w.heap.size w w' ∧ ∀ k, Fp y u k → w.heap.size ≤ k

theorem Rb.own (w : World) (lim o t : Nat) (v : Value) : Rb (w.alloc (.cells #[.int .i64 (lim : Int), v, .int .i64 (o : Int), .int .i64 (t : Int)] 57)) w.heap.size lim v o t := World.alloc_heap_new w _

set_option maxRecDepth 100000 in
set_option maxHeartbeats 2000000 in
theorem clone_any {w : World} {x lim t : Nat} {v : Value} {l : List UInt8} (h : Rg w x v lim l t) :
    Calls Tryd.prog 22 #[.pointer (some ⟨x, 0, none⟩)] w (ClnPost w lim l t) := by
  have NO := Lib.hid h.none_any
  have hm := h.most
  have h1 := h.one
  obtain ⟨p, o, hb, ho, hp, hop, hol, hz, hr⟩ := h.is
  obtain ⟨A, c, rfl, hc⟩ := own_form ho
  obtain ⟨n, hn⟩ : ∃ n, p.length = n := ⟨_, rfl⟩
  rw [hn] at hb ho hp hop hz hc
  have c0 := hb.c0
  have c1 := hb.c1
  have c2 := hb.c2
  have c3 := hb.c3
  obtain ⟨w1, hw1⟩ : ∃ w1, w.alloc (.cells #[.int .i64 (lim : Int), .slice A n c, .int .i64 (o : Int), .int .i64 (t : Int)] 57) = w1 := ⟨_, rfl⟩
  have b1 : Below w.heap.size w w1 := by rw [← hw1]; exact lit_bel w _
  have r1 : Rb w1 w.heap.size lim (.slice A n c) o t := by rw [← hw1]; exact Rb.own w lim o t _
  have s1 : w1.heap.size = w.heap.size + 1 := by rw [← hw1]; simp
  have hb1 : Rb w1 x lim (.slice A n c) o t := hb.same (b1.block x hb.lt)
  have d1 := hb1.c1
  have BC := Lib.hid (bclone_any A p n c hn (by omega) w1 ((Rv.of_own ho).below b1))
  have FN : Hid (∀ w2 A' c', w2.ownsRow w1.heap.size 5 1 (.slice A' n c') n (p.map byt) → Below w1.heap.size w1 w2 → ClnPost w lim l t (.returned (.pointer (some ⟨w.heap.size, 0, none⟩))) (w2.setCell ⟨w.heap.size, 1, none⟩ (.slice A' n c'))) := Lib.hid (by
    intro w2 A' c' ho2 hb2
    have r2 : Rb w2 w.heap.size lim (.slice A n c) o t := r1.same (hb2.block _ (by omega))
    have bb : Below w.heap.size w w2 := below_on b1 (Nat.le_refl _) hb2
    refine ⟨_, .slice A' n c', rfl, ⟨h1, hm, p, o, r2.set1 _, ?_, by omega, by omega, hol, by rw [hn]; exact hz, hr⟩, Below.setCell bb (p := ⟨w.heap.size, 1, none⟩) (Nat.le_refl _) _, ?_⟩
    · rw [hn]
      refine own_zero (own_same ho2 fun g hg => Below.heap_setCell w2 ⟨w.heap.size, 1, none⟩ _ g (fun e => ?_))
      have := own_base ho2 hg
      have e' : g = w.heap.size := e
      omega
    · intro k hk
      rcases hk with hk | hk
      · omega
      · have := own_base ho2 hk
        omega)
  have CE : Hid (∀ w2, Below w1.heap.size w1 w2 → w2.cell? ⟨w.heap.size, 1, none⟩ = some (.slice A n c) ∧ w2.frozen? ⟨w.heap.size, 1, none⟩ = false) := Lib.hid fun w2 hb2 => by
    have r2 : Rb w2 w.heap.size lim (.slice A n c) o t := r1.same (hb2.block _ (by omega))
    exact ⟨r2.c1, r2.free 1⟩
  clear h hb ho hp hop hol hz hr b1 r1 s1 hb1 hn
  go_enter Tryd.func22, Tryd.ntmps22
  go_wp2_with (first
    | (go_at_call 36; refine NO.out.mono ?_; rintro e w ⟨rfl, rfl⟩)
    | (go_at_call 38; refine BC.out.mono ?_; rintro e w2 ⟨A', c', rfl, hc', ho2, hb2⟩; obtain ⟨q1, q2⟩ := CE.out w2 hb2; have F2 := Lib.hid (FN.out w2 A' c' ho2 hb2); clear ho2 hb2))
  go_ret
  exact F2.out

set_option maxRecDepth 100000 in
set_option maxHeartbeats 1000000 in
theorem clone_none {w : World} {P : Option Addr} (hn : Calls Tryd.prog 36 #[.pointer P] w fun e w' => e = .returned (.bool true) ∧ w' = w) :
    Calls Tryd.prog 22 #[.pointer P] w fun e w' => e = .returned (.pointer none) ∧ w' = w := by
  have NO := Lib.hid hn
  clear hn
  go_enter Tryd.func22, Tryd.ntmps22
  go_wp2_with (go_at_call 36; refine NO.out.mono ?_; rintro e w ⟨rfl, rfl⟩)
  go_ret
  exact ⟨rfl, rfl⟩

end Go.Proofs.YteogpmapbeogpaaDoor
