/-
  What the iterator of tally.Increasing does: it hands on its entries in their order. It makes new memory in each round. No condition.
-/
import Derived.Test.YtdlhfcapfbbjjaaIac
namespace Go.Proofs.Ytdlhfcapfbbjjaa
open Go.RowKit

/-- As Hands, but new memory may be made between two rounds. -/
def HandsN (F : Fence) (n : Nat) (P : Program) (gf : Nat) (lb : Array Value) (N : Nat) (enc : Nat → Array Value) (Kp : World → Prop) : Prop :=
  ∀ (l : Nat) (I : Nat → World → Prop) (X : World → Prop) (W : World), (∀ j W W', Below W.heap.size W W' → I j W → I j W') → (∀ W d, X W → X (W.drewN d)) → (∀ j W, I j W → Kp W) → Yields F (n - 1) P l N enc I X → I 0 W →
    CallsIn F n P gf (#[.func (.yield l) #[] #[]] ++ lb) W fun e W' => (∃ v, e = .returned v) ∧ (I N W' ∨ X W')

/-- The j-th entry. -/
def entAt (S : List (Nat × Nat)) (j : Nat) : Array Value := #[nv (S[j]?.getD (0, 0)).1, nv (S[j]?.getD (0, 0)).2]
/-- Entries as they can be read. -/
def RdE (W : World) (A : Option Addr) (S : List (Nat × Nat)) : Prop := ∀ j p, S[j]? = some p → ∃ g, A = some ⟨g, 0, none⟩ ∧ W.cell? ⟨g, j * 2, none⟩ = some (nv p.1) ∧ W.cell? ⟨g, j * 2 + 1, none⟩ = some (nv p.2)
def KpI (A : Option Addr) (S : List (Nat × Nat)) (N c Bx : Nat) (W : World) : Prop := Boxed W Bx 69 (.slice A N c) ∧ RdE W A S

set_option maxRecDepth 100000 in
set_option maxHeartbeats 2000000 in
theorem incr2_hands (n : Nat) (hn : 1 ≤ n) (A : Option Addr) (S : List (Nat × Nat)) (N c Bx : Nat) (hk : S.length = N) (hN : N ≤ 256) :
    HandsN Fence.wide n Try.prog 53 #[.pointer (some ⟨Bx, 0, none⟩)] N (entAt S) (KpI A S N c Bx) := by
  intro l I X W hI hX hKp hY h0
  refine callsIn_of_wp Try.func53 rfl trivial ?_ rfl
  simp only [Try.ntmps53, List.size_toArray, List.length_cons, List.length_nil, Nat.reduceAdd, Nat.reduceSub, Array.replicate_succ, Array.replicate_zero, List.push_toArray, List.append_toArray, List.nil_append, List.cons_append]
  have hfw : ∀ f, Fence.wide.fn f := fun _ => trivial
  have HY := Lib.hid hY
  have HK := Lib.hid hKp
  have HKL := Lib.hid hk
  have HIB := Lib.hid hI
  have c0 := (hKp 0 W h0).1.cell
  clear hY hKp hk hI hX
  gi_wp2
  clear c0
  gi_loopw [7] (fun p wr => ∃ i : Nat, i ≤ N ∧ p = .int .i64 (i : Int) ∧ Hid (I i wr))
    (fun p _ => N - (intOf p).toNat)
  case atStart =>
    exact ⟨0, Nat.zero_le _, rfl, Lib.hid h0⟩
  case round =>
    obtain ⟨i, hi, rfl, HI⟩ := hrel
    by_cases hlt : i < N
    · obtain ⟨⟨x, y⟩, hx⟩ : ∃ p, S[i]? = some p := ⟨_, List.getElem?_eq_getElem (by rw [HKL.out]; exact hlt)⟩
      obtain ⟨g, hA, hc, hc2⟩ := (HK.out _ _ HI.out).2 i _ hx
      subst hA
      simp only [nv] at hc hc2
      have lc := cell_lt hc
      obtain ⟨fn, tmps, assign, body, hy, hR⟩ := HY.out i (wr.alloc (.cells #[.int .i64 (x : Int), .int .i64 (y : Int)] 76)) hlt (HIB.out _ _ _ ((Below.refl _ wr).alloc (Nat.le_refl _) _) HI.out)
      unfold entAt at hy
      rw [hx] at hy
      simp only [nv, Option.getD_some] at hy
      have HR := Lib.hid hR
      clear hR HY hx
      gi_wp2
      refine HR.out.mono ?_
      rintro e W3 (⟨rfl, hI3⟩ | ⟨rfl, hX3⟩)
      · have H3 := Lib.hid hI3
        clear hI3
        gi_wp2
        exact ⟨⟨i + 1, by omega, by simp, H3⟩, by simp [intOf]; omega⟩
      · have H3 := Lib.hid hX3
        clear hX3
        gi_wp2
        refine bodyPost_ret (results_none rfl _ _ _) rfl ?_
        exact ⟨⟨_, rfl⟩, .inr H3.out⟩
    · have HE : Hid (i = N) := Lib.hid (by omega)
      gi_wp2
      go_end0
      exact ⟨⟨_, rfl⟩, .inl (by rw [← HE.out]; exact HI.out)⟩

end Go.Proofs.Ytdlhfcapfbbjjaa
