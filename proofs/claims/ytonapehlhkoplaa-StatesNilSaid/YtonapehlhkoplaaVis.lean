/-
  What spread.visits and the function that it returns do: that function hands on the indices in the order of the visits, until a round leaves. Conditions: the size is 1 to 512; while the rounds run, the variable that it captures holds the size.
-/
import Derived.RegionIn
import Derived.RangeFuncCalls
import Derived.Shelf.RegionOpen
import Derived.Test.YtonapehlhkoplaaStp
import Derived.Test.YtonapehlhkoplaaMap
namespace Go.Proofs.Ytonapehlhkoplaa
open Go.RowKit Go.Shelf

attribute [local go_sem] Oper.semAt_some

set_option maxHeartbeats 400000 in
theorem visits_in (n s : Nat) (w : World) :
    CallsIn Fence.wide n Try.prog 48 #[.int .i64 (s : Int)] w fun e w' => e = .returned (.func (.func 52) #[] #[.pointer (some ⟨w.heap.size, 0, none⟩)]) ∧ w' = w.alloc (.cells #[.int .i64 (s : Int)] 3) := by
  refine callsIn_of_wp Try.func48 rfl trivial ?_ rfl
  simp only [Try.ntmps48, List.size_toArray, List.length_cons, List.length_nil, Nat.reduceAdd, Nat.reduceSub, Array.replicate_succ, Array.replicate_zero, List.push_toArray, List.append_toArray, List.nil_append, List.cons_append]
  gi_wp2
  go_ret
  exact ⟨rfl, rfl⟩

/-- The j-th index. -/
def idxAt (s j : Nat) : Array Value := #[nv (vi s j)]
def KpV (s Bs : Nat) (W : World) : Prop := Boxed W Bs 3 (.int .i64 (s : Int))

set_option maxRecDepth 100000 in
set_option maxHeartbeats 2000000 in
theorem visits1_hands (n : Nat) (hn : 2 ≤ n) (s Bs : Nat) (h1 : 1 ≤ s) (hs : s ≤ 512) :
    Hands Fence.wide n Try.prog 52 #[.pointer (some ⟨Bs, 0, none⟩)] s (idxAt s) (KpV s Bs) := by
  intro l I X W hI hX hKp hY h0
  refine callsIn_of_wp Try.func52 rfl trivial ?_ rfl
  simp only [Try.ntmps52, List.size_toArray, List.length_cons, List.length_nil, Nat.reduceAdd, Nat.reduceSub, Array.replicate_succ, Array.replicate_zero, List.push_toArray, List.append_toArray, List.nil_append, List.cons_append]
  have hfw : ∀ f, Fence.wide.fn f := fun _ => trivial
  have hmx : Try.prog.follows .mixedOrders = true := by kernel_rfl
  have hn1 : 1 ≤ n := by omega
  have HY := Lib.hid hY
  have HK := Lib.hid hKp
  have HI := Lib.hid hI
  have H0 := Lib.hid h0
  have c0 := (hKp 0 W h0).cell
  obtain ⟨p, hp⟩ : ∃ p, stp s = p := ⟨_, rfl⟩
  have ST : Hid (CallsIn Fence.wide (n - 1) Try.prog 53 #[.int .i64 (s : Int)] W fun e w' => e = .returned (.int .i64 (p : Int)) ∧ w' = W) := Lib.hid (callsIn_wide.2 (by
    have := step_any W (s : Int)
    rw [stz_nat hs, hp] at this
    exact this))
  have hpb : p ≤ 1000 := by rw [← hp]; exact stp_le hs
  have HP := Lib.hid hp
  have c1 : W.drew.cell? ⟨Bs, 0, none⟩ = some (.int .i64 (s : Int)) := c0
  clear hY hKp hI hX h0 hp
  gi_wp2_with (gi_at_call 53; refine ST.out.mono ?_; rintro e w' ⟨rfl, rfl⟩)
  gi_region
  all_goals
    clear c0 c1
    gi_wp2
    gi_loopw [4, 5] (fun v u wr => ∃ j q t : Nat, j ≤ s ∧ t < s ∧ v = .int .i64 (t : Int) ∧ u = .int .i64 (q : Int) ∧ q + j = s ∧ Hid (t = vi s j) ∧ Hid (I j wr))
      (fun _ u _ => (intOf u).toNat)
    case atStart =>
      exact ⟨0, s, 0, Nat.zero_le _, h1, rfl, rfl, rfl, Lib.hid (vi_zero s).symm, Lib.hid (HI.out _ _ 1 H0.out)⟩
    case round =>
      obtain ⟨j, q, t, hj, ht, rfl, rfl, hq, HT, HJ⟩ := hrel
      by_cases hlt : j < s
      · obtain ⟨fn, tmps, assign, body, hy, hR⟩ := HY.out j wr hlt HJ.out
        unfold idxAt at hy
        rw [← HT.out] at hy
        simp only [nv] at hy
        have HR := Lib.hid hR
        have hd : decide ((0 : Int) < (q : Int)) = true := decide_eq_true (by omega)
        obtain ⟨t2, ht2⟩ : ∃ t2, vi s (j + 1) = t2 := ⟨_, rfl⟩
        have ht2s : t2 < s := by rw [← ht2]; exact vi_lt (by omega) _
        have hmod : ((t : Int) + (p : Int)) % (s : Int) = (t2 : Int) := by
          rw [← ht2, ← vi_next, ← HT.out, HP.out, Int.natCast_emod, Int.natCast_add]
        have hmod2 : Int.tmod ((t : Int) + (p : Int)) (s : Int) = (t2 : Int) := by
          rw [Int.tmod_eq_emod_of_nonneg (by omega)]
          exact hmod
        have hs0 : ¬ (s : Int) = 0 := by omega
        have HT2 : Hid (t2 = vi s (j + 1)) := Lib.hid ht2.symm
        clear hR HY ht2
        gi_wp2
        refine HR.out.mono ?_
        rintro e W3 (⟨rfl, hI3⟩ | ⟨rfl, hX3⟩)
        · have c3 := (HK.out _ _ hI3).cell
          have H3 := Lib.hid hI3
          clear hI3
          gi_wp2
          exact ⟨⟨j + 1, q - 1, t2, by omega, ht2s, by simp, by simp; omega, by omega, HT2, H3⟩, by simp [intOf]; omega⟩
        · have H3 := Lib.hid hX3
          clear hX3
          gi_wp2
          go_end0
          exact ⟨⟨_, rfl⟩, .inr H3.out⟩
      · have hq0 : q = 0 := by omega
        subst hq0
        have HE : Hid (j = s) := Lib.hid (by omega)
        gi_wp2
        go_end0
        exact ⟨⟨_, rfl⟩, .inl (by rw [← HE.out]; exact HJ.out)⟩

end Go.Proofs.Ytonapehlhkoplaa
