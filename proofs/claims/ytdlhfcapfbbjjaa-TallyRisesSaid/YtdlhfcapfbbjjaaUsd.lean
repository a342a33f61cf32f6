/-
  What list.used and the function that it returns do: that function hands on the used symbols and their counts, in order, until a round leaves. Conditions: the list is valid; while the rounds run, the variable that it captures holds the list, and the list's counts lie there.
-/
import Derived.RegionIn
import Derived.Test.YtdlhfcapfbbjjaaScp
namespace Go.Proofs.Ytdlhfcapfbbjjaa
open Go.RowKit Go.Shelf

attribute [local go_sem] Oper.semAt_some

set_option maxHeartbeats 400000 in
theorem used_in (n : Nat) (A : Option Addr) (N c : Nat) (w : World) :
    CallsIn Fence.wide n Try.prog 55 #[.slice A N c] w fun e w' => e = .returned (.func (.func 61) #[] #[.pointer (some ⟨w.heap.size, 0, none⟩)]) ∧ w' = w.alloc (.cells #[.slice A N c] 60) := by
  refine callsIn_of_wp Try.func55 rfl trivial ?_ rfl
  simp only [Try.ntmps55, List.size_toArray, List.length_cons, List.length_nil, Nat.reduceAdd, Nat.reduceSub, Array.replicate_succ, Array.replicate_zero, List.push_toArray, List.append_toArray, List.nil_append, List.cons_append]
  gi_wp2
  go_ret
  exact ⟨rfl, rfl⟩

/-- The j-th used symbol and its count. -/
def symAt (k : List Nat) (j : Nat) : Array Value := #[nv (sym k j), nv (cnt k j)]

def KpU (A : Option Addr) (k : List Nat) (N c Bs : Nat) (W : World) : Prop := Boxed W Bs 60 (.slice A N c) ∧ Rn W A k

set_option maxRecDepth 100000 in
set_option maxHeartbeats 2000000 in
theorem used1_hands (n : Nat) (hn : 1 ≤ n) (A : Option Addr) (k : List Nat) (N c Bs : Nat) (hk : k.length = N) (hN : N ≤ 256) (hv : Vld k) :
    Hands Fence.wide n Try.prog 61 #[.pointer (some ⟨Bs, 0, none⟩)] (usd 0 k).length (symAt k) (KpU A k N c Bs) := by
  intro l I X W hI hX hKp hY h0
  refine callsIn_of_wp Try.func61 rfl trivial ?_ rfl
  simp only [Try.ntmps61, List.size_toArray, List.length_cons, List.length_nil, Nat.reduceAdd, Nat.reduceSub, Array.replicate_succ, Array.replicate_zero, List.push_toArray, List.append_toArray, List.nil_append, List.cons_append]
  have hfw : ∀ f, Fence.wide.fn f := fun _ => trivial
  have HY := Lib.hid hY
  have HK := Lib.hid hKp
  have HKL := Lib.hid hk
  have HV := Lib.hid hv
  have c0 := (hKp 0 W h0).1.cell
  clear hY hKp hk hv hI hX
  gi_wp2
  clear c0
  gi_loopw [7] (fun p wr => ∃ i : Nat, i ≤ N ∧ p = .int .i64 (i : Int) ∧ Hid (I (nus k i) wr))
    (fun p _ => N - (intOf p).toNat)
  case atStart =>
    exact ⟨0, Nat.zero_le _, rfl, Lib.hid (by rw [nus_zero]; exact h0)⟩
  case round =>
    obtain ⟨i, hi, rfl, HI⟩ := hrel
    by_cases hlt : i < N
    · obtain ⟨x, hx⟩ : ∃ x, k[i]? = some x := ⟨_, List.getElem?_eq_getElem (by rw [HKL.out]; exact hlt)⟩
      have HX := Lib.hid hx
      have hxb := HV.out.2 x (List.mem_of_getElem? hx)
      obtain ⟨ad, hA, hc⟩ := (HK.out _ _ HI.out).2 i (nv x) (by rw [List.getElem?_map, hx]; rfl)
      subst hA
      simp only [nv] at hc
      clear hx
      by_cases hx0 : x = 0
      · subst hx0
        have HN := Lib.hid (nus_none HX.out)
        simp only [Int.natCast_zero] at hc
        gi_wp2
        exact ⟨⟨i + 1, by omega, by simp, Lib.hid (by rw [HN.out]; exact HI.out)⟩, by simp [intOf]; omega⟩
      · have hx1 : 0 < x := by omega
        obtain ⟨n1, n2, n3⟩ := nus_some HX.out hx1
        obtain ⟨s1, s2⟩ := usd_get n2
        obtain ⟨fn, tmps, assign, body, hy, hR⟩ := HY.out (nus k i) wr n3 HI.out
        unfold symAt at hy
        rw [s1, s2] at hy
        simp only [nv] at hy
        have HR := Lib.hid hR
        have N1 := Lib.hid n1
        have hd : decide ((0 : Int) < (x : Int)) = true := decide_eq_true (by omega)
        clear hR n1 n2 n3 s1 s2 HY
        gi_wp2
        refine HR.out.mono ?_
        rintro e W3 (⟨rfl, hI3⟩ | ⟨rfl, hX3⟩)
        · have H3 := Lib.hid hI3
          clear hI3
          gi_wp2
          exact ⟨⟨i + 1, by omega, by simp, Lib.hid (by rw [N1.out]; exact H3.out)⟩, by simp [intOf]; omega⟩
        · have H3 := Lib.hid hX3
          clear hX3
          gi_wp2
          refine bodyPost_ret (results_none rfl _ _ _) rfl ?_
          exact ⟨⟨_, rfl⟩, .inr H3.out⟩
    · have HE : Hid (nus k i = (usd 0 k).length) := Lib.hid (nus_all k (by rw [HKL.out]; omega))
      gi_wp2
      go_end0
      exact ⟨⟨_, rfl⟩, .inl (by rw [← HE.out]; exact HI.out)⟩

end Go.Proofs.Ytdlhfcapfbbjjaa
