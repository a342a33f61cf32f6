/-
  What tally.Check does: it answers 0 at a valid histogram and 2 elsewhere, and changes nothing. No condition.
-/
import Derived.Test.YtdlhfcapfbbjjaaScp
namespace Go.Proofs.Ytdlhfcapfbbjjaa
open Go.RowKit

theorem ok_take {l : List Int} {i : Nat} {z : Int} (h : l[i]? = some z) : (l.take (i + 1)).all okc = ((l.take i).all okc && okc z) := by
  rw [take_succ_get h, List.all_append]; simp

set_option maxRecDepth 100000 in
set_option maxHeartbeats 2000000 in
theorem check_any (w : World) (A : Option Addr) (l : List Int) (N c : Nat) (hN : l.length = N) (hR : Ri w A l) :
    Calls Try.prog 20 #[.slice A N c] w fun e w' => e = .returned (.int .i64 (if ok l then 0 else 2)) ∧ w' = w := by
  obtain ⟨R, hRR⟩ : ∃ R, (if ok l then (0 : Int) else 2) = R := ⟨_, rfl⟩
  rw [hRR]
  have HR := Lib.hid hRR
  have HN := Lib.hid hN
  have HRD := Lib.hid hR
  clear hRR hN hR
  by_cases hbig : 256 < N
  · have HE : Hid (R = 2) := Lib.hid (by rw [← HR.out, if_neg]; unfold ok; rw [HN.out]; simp; omega)
    go_enter Try.func20, Try.ntmps20
    go_wp2
    refine wp_scope_fwd 0 rfl ?_
    go_wp2
    go_step3
    refine And.intro rfl ?_
    go_wp2
    rw [Exit.noGoto_ret]
    go_ret
    exact ⟨congrArg (fun z => Ending.returned (Value.int .i64 z)) HE.out.symm, rfl⟩
  · go_enter Try.func20, Try.ntmps20
    go_wp2
    refine wp_scope_fwd 0 rfl ?_
    go_wp2
    go_loop [10] (fun p => ∃ i : Nat, i ≤ N ∧ p = .int .i64 (i : Int) ∧ Hid ((l.take i).all okc = true)) (fun p => N - (intOf p).toNat)
    case atStart => exact ⟨0, Nat.zero_le _, rfl, Lib.hid (by simp)⟩
    case round =>
      obtain ⟨i, hi, rfl, HA⟩ := hrel
      by_cases hlt : i < N
      · obtain ⟨z, hz⟩ : ∃ z, l[i]? = some z := ⟨_, List.getElem?_eq_getElem (by rw [HN.out]; exact hlt)⟩
        have HT := Lib.hid (ok_take hz)
        obtain ⟨ad, hA, hc⟩ := HRD.out i (iv z) (by rw [List.getElem?_map, hz]; rfl)
        have HZ := Lib.hid hz
        clear hz
        subst hA
        by_cases hneg : z < 0
        · have HE : Hid (R = 2) := Lib.hid (by
            rw [← HR.out, if_neg]
            intro h
            unfold ok at h
            rw [Bool.and_eq_true, List.all_eq_true] at h
            have := h.2 z (List.mem_of_getElem? HZ.out)
            simp [okc] at this
            omega)
          go_wp2
          go_step3
          refine And.intro rfl ?_
          go_wp2
          rw [Exit.noGoto_ret]
          go_ret
          exact ⟨congrArg (fun z => Ending.returned (Value.int .i64 z)) HE.out.symm, rfl⟩
        · by_cases hgr : 2147483648 < z
          · have HE : Hid (R = 2) := Lib.hid (by
              rw [← HR.out, if_neg]
              intro h
              unfold ok at h
              rw [Bool.and_eq_true, List.all_eq_true] at h
              have := h.2 z (List.mem_of_getElem? HZ.out)
              simp [okc] at this
              omega)
            go_wp2
            go_step3
            refine And.intro rfl ?_
            go_wp2
            rw [Exit.noGoto_ret]
            go_ret
            exact ⟨congrArg (fun z => Ending.returned (Value.int .i64 z)) HE.out.symm, rfl⟩
          · go_wp2
            exact ⟨⟨i + 1, by omega, by simp, Lib.hid (by rw [HT.out, HA.out]; simp [okc]; omega)⟩, by simp [intOf]; omega⟩
      · have HE : Hid (R = 0) := Lib.hid (by
          rw [← HR.out, if_pos]
          unfold ok
          have h2 := HA.out
          rw [List.take_of_length_le (by rw [HN.out]; omega)] at h2
          rw [h2, HN.out]; simp; omega)
        go_wp2
        go_ret
        exact ⟨congrArg (fun z => Ending.returned (Value.int .i64 z)) HE.out.symm, rfl⟩

end Go.Proofs.Ytdlhfcapfbbjjaa
