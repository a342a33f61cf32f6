/-
  What the reference's Right does, as in RfA, for a seat of TallyRises alone. Nothing has changed. No condition.
-/
import Derived.Test.YtdlhfcapfbbjjaaIac
namespace Go.Proofs.Ytdlhfcapfbbjjaa
open Go.RowKit

set_option maxRecDepth 100000 in
set_option maxHeartbeats 1000000 in
theorem right_any (w : World) (A : Option Addr) (l : List Int) (N c : Nat) (hN : l.length = N) (hR : Ri w A l) :
    Calls Try.prog 18 #[.slice A N c] w fun e w' => e = .returned (.bool (ok l)) ∧ w' = w := by
  obtain ⟨R, hRR⟩ : ∃ R, ok l = R := ⟨_, rfl⟩
  rw [hRR]
  have HR := Lib.hid hRR
  have HN := Lib.hid hN
  have HRD := Lib.hid hR
  clear hRR hN hR
  by_cases hbig : 256 < N
  · have HE : Hid (R = false) := Lib.hid (by rw [← HR.out]; unfold ok; rw [HN.out]; simp; omega)
    go_enter Try.func18, Try.ntmps18
    go_wp2
    go_ret
    exact ⟨congrArg (fun z => Ending.returned (Value.bool z)) HE.out.symm, rfl⟩
  · go_enter Try.func18, Try.ntmps18
    go_wp2
    go_loop [3] (fun p => ∃ i : Nat, i ≤ N ∧ p = .int .i64 (i : Int) ∧ Hid ((l.take i).all okc = true)) (fun p => N - (intOf p).toNat)
    case atStart => exact ⟨0, Nat.zero_le _, rfl, Lib.hid (by simp)⟩
    case round =>
      obtain ⟨i, hi, rfl, HA⟩ := hrel
      by_cases hlt : i < N
      · obtain ⟨z, hz⟩ : ∃ z, l[i]? = some z := ⟨_, List.getElem?_eq_getElem (by rw [HN.out]; exact hlt)⟩
        have HT := Lib.hid (ok_take hz)
        obtain ⟨ad, hA, hc⟩ := HRD.out i (iv z) (by rw [List.getElem?_map, hz]; rfl)
        have HZ := Lib.hid hz
        clear hz
        subst hA
        have NO : Hid (okc z = false → R = false) := Lib.hid (fun hq => by
          rw [← HR.out]
          unfold ok
          rw [Bool.and_eq_false_iff]
          right
          rw [List.all_eq_false]
          exact ⟨z, List.mem_of_getElem? HZ.out, by rw [hq]; simp⟩)
        by_cases hneg : z < 0
        · have HE : Hid (R = false) := Lib.hid (NO.out (by simp [okc]; omega))
          go_wp2
          go_ret
          exact ⟨congrArg (fun z => Ending.returned (Value.bool z)) HE.out.symm, rfl⟩
        · by_cases hgr : 2147483648 < z
          · have HE : Hid (R = false) := Lib.hid (NO.out (by simp [okc]; omega))
            go_wp2
            go_ret
            exact ⟨congrArg (fun z => Ending.returned (Value.bool z)) HE.out.symm, rfl⟩
          · go_wp2
            exact ⟨⟨i + 1, by omega, by simp, Lib.hid (by rw [HT.out, HA.out]; simp [okc]; omega)⟩, by simp [intOf]; omega⟩
      · have HE : Hid (R = true) := Lib.hid (by
          rw [← HR.out]
          unfold ok
          have h2 := HA.out
          rw [List.take_of_length_le (by rw [HN.out]; omega)] at h2
          rw [h2, HN.out]; simp; omega)
        go_wp2
        go_ret
        exact ⟨congrArg (fun z => Ending.returned (Value.bool z)) HE.out.symm, rfl⟩

end Go.Proofs.Ytdlhfcapfbbjjaa
