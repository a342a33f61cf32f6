/-
  The laws' helper known: it returns true. Nothing that was there has changed. No condition.
-/
import Derived.Test.YtcmfejehlkbmoaaRef
namespace Go.Proofs.Ytcmfejehlkbmoaa
open Go.RowKit

set_option maxRecDepth 100000 in
set_option maxHeartbeats 2000000 in
theorem known_any (w : World) :
    Calls Try.prog 11 #[] w fun e w' => e = .returned (.bool true) ∧ Below w.heap.size w w' := by
  have k3 : K3 < M64 := by decide
  obtain ⟨f1, F2, F3, F4⟩ := end_facts k3 (show 0 < M64 by decide)
  have f2 := F2 K3 k3
  have hb := mix29_lt k3
  obtain ⟨b, hbe⟩ : ∃ b, mix29 K3 = b := ⟨_, rfl⟩
  rw [hbe] at f2 hb
  have f3 := F3 b
  have hc : b * K1 % M64 < M64 := Nat.mod_lt _ (by decide)
  obtain ⟨c, hce⟩ : ∃ c, b * K1 % M64 = c := ⟨_, rfl⟩
  rw [hce] at f3 hc
  have f4 := F4 c hc
  have HE : chk [] = mix32 c := by
    unfold chk fin
    rw [List.length_nil, show grps 0 = 0 from rfl, rn, Nat.xor_zero, hbe, hce]
  obtain ⟨d, hd⟩ : ∃ d, mix32 c = d := ⟨_, rfl⟩
  rw [hd] at f4 HE
  have f2' : bits BinOp.xor IntKind.u64 18397679294719823053 34268348095 = (b : Int) := f2
  have OF := Lib.hid (of_any w none [] 0 0 rfl (by omega) (by omega) (Rv.nil _ _))
  have SM : Hid (∀ w2 x, Su w2 x [] → Calls Try.prog 16 #[.pointer (some ⟨x, 0, none⟩)] w2 fun e w' => e = .returned (.int .u64 (chk [] : Int)) ∧ Below w2.heap.size w2 w') := Lib.hid (fun w2 x h => sum_any h (by simp))
  rw [HE] at OF SM
  have hb2 : b < 18446744073709551616 := hb
  have hc2 : c < 18446744073709551616 := hc
  have hdd : (d == d) = true := by simp
  clear f1 hbe hce hd hb hc F2 F3 F4 f2 k3 HE
  go_enter Try.func11, Try.ntmps11
  go_wp2_with fail
  refine OF.out.mono ?_
  rintro e w1 ⟨rfl, hb1⟩
  have B1 := Lib.hid hb1
  clear hb1
  go_wp2_with fail
  refine (new_any w1).mono ?_
  rintro e w2 ⟨rfl, -, hb2, -, hs2⟩
  have B2 := Lib.hid (below_on B1.out (Nat.le_refl _) hb2)
  have S2 := Lib.hid hs2
  clear hb2 hs2
  go_wp2_with fail
  refine (SM.out _ _ S2.out).mono ?_
  rintro e w3 ⟨rfl, hb3⟩
  have B3 := Lib.hid (below_on B2.out (Nat.le_refl _) hb3)
  clear hb3
  go_wp2_with fail
  go_ret
  exact ⟨by simp, B3.out⟩

end Go.Proofs.Ytcmfejehlkbmoaa
