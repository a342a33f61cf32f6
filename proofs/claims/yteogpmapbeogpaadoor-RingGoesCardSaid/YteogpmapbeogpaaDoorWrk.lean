/-
  The laws' helper works: it returns true. Nothing that was there has changed. Condition: the package's sizes are 1 and 2^27.
-/
import Derived.Test.YteogpmapbeogpaaDoorAt
namespace Go.Proofs.YteogpmapbeogpaaDoor
open Go.RowKit

set_option maxRecDepth 100000 in
set_option maxHeartbeats 8000000 in
theorem works_any (w : World) (hg : Gl w) : Calls Tryd.prog 12 #[] w fun e w' => e = .returned (.bool true) ∧ Below w.heap.size w w' := by
  have HG := Lib.hid hg
  have kc := fun (w : World) (C : Array Value) (n c : Nat) => Lib.run_convert_bytes_const (P := Tryd.prog) w 22 5 C n c Tryd.underlying22 Tryd.underlying5
  clear hg
  go_enter Tryd.func12, Tryd.ntmps12
  have N1 := Lib.hid (at_new HG.out (lit_bel w (.cells #[.int .u8 97, .int .u8 98] 5 (2, 3))) 4 (by decide) (by decide) (some ⟨w.heap.size, 0, none⟩) [97, 98] 2 2 rfl (by decide) (by decide) (lit_rvm w (([97, 98] : List UInt8).map byt) 5 (2, 3)))
  rw [show fin 4 [97, 98] = [97, 98] from rfl] at N1
  go_wp2_with fail
  refine N1.out.mono ?_
  rintro e w1 ⟨x, v1, rfl, a1, _, _⟩
  have A1 := Lib.hid a1
  clear a1 N1
  have L1 := Lib.hid (A1.out.rg.len_any)
  have T1 := Lib.hid (A1.out.rg.total_any)
  go_wp2_with fail
  refine L1.out.mono ?_
  rintro e w1 ⟨rfl, rfl⟩
  go_wp2_with fail
  refine T1.out.mono ?_
  rintro e w1 ⟨rfl, rfl⟩
  have A2 := Lib.hid (A1.out.below (lit_bel w1 (.cells #[.int .u8 99, .int .u8 100, .int .u8 101] 5)))
  have D1 := Lib.hid (at_add A2.out (some ⟨w1.heap.size, 0, none⟩) [99, 100, 101] 3 3 rfl (by decide) (by decide) (by decide) (lit_rv w1 (([99, 100, 101] : List UInt8).map byt) 5) (A1.out.rg.out (fun ad e => by cases e; exact Nat.le_refl _)))
  rw [show fin 4 ([97, 98] ++ [99, 100, 101]) = [98, 99, 100, 101] from rfl] at D1
  clear L1 T1 A1 A2
  go_wp2_with fail
  refine D1.out.mono ?_
  rintro e w2 ⟨v2, rfl, a2, _, _⟩
  have A2 := Lib.hid a2
  clear a2 D1
  have Y1 := Lib.hid (byte_in A2.out.rg 1 (by decide) (by decide) 101 rfl)
  go_wp2_with fail
  refine Y1.out.mono ?_
  rintro e w3 ⟨rfl, q, rfl⟩
  have A3 := Lib.hid (A2.out.dr q)
  generalize w2.drewN q = w3 at A3 ⊢
  clear A2 Y1
  have Y2 := Lib.hid (byte_out A3.out.rg 5 (by decide))
  have L1 := Lib.hid (A3.out.rg.len_any)
  have T1 := Lib.hid (A3.out.rg.total_any)
  have LA := Lib.hid (at_last A3.out 9 [98, 99, 100, 101] 4 rfl rfl)
  go_wp2_with fail
  refine Y2.out.mono ?_
  rintro e w3 ⟨rfl, rfl⟩
  clear Y2
  go_wp2_with fail
  refine (num_any _ _).mono ?_
  rintro e w3 ⟨rfl, rfl⟩
  go_wp2_with fail
  refine (num_any _ _).mono ?_
  rintro e w3 ⟨rfl, rfl⟩
  go_wp2_with fail
  refine L1.out.mono ?_
  rintro e w3 ⟨rfl, rfl⟩
  go_wp2_with fail
  refine T1.out.mono ?_
  rintro e w3 ⟨rfl, rfl⟩
  go_wp2_with fail
  refine LA.out.mono ?_
  rintro e w4 ⟨AL, cL, rfl, _, cv, _, a4, _⟩
  have A4 := Lib.hid a4
  clear a4 LA L1 T1 A3
  have CP := Lib.hid (at_copy A4.out 2 5 (by decide) (by decide) (by decide) (by decide) [100, 101, 100, 101, 100] (by decide +kernel) [101, 100, 101, 100] rfl)
  go_wp2_with fail
  clear cv
  refine CP.out.mono ?_
  rintro e w5 ⟨AC, cC, v5, rfl, a5, hcC, ho5, hne5, _, _⟩
  have A5 := Lib.hid a5
  have O5 := Lib.hid ho5
  clear a5 CP A4 ho5 hne5
  have B1 := Lib.hid (at_bad A5.out 5 1 15 (by decide +kernel) (by decide))
  go_wp2_with fail
  refine B1.out.mono ?_
  rintro e w6 ⟨rfl, a6, b6⟩
  have A6 := Lib.hid a6
  have O6 := Lib.hid (own_below O5.out b6)
  clear a6 b6 B1 A5 O5
  have B1 := Lib.hid (at_bad A6.out 0 0 15 (by decide +kernel) (by decide))
  go_wp2_with fail
  refine B1.out.mono ?_
  rintro e w7 ⟨rfl, a7, b7⟩
  have A7 := Lib.hid a7
  have O7 := Lib.hid (own_below O6.out b7)
  clear a7 b7 B1 A6 O6
  have B1 := Lib.hid (at_bad A7.out 1 (-1) 2 (by decide +kernel) (by decide))
  go_wp2_with fail
  refine B1.out.mono ?_
  rintro e w8 ⟨rfl, a8, b8⟩
  have A8 := Lib.hid a8
  have O8 := Lib.hid (own_below O7.out b8)
  clear a8 b8 B1 A7 O7
  have NB := Lib.hid (new_bad w8 (HG.out.bel A8.out.bel) 0 (by decide) (.slice none 0 0))
  go_wp2_with fail
  refine NB.out.mono ?_
  rintro e w8 ⟨rfl, rfl⟩
  clear NB
  have N2 := Lib.hid (at_new HG.out (below_on A8.out.bel (Nat.le_refl _) (lit_bel w8 (.cells #[.int .u8 97, .int .u8 98, .int .u8 99] 5 (3, 4)))) 2 (by decide) (by decide) (some ⟨w8.heap.size, 0, none⟩) [97, 98, 99] 3 3 rfl (by decide) (by decide) (lit_rvm w8 (([97, 98, 99] : List UInt8).map byt) 5 (3, 4)))
  rw [show fin 2 [97, 98, 99] = [98, 99] from rfl] at N2
  go_wp2_with fail
  refine N2.out.mono ?_
  rintro e w9 ⟨y, u, rfl, a9, b9, _⟩
  have Z9 := Lib.hid a9
  have A9 := Lib.hid ((A8.out.below (lit_bel w8 _)).below b9)
  have O9 := Lib.hid (own_below (own_below O8.out (lit_bel w8 _)) b9)
  clear a9 b9 N2 A8 O8
  have cv := conv_len w9 AC [100, 101, 100, 101, 100] 5 cC rfl (Rv.of_own O9.out)
  have LA := Lib.hid (at_last A9.out 4 [101, 100, 101, 100] 4 rfl rfl)
  go_wp2_with fail
  refine (num_any _ _).mono ?_
  rintro e w9 ⟨rfl, rfl⟩
  go_wp2_with fail
  refine (num_any _ _).mono ?_
  rintro e w9 ⟨rfl, rfl⟩
  go_wp2_with fail
  refine LA.out.mono ?_
  rintro e w10 ⟨AL2, cL2, rfl, _, cv2, _, a10, b10⟩
  have A10 := Lib.hid a10
  have Z10 := Lib.hid (Z9.out.below b10)
  clear a10 b10 LA A9 Z9 cv
  have T1 := Lib.hid (A10.out.rg.total_any)
  have LA := Lib.hid (at_last Z10.out 2 [98, 99] 2 rfl rfl)
  go_wp2_with fail
  refine T1.out.mono ?_
  rintro e w10 ⟨rfl, rfl⟩
  clear cv2
  go_wp2_with fail
  refine LA.out.mono ?_
  rintro e w11 ⟨AL3, cL3, rfl, _, cv3, _, a11, _⟩
  have A11 := Lib.hid a11
  clear a11
  go_wp2
  go_ret
  exact ⟨rfl, A11.out.bel⟩

end Go.Proofs.YteogpmapbeogpaaDoor
