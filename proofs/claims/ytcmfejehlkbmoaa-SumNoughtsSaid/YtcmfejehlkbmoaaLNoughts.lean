/-
  Proved: the law SumNoughts returns true for every number and every byte: the checksums of repeated bytes. No condition.
-/
import Derived.Test.YtcmfejehlkbmoaaAt
namespace Go.Proofs.Ytcmfejehlkbmoaa.sumNoughts
open Go.ChangeShapes Go.WideShapes Go.ChangeAt Go.RowKit

/-- k bytes b, and zeros up to N. -/
def part (N k : Nat) (b : UInt8) : List UInt8 := List.replicate k b ++ List.replicate (N - k) 0
theorem part_len {N k : Nat} (b : UInt8) (h : k ≤ N) : (part N k b).length = N := by simp [part]; omega
theorem part_set {N k : Nat} (b : UInt8) (h : k < N) : ((part N k b).map byt).set k (byt b) = (part N (k + 1) b).map byt := by
  rw [← List.map_set]
  congr 1
  unfold part
  rw [List.set_append_right _ _ (by simp), List.length_replicate, Nat.sub_self, show N - k = (N - (k + 1)) + 1 by omega, List.replicate_succ, List.set_cons_zero, List.replicate_succ', List.append_assoc]
  rfl

theorem made_bytes (w : World) (N : Nat) (hN : N ≤ 4000) : ∃ w', (Instr.makeSlice 22 (.int .i64 (N : Int)) (.int .i64 (N : Int))).run Try.prog w = .ok (.slice (some ⟨w.heap.size, 0, none⟩) N N) w' ∧
    w'.ownsRow w.heap.size 5 1 (.slice (some ⟨w.heap.size, 0, none⟩) N N) N ((part N 0 0).map byt) ∧ Below w.heap.size w w' := by
  obtain ⟨i0, hi, hz0, hz1, hz2⟩ := info_parts byte_info
  obtain ⟨w', h1, h2, h3⟩ := run_make_full (P := Try.prog) w w.heap.size 22 5 i0 (.int .u8 0) 1 Try.underlying22 hi hz0 hz1 .i64 .i64 N (by rw [hz2]; omega) (by unfold maxLen; omega) (Nat.le_refl _)
  refine ⟨w', h1, ?_, (Below.refl _ _).grown h3 (Nat.le_refl _) (fun k e => by cases e)⟩
  rw [show (Value.int .u8 0).cells = #[.int .u8 0] from rfl, toList_madeCells_one, Nat.mul_one] at h2
  simp only [part, List.replicate_zero, List.nil_append, Nat.sub_zero, List.map_replicate]
  exact h2


set_option maxHeartbeats 1000000 in
theorem walk_a (n x : Int) (w : World) (h : n < 0) :
    Calls Try.prog 9 #[.int .i64 n, .int .u8 x] w fun e w' => e = .returned (.bool true) ∧ Below w.heap.size w w' := by
  have hd : decide (n < 0) = true := decide_eq_true h
  go_enter Try.func9, Try.ntmps9
  go_wp2_with fail
  refine (known_any _).mono ?_
  rintro e w1 ⟨rfl, hb1⟩
  have HB1 := Lib.hid hb1
  clear hb1
  go_wp2
  go_ret
  exact ⟨rfl, HB1.out⟩


set_option maxHeartbeats 1000000 in
theorem walk_b (n x : Int) (w : World) (h : 4000 < n) :
    Calls Try.prog 9 #[.int .i64 n, .int .u8 x] w fun e w' => e = .returned (.bool true) ∧ Below w.heap.size w w' := by
  have hd0 : decide (n < 0) = false := decide_eq_false (by omega)
  have hd : decide (4000 < n) = true := decide_eq_true h
  go_enter Try.func9, Try.ntmps9
  go_wp2_with fail
  refine (known_any _).mono ?_
  rintro e w1 ⟨rfl, hb1⟩
  have HB1 := Lib.hid hb1
  clear hb1
  go_wp2
  go_ret
  exact ⟨rfl, HB1.out⟩


set_option maxRecDepth 100000 in
set_option maxHeartbeats 8000000 in
theorem walk_c (N : Nat) (b : UInt8) (w : World) (hN : N ≤ 4000) :
    Calls Try.prog 9 #[.int .i64 (N : Int), .int .u8 (b.toNat : Int)] w fun e w' => e = .returned (.bool true) ∧ Below w.heap.size w w' := by
  have hd0 : decide ((N : Int) < 0) = false := decide_eq_false (by omega)
  have hd1 : decide ((4000 : Int) < (N : Int)) = false := decide_eq_false (by omega)
  obtain ⟨w1, m1, o1, b1⟩ := made_bytes w N hN
  obtain ⟨w2, m2, o2, b2⟩ := made_bytes w1 N hN
  have O1 := Lib.hid (own_below o1 b2)
  have G1 : Hid (w.heap.size < w1.heap.size) := Lib.hid (own_lt o1 rfl)
  have G2 : Hid (w1.heap.size < w2.heap.size) := Lib.hid (own_lt o2 rfl)
  have B2 := Lib.hid (below_on b1 (Nat.le_refl _) b2)
  have O2 := Lib.hid o2
  obtain ⟨g1, hg1⟩ : ∃ g1, w.heap.size = g1 := ⟨_, rfl⟩
  obtain ⟨g2, hg2⟩ : ∃ g2, w1.heap.size = g2 := ⟨_, rfl⟩
  have HG1 := Lib.hid hg1
  simp only [hg1] at m1 O1 G1
  simp only [hg2] at m2 G2 O2 G1
  obtain ⟨y, hy⟩ : ∃ y, b.toNat = y := ⟨_, rfl⟩
  have HY := Lib.hid hy
  rw [hy]
  clear o1 b1 o2 b2 hg1 hg2 hy
  go_enter Try.func9, Try.ntmps9
  go_wp2_with fail
  go_loopw [7] (fun p wr => ∃ k : Nat, k ≤ N ∧ p = .int .i64 (k : Int) ∧ Hid (wr.ownsRow g2 5 1 (.slice (some ⟨g2, 0, none⟩) N N) N ((part N k b).map byt)) ∧ Hid (w2.grownBy wr (some g2)))
    (fun p _ => N - (intOf p).toNat)
  case atStart => exact ⟨0, Nat.zero_le _, rfl, Lib.hid (by have := O2.out; simp only [part, List.replicate_zero] at this ⊢; exact this), Lib.hid (World.grownBy.refl _ _)⟩
  case round =>
    obtain ⟨k, hk, rfl, HO, HG⟩ := hrel
    by_cases hlt : k < N
    · have hst := HO.out.stored k (byt b)
      have ST := Lib.hid hst
      have hc : wr.cell? ⟨g2, k, none⟩ = some (byt ((part N k b)[k]'(by rw [part_len b hk]; exact hlt))) := by
        rw [HO.out.cellAt k (by omega), List.getElem?_map, List.getElem?_eq_getElem (by rw [part_len b hk]; exact hlt)]
        rfl
      obtain ⟨z, hz⟩ : ∃ z, byt ((part N k b)[k]'(by rw [part_len b hk]; exact hlt)) = z := ⟨_, rfl⟩
      rw [hz] at hc
      have hf : wr.frozen? ⟨g2, k, none⟩ = false := HO.out.frozenAt k
      clear hst hz
      go_wp2_with fail
      have eb : byt b = .int .u8 (y : Int) := by rw [← HY.out]
      rw [eb] at ST
      rw [← eb, part_set b hlt, eb] at ST
      exact ⟨⟨k + 1, by omega, by simp, Lib.hid ST.out.1, Lib.hid (grown_trans HG.out ST.out.2)⟩, by simp [intOf]; omega⟩
    · have hkn : k = N := by omega
      subst hkn
      go_wp2_with fail
      have BW : Below w.heap.size w wr := B2.out.grown HG.out B2.out.size (fun j e => by cases e; have := G1.out; have := HG1.out; omega)
      have RL : Rd wr (some ⟨g1, 0, none⟩) (part k 0 0) := Rv.of_own (own_same O1.out (fun g e => by
        cases e
        exact HG.out.block g1 (by have := G1.out; have := G2.out; omega) (by have := G1.out; simp; omega)))
      have RM : Rd wr (some ⟨g2, 0, none⟩) (part k k b) := Rv.of_own HO.out
      have hl0 : (part k 0 0).length = k := part_len 0 (by omega)
      have hl1 : (part k k b).length = k := part_len b (by omega)
      have HBW := Lib.hid BW
      have HRL := Lib.hid RL
      have HRM := Lib.hid RM
      have OF1 := Lib.hid (of_any wr (some ⟨g1, 0, none⟩) _ k k hl0 (by omega) (by omega) RL)
      have RO1 := Lib.hid (fun (W : World) (hb : Below wr.heap.size wr W) => rof_any W (some ⟨g1, 0, none⟩) _ k k hl0 (by omega) (RL.below hb))
      have OF2 := Lib.hid (fun (W : World) (hb : Below wr.heap.size wr W) => of_any W (some ⟨g2, 0, none⟩) _ k k hl1 (by omega) (by omega) (RM.below hb))
      have RO2 := Lib.hid (fun (W : World) (hb : Below wr.heap.size wr W) => rof_any W (some ⟨g2, 0, none⟩) _ k k hl1 (by omega) (RM.below hb))
      obtain ⟨u, hu⟩ : ∃ u, chk (part k 0 0) = u := ⟨_, rfl⟩
      obtain ⟨v, hv⟩ : ∃ v, chk (part k k b) = v := ⟨_, rfl⟩
      rw [hu] at OF1 RO1
      rw [hv] at OF2 RO2
      clear hu hv RL RM BW hl0 hl1
      refine OF1.out.mono ?_
      rintro e w3 ⟨rfl, hb⟩
      have B3 := Lib.hid hb
      clear hb
      go_wp2_with fail
      refine (RO1.out w3 B3.out).mono ?_
      rintro e w3' ⟨rfl, rfl⟩
      go_wp2_with fail
      refine (OF2.out w3' B3.out).mono ?_
      rintro e w4 ⟨rfl, hb⟩
      have B4 := Lib.hid (below_on B3.out (Nat.le_refl _) hb)
      clear hb
      go_wp2_with fail
      refine (RO2.out w4 B4.out).mono ?_
      rintro e w4' ⟨rfl, rfl⟩
      go_wp2_with fail
      refine (known_any _).mono ?_
      rintro e w5 ⟨rfl, hbk⟩
      have BK := Lib.hid (below_on HBW.out (Nat.le_refl _) (below_on B4.out (Nat.le_refl _) hbk))
      clear hbk
      go_wp2
      go_ret
      exact ⟨rfl, BK.out⟩

theorem walk (n x : Int) (w : World) (hn : (Lit.int .i64 n).wf = true) (hx : (Lit.int .u8 x).wf = true) :
    Calls Try.prog 9 #[.int .i64 n, .int .u8 x] w fun e w' => e = .returned (.bool true) ∧ Below w.heap.size w w' := by
  have := hn
  by_cases h0 : n < 0
  · exact walk_a n x w h0
  · by_cases h1 : 4000 < n
    · exact walk_b n x w h1
    · obtain ⟨N, rfl⟩ := Int.eq_ofNat_of_zero_le (show 0 ≤ n by omega)
      have hb := bounds_u8 hx
      have e : x = ((UInt8.ofNat x.toNat).toNat : Int) := by rw [UInt8.toNat_ofNat', Nat.mod_eq_of_lt (by omega)]; omega
      rw [e]
      exact walk_c N _ w (by omega)


set_option maxRecDepth 100000 in
theorem lifted (os : Os) (started : os.Started) (H : Type) (enc : TypeId × Value → H) :
    ReturnsInHanded {} Try.checked os 9 .any (Rows.sumNoughtsSpec.pre6 enc Try.prog Try.f9 Rows.sumNoughtsRow.domain false) (Rows.sumNoughtsSpec.post enc Try.prog Try.f9 false true false false) := by
  refine returnsInHanded_of_change_sized (C := Try.checked) ownB started (by kernel_rfl) Try.func9
    (ChangeSpec.witness6 (enc := enc) (C := Try.checked) false ⟨#[], #[.int .i64 0, .int .u8 0], []⟩ 8 (by kernel_rfl) (by kernel_rfl) (by kernel_rfl) (by kernel_rfl)) ?_
  intro W base args ds gs before hval0 hW _ hsz0 _
  have hsz : (DataW.weightsEach Try.prog (Try.f9.params.toList ++ Rows.sumNoughtsSpec.plain.varTypes Try.prog) (ds ++ gs)).all (· ≤ reachBytes) = true := hsz0
  clear hsz0
  have hval : ∀ (j : Nat) t v, Try.f9.params[j]? = some t → args[j]? = some v → Value.okWide Try.prog W .any base t v := hval0
  have hW' := hW
  obtain ⟨p, q, hA0, hV, rfl, hfz, hnd⟩ := hW
  have hA : DataW.TrodAll enc Try.prog W 0 (fun _ => true) true Try.f9.params.toList args.toList ds p := hA0
  rw [Try.params9] at hA hval hsz
  obtain ⟨v0, vs0, d0, ds0, p0, q0, hargs, rfl, rfl, h0, r0⟩ := trodAll_cons hA
  obtain ⟨v1, vs1, d1, ds1, p1, q1, rfl, rfl, rfl, h1, r1⟩ := trodAll_cons r0
  obtain ⟨rfl, rfl, rfl⟩ := trodAll_nil r1
  obtain rfl : args = #[v0, v1] := by cases args; simp_all
  obtain ⟨rfl, rfl⟩ := trodVars_none hV
  obtain ⟨a0, rfl, rfl, rfl, w0⟩ := open_int Try.underlying3 (hval 0 3 v0 rfl rfl) h0
  obtain ⟨a1, rfl, rfl, rfl, w1⟩ := open_int Try.underlying5 (hval 1 5 v1 rfl rfl) h1
  clear hA0 hval0
  refine (walk a0 a1 W w0 w1).mono fun e W' ⟨he, bel⟩ => ?_
  subst he
  exact ⟨_, rfl, _, _, _, [], _, [], hW', trodAll_mk1 (shut_bool Try.underlying4 _), (trodAll_cons_mk (shut_int Try.underlying3 w0) (trodAll_cons_mk (shut_int Try.underlying5 w1) trodAll_mk0)), rfl, bel.frame _, fun h => by cases h⟩

theorem proved : Rows.SumNoughtsSaid :=
  OpenClaim.holds_of_wide 9 Try.f9 rfl rfl rfl rfl rfl rfl rfl ⟨rfl, rfl, rfl, rfl, rfl⟩ rfl rfl rfl rfl rfl (by kernel_rfl) Try.func9 (by kernel_rfl)
    (of_decide_eq_true (by kernel_rfl)) (by unfold Func.isWrapper; rw [if_neg (by decide +kernel)]; exact ⟨rfl, rfl⟩)
    (fun os started H enc _ => lifted os started H enc)

#print axioms proved

end Go.Proofs.Ytcmfejehlkbmoaa.sumNoughts
