/-
  Proved: the law SumPieces returns true for all slices of slices of bytes: the checksum after each call of Write is that of all bytes so far, and asking for it does not change the state. No condition.
-/
import Derived.Test.YtcmfejehlkbmoaaStr
namespace Go.Proofs.Ytcmfejehlkbmoaa.sumPieces
open Go.ChangeShapes Go.WideShapes Go.ChangeAt Go.RowKit

theorem own_ge {w : World} {base : Nat} {e : TypeId} {v : Value} {n : Nat} {xs : List Value} (h : w.ownsRow base e 1 v n xs) {g : Nat} (hg : v.ownBlock = some g) : base ≤ g := by
  rcases h.2 with ⟨rfl, _⟩ | ⟨g', c, cur, rfl, hb, _⟩
  · cases hg
  · injection hg with hg
    subst hg
    exact hb


set_option maxHeartbeats 1000000 in
theorem walk_a (A : Option Addr) (N cap : Nat) (w : World) (h : 40 < N) :
    Calls Try.prog 4 #[.slice A N cap] w fun e w' => e = .returned (.bool true) ∧ Below w.heap.size w w' := by
  have hd : decide ((40 : Int) < (N : Int)) = true := decide_eq_true (by omega)
  go_enter Try.func4, Try.ntmps4
  go_wp2_with fail
  refine (known_any _).mono ?_
  rintro e w1 ⟨rfl, hb1⟩
  have HB1 := Lib.hid hb1
  clear hb1
  go_wp2
  go_ret
  exact ⟨rfl, HB1.out⟩


set_option maxRecDepth 100000 in
set_option maxHeartbeats 16000000 in
theorem walk_b (A : Option Addr) (ls : List (Option Addr × List UInt8 × Nat)) (N cap : Nat) (w : World) (hN : ls.length = N) (hN2 : N ≤ 40) (hR : RdR w A ls) :
    Calls Try.prog 4 #[.slice A N cap] w fun e w' => e = .returned (.bool true) ∧ Below w.heap.size w w' := by
  have hd : decide ((40 : Int) < (N : Int)) = false := decide_eq_false (by omega)
  have HN := Lib.hid hN
  have HR := Lib.hid hR
  clear hN hR
  go_enter Try.func4, Try.ntmps4
  go_wp2_with fail
  refine (new_any w).mono ?_
  rintro e w1 ⟨rfl, hf⟩
  have S1 : Hid (Al w w1 w.heap.size []) := Lib.hid (Al.new (Below.refl _ _) hf)
  clear hf
  obtain ⟨x, hx⟩ : ∃ x, w.heap.size = x := ⟨_, rfl⟩
  rw [hx] at S1
  simp only [hx]
  clear hx
  go_wp2_with fail
  refine (new_any w1).mono ?_
  rintro e w2 ⟨rfl, hf⟩
  have Y2 : Hid (Al w w2 w1.heap.size []) := Lib.hid (Al.new S1.out.bel hf)
  have S2 := Lib.hid (S1.out.on hf.2.1)
  have NE : Hid (x ≠ w1.heap.size) := Lib.hid (by have := S1.out.su.lt; omega)
  clear hf
  obtain ⟨y, hy⟩ : ∃ y, w1.heap.size = y := ⟨_, rfl⟩
  rw [hy] at Y2 NE
  simp only [hy]
  have XL : Hid (x < w2.heap.size ∧ y < w2.heap.size ∧ w.heap.size ≤ w2.heap.size) := Lib.hid ⟨S2.out.su.lt, Y2.out.su.lt, S2.out.bel.size⟩
  clear hy S1
  go_wp2_with fail
  go_loopw [5, 6] (fun p o wr => ∃ (i n ca : Nat) (Aa : Option Addr) (T : List UInt8), i ≤ N ∧ o = .int .i64 (i : Int) ∧ n ≤ 4000 * i ∧ n ≤ ca ∧ p = .slice Aa n ca ∧ Hid (T.length = n) ∧ Hid (wr.ownsRow w2.heap.size 5 1 (.slice Aa n ca) n (T.map byt)) ∧ Hid (Al w wr x T) ∧ Hid (Al w wr y T) ∧ Hid (w2.heap.size ≤ wr.heap.size))
    (fun _ o _ => N - (intOf o).toNat)
  case atStart => exact ⟨0, 0, 0, none, [], Nat.zero_le _, rfl, by omega, by omega, rfl, Lib.hid rfl, Lib.hid (World.ownsRow_nil w2 w2.heap.size 5 1), S2, Y2, Lib.hid (Nat.le_refl _)⟩
  case round =>
    obtain ⟨i, n, ca, Aa, T, hi, rfl, hn, hnc, rfl, HT, HO, SX, SY, HSZ⟩ := hrel
    by_cases hlt : i < N
    · obtain ⟨B, m, c, hrow⟩ : ∃ B m c, ls[i]? = some (B, m, c) := ⟨_, _, _, List.getElem?_eq_getElem (by rw [HN.out]; exact hlt)⟩
      obtain ⟨ad, rfl, hcell, hmc, hrd⟩ := HR.out i B m c hrow
      obtain ⟨M, hM⟩ : ∃ M, m.length = M := ⟨_, rfl⟩
      rw [hM] at hcell hmc
      have HM := Lib.hid hM
      have RM := Lib.hid hrd
      have CELL : Hid (∀ W, Below w.heap.size w W → W.cell? (ad.add i) = some (.slice B M c)) := Lib.hid (fun W hb => (hb.cell (cell_lt hcell)).trans hcell)
      have c0 := CELL.out wr SX.out.bel
      clear hrow hcell hM hrd
      by_cases hbig : 4000 < M
      · have hd2 : decide ((4000 : Int) < (M : Int)) = true := decide_eq_true (by omega)
        go_wp2_with fail
        refine (known_any _).mono ?_
        rintro e w3 ⟨rfl, hbk⟩
        have BK := Lib.hid (below_on SX.out.bel (Nat.le_refl _) hbk)
        clear hbk
        go_wp2
        go_ret
        exact ⟨rfl, BK.out⟩
      · have hd2 : decide ((4000 : Int) < (M : Int)) = false := decide_eq_false (by omega)
        go_wp2_with (at_builtin; refine wpList_append_vals Try.underlying22 byte_info rfl rfl _ _ rfl w2.heap.size (.slice Aa n ca) n (T.map byt) rfl HO.out B (m.map byt) (byt_one m) M c (by rw [List.length_map]; exact HM.out) rfl (RM.out.below SX.out.bel) (by omega) HSZ.out ?_; intro v3 w3 ho hg _; rw [← List.map_append] at ho; obtain ⟨A3, c3, rfl, hc3⟩ := own_form ho; have G3 := Lib.hid hg; have O3 := Lib.hid ho; have c1 := CELL.out w3 (SX.out.grow' hg (fun g e => by have := own_ge HO.out e; have := XL.out; omega) (fun e => by have := own_ge HO.out e; have := XL.out; omega)).bel; clear ho hg)
        have GY : Hid (∀ g, (Value.slice Aa n ca).ownBlock = some g → w.heap.size ≤ g ∧ g ≠ x ∧ g ≠ y) := Lib.hid (fun g e => by have := own_ge HO.out e; have := XL.out; omega)
        have X3 := Lib.hid (SX.out.grow' G3.out (fun g e => (GY.out g e).1) (fun e => (GY.out x e).2.1 rfl))
        have Y3 := Lib.hid (SY.out.grow' G3.out (fun g e => (GY.out g e).1) (fun e => (GY.out y e).2.2 rfl))
        have Z3 : Hid (w2.heap.size ≤ w3.heap.size) := Lib.hid (Nat.le_trans HSZ.out G3.out.size)
        have LT : Hid ((T ++ m).length = n + M) := Lib.hid (by rw [List.length_append, HT.out, HM.out])
        have GZ : Hid (∀ g, (Value.slice A3 (n + M) c3).ownBlock = some g → g ≠ x ∧ g ≠ y) := Lib.hid (fun g e => by have := own_ge O3.out e; have := XL.out; omega)
        obtain ⟨d, hdd⟩ : ∃ d, chk (T ++ m) = d := ⟨_, rfl⟩
        have HDD := Lib.hid hdd
        clear hdd SX SY HSZ G3 c0 GY HO
        refine (X3.out.write B M c HM.out hmc (by rw [HT.out]; omega) RM.out).mono ?_
        rintro e w4 ⟨rfl, hg, hs⟩
        have X4 := Lib.hid hs
        have Y4 := Lib.hid (Y3.out.grow hg X3.out.ge (fun e => NE.out e.symm))
        have O4 := Lib.hid (own_same O3.out (fun g e => hg.block g (own_lt O3.out e) (by simpa using (GZ.out g e).1)))
        have Z4 : Hid (w2.heap.size ≤ w4.heap.size) := Lib.hid (Nat.le_trans Z3.out hg.size)
        have c4 := CELL.out w4 X4.out.bel
        clear hg hs X3 Y3 O3 Z3 c1
        go_wp2_with fail
        refine (Y4.out.write B M c HM.out hmc (by rw [HT.out]; omega) RM.out).mono ?_
        rintro e w5 ⟨rfl, hg, hs⟩
        have Y5 := Lib.hid hs
        have X5 := Lib.hid (X4.out.grow hg Y4.out.ge NE.out)
        have O5 := Lib.hid (own_same O4.out (fun g e => hg.block g (own_lt O4.out e) (by simpa using (GZ.out g e).2)))
        have Z5 : Hid (w2.heap.size ≤ w5.heap.size) := Lib.hid (Nat.le_trans Z4.out hg.size)
        clear hg hs X4 Y4 O4 Z4 c4
        go_wp2_with fail
        refine (rof_any w5 A3 (T ++ m) (n + M) c3 LT.out (by omega) (Rv.of_own O5.out)).mono ?_
        rw [HDD.out]
        rintro e w5' ⟨rfl, rfl⟩
        go_wp2_with fail
        refine (X5.out.sum (by rw [LT.out]; omega)).mono ?_
        rw [HDD.out]
        rintro e w6 ⟨rfl, hb⟩
        have X6 := Lib.hid (X5.out.on hb)
        have Y6 := Lib.hid (Y5.out.on hb)
        have O6 := Lib.hid (own_below O5.out hb)
        have Z6 : Hid (w2.heap.size ≤ w6.heap.size) := Lib.hid (Nat.le_trans Z5.out hb.size)
        clear hb X5 Y5 O5 Z5
        go_wp2_with fail
        refine (low_any X6.out.su (by rw [LT.out]; omega)).mono ?_
        rw [HDD.out]
        rintro e w7 ⟨rfl, hb⟩
        have X7 := Lib.hid (X6.out.on hb)
        have Y7 := Lib.hid (Y6.out.on hb)
        have O7 := Lib.hid (own_below O6.out hb)
        have Z7 : Hid (w2.heap.size ≤ w7.heap.size) := Lib.hid (Nat.le_trans Z6.out hb.size)
        clear hb X6 Y6 O6 Z6
        go_wp2_with fail
        refine (len_any X7.out.su).mono ?_
        rw [LT.out]
        rintro e w7' ⟨rfl, rfl⟩
        go_wp2_with fail
        refine ⟨⟨i + 1, n + M, c3, A3, T ++ m, by omega, by simp, by omega, hc3, rfl, LT, O7, X7, Y7, Z7⟩, by simp [intOf]; omega⟩
    · go_wp2_with fail
      refine (SY.out.sum (by rw [HT.out]; omega)).mono ?_
      obtain ⟨d, hdd⟩ : ∃ d, chk T = d := ⟨_, rfl⟩
      have HDD := Lib.hid hdd
      rw [hdd]
      clear hdd
      rintro e w3 ⟨rfl, hb⟩
      have X3 := Lib.hid (SX.out.on hb)
      have R3 : Hid (Rd w3 Aa T) := Lib.hid ((Rv.of_own HO.out).below hb)
      clear hb
      go_wp2_with fail
      refine (of_any w3 Aa T n ca HT.out hnc (by omega) R3.out).mono ?_
      rw [HDD.out]
      rintro e w4 ⟨rfl, hb⟩
      have X4 := Lib.hid (X3.out.on hb)
      clear hb
      go_wp2_with fail
      refine (known_any _).mono ?_
      rintro e w5 ⟨rfl, hbk⟩
      have BK := Lib.hid (X4.out.on hbk).bel
      clear hbk
      go_wp2
      go_ret
      exact ⟨rfl, BK.out⟩

theorem walk (A : Option Addr) (ls : List (Option Addr × List UInt8 × Nat)) (cap : Nat) (w : World) (hR : RdR w A ls) (_ : ls.length ≤ cap) :
    Calls Try.prog 4 #[.slice A ls.length cap] w fun e w' => e = .returned (.bool true) ∧ Below w.heap.size w w' := by
  by_cases h : 40 < ls.length
  · exact walk_a A _ cap w h
  · exact walk_b A ls _ cap w rfl (by omega) hR

set_option maxRecDepth 100000 in
theorem lifted (os : Os) (started : os.Started) (H : Type) (enc : TypeId × Value → H) :
    ReturnsInHanded {} Try.checked os 4 .any (Rows.sumPiecesSpec.pre6 enc Try.prog Try.f4 Rows.sumPiecesRow.domain false) (Rows.sumPiecesSpec.post enc Try.prog Try.f4 false true false false) := by
  refine returnsInHanded_of_change_sized (C := Try.checked) ownB started (by kernel_rfl) Try.func4
    (ChangeSpec.witness6 (enc := enc) (C := Try.checked) false ⟨#[], #[.slice none 0 0], []⟩ 8 (by kernel_rfl) (by kernel_rfl) (by kernel_rfl) (by kernel_rfl)) ?_
  intro W base args ds gs before hval0 hW _ hsz0 _
  have hsz : (DataW.weightsEach Try.prog (Try.f4.params.toList ++ Rows.sumPiecesSpec.plain.varTypes Try.prog) (ds ++ gs)).all (· ≤ reachBytes) = true := hsz0
  clear hsz0
  have hval : ∀ (j : Nat) t v, Try.f4.params[j]? = some t → args[j]? = some v → Value.okWide Try.prog W .any base t v := hval0
  have hW' := hW
  obtain ⟨p, q, hA0, hV, rfl, hfz, hnd⟩ := hW
  have hA : DataW.TrodAll enc Try.prog W 0 (fun _ => true) true Try.f4.params.toList args.toList ds p := hA0
  rw [Try.params4] at hA hval hsz
  obtain ⟨v0, vs0, d0, ds0, p0, q0, hargs, rfl, rfl, h0, r0⟩ := trodAll_cons hA
  obtain ⟨rfl, rfl, rfl⟩ := trodAll_nil r0
  obtain rfl : args = #[v0] := by cases args; simp_all
  obtain ⟨rfl, rfl⟩ := trodVars_none hV
  obtain ⟨a0, len0, cap0, rfl⟩ := okWide_slice Try.underlying27 (hval 0 27 v0 rfl rfl)
  have k0 := h0
  have lt0 : ∀ x ∈ p0, x.block < W.heap.size := by obtain ⟨m, hm⟩ := k0; exact DataW.trod_lt m _ _ _ hm
  obtain ⟨l0, rfl, hc0, rb0⟩ := open_rows h0
  clear hA0 hval0
  refine (walk a0 l0 cap0 W rb0 hc0).mono fun e W' ⟨he, bel⟩ => ?_
  subst he
  exact ⟨_, rfl, _, _, _, [], _, [], hW', trodAll_mk1 (shut_bool Try.underlying4 _), (trodAll_cons_mk (Below.trod laidOut (by kernel_rfl) (of_decide_eq_true (by kernel_rfl)) k0 bel lt0) trodAll_mk0), rfl, bel.frame _, fun h => by cases h⟩

theorem proved : Rows.SumPiecesSaid :=
  OpenClaim.holds_of_wide 4 Try.f4 rfl rfl rfl rfl rfl rfl rfl ⟨rfl, rfl, rfl, rfl, rfl⟩ rfl rfl rfl rfl rfl (by kernel_rfl) Try.func4 (by kernel_rfl)
    (of_decide_eq_true (by kernel_rfl)) (by unfold Func.isWrapper; rw [if_neg (by decide +kernel)]; exact ⟨rfl, rfl⟩)
    (fun os started H enc _ => lifted os started H enc)

#print axioms proved

end Go.Proofs.Ytcmfejehlkbmoaa.sumPieces
