/-
  What slices.symMergeCmpFunc does at entries with the order of list.increasing where the first stretch is one entry: the two stretches become their stable sort. Only the row's block and new memory change. Condition: the second stretch is sorted.
-/
import Derived.Test.YtdlhfcapfbbjjaaIsw
import Derived.Test.YtdlhfcapfbbjjaaMrg
namespace Go.Proofs.Ytdlhfcapfbbjjaa
open Go.RowKit

set_option maxRecDepth 100000 in
set_option maxHeartbeats 8000000 in
theorem symm_one (w : World) (B g N c : Nat) (pre C rest : List (Nat × Nat)) (x : Nat × Nat) (ho : Ents w B g N c (pre ++ [x] ++ C ++ rest)) (hNb : N ≤ 100000) (a m b : Nat) (ha : pre.length = a) (hm : a + 1 = m) (hb : m + C.length = b) (hbN : b ≤ N) (hs : Srt2 C) :
    Calls Try.prog 65 #[.slice (some ⟨g, 0, none⟩) N c, .int .i64 (a : Int), .int .i64 (m : Int), .int .i64 (b : Int), incf] w fun e w' => e = .returned (.tuple #[]) ∧ (∃ M, Stb ([x] ++ C) M ∧ Ents w' B g N c (pre ++ M ++ rest)) ∧ Chg (fun x => x = g) w w' := by
  have HO := Lib.hid ho
  have HS := Lib.hid hs
  have HA := Lib.hid ha
  have HB := Lib.hid hb
  have e0 : (m : Int) - (a : Int) = 1 := by omega
  have hmb : m ≤ b := by omega
  have ham : a < m := by omega
  have HM := Lib.hid hm
  clear ho hs ha hb hm
  simp only [incf]
  go_enter Try.func65, Try.ntmps65
  go_wp2
  clear e0
  go_loopw [10, 11] (fun q p wr => ∃ i j : Nat, m ≤ i ∧ i ≤ j ∧ j ≤ b ∧ q = .int .i64 (i : Int) ∧ p = .int .i64 (j : Int) ∧ Hid (∀ k y, C[k]? = some y → k < i - m → y.2 < x.2) ∧ Hid (∀ k y, C[k]? = some y → j - m ≤ k → x.2 ≤ y.2) ∧ Hid (Ents wr B g N c (pre ++ [x] ++ C ++ rest)) ∧ Hid (Chg (fun x => x = g) w wr)) (fun q p _ => (intOf p).toNat - (intOf q).toNat)
  case atStart => exact ⟨m, b, Nat.le_refl _, hmb, Nat.le_refl _, rfl, rfl, Lib.hid (fun k y _ h => by omega), Lib.hid (fun k y hk h => by
    have h1 : k < C.length := (List.getElem?_eq_some_iff.1 hk).1
    have h2 := HB.out
    omega), HO, Lib.hid (Chg.refl _ _)⟩
  case round =>
    obtain ⟨i, j, hmi, hij, hjb, rfl, rfl, HL, HG, HE, HC⟩ := hrel
    clear HO
    by_cases hlt : i < j
    · obtain ⟨h, hh⟩ : ∃ h, (i + j) / 2 = h := ⟨_, rfl⟩
      have h1 : i ≤ h := by omega
      have h2 : h < j := by omega
      have e1 : ((i : Int) + (j : Int)) / 2 = (h : Int) := by omega
      have hsm : i + j ≤ 200000 := by omega
      clear hh
      have hbl := HB.out
      have hal := HA.out
      have hml := HM.out
      obtain ⟨y, hy⟩ : ∃ y, C[h - m]? = some y := ⟨_, List.getElem?_eq_getElem (by omega)⟩
      have hey : (pre ++ [x] ++ C ++ rest)[h]? = some y := by
        rw [List.append_assoc (pre ++ [x]), List.getElem?_append_right (by simp; omega), List.getElem?_append_left (by simp; omega)]
        rw [show h - (pre ++ [x]).length = h - m by simp; omega]
        exact hy
      have hex : (pre ++ [x] ++ C ++ rest)[a]? = some x := by
        rw [List.append_assoc, List.append_assoc, List.getElem?_append_right (by omega), hal]
        simp
      have HLO : Hid (y.2 < x.2 → ∀ k z, C[k]? = some z → k < h + 1 - m → z.2 < x.2) := Lib.hid (fun hyx k z hk hlt2 => by
        rcases Nat.lt_or_ge k (h - m) with q | q
        · have := HS.out
          unfold Srt2 at this
          obtain ⟨q1, q2⟩ := List.getElem?_eq_some_iff.1 hk
          obtain ⟨q3, q4⟩ := List.getElem?_eq_some_iff.1 hy
          have h5 := List.pairwise_iff_getElem.1 this k (h - m) q1 q3 q
          rw [q2, q4] at h5
          omega
        · have e : k = h - m := by omega
          rw [e, hy] at hk
          rw [← Option.some.inj hk]
          exact hyx)
      have HHI : Hid (¬ y.2 < x.2 → ∀ k z, C[k]? = some z → h - m ≤ k → x.2 ≤ z.2) := Lib.hid (fun hyx k z hk hge => by
        rcases Nat.lt_or_ge (h - m) k with q | q
        · have := HS.out
          unfold Srt2 at this
          obtain ⟨q1, q2⟩ := List.getElem?_eq_some_iff.1 hk
          obtain ⟨q3, q4⟩ := List.getElem?_eq_some_iff.1 hy
          have h5 := List.pairwise_iff_getElem.1 this (h - m) k q3 q1 q
          rw [q2, q4] at h5
          omega
        · have e : k = h - m := by omega
          rw [e, hy] at hk
          rw [← Option.some.inj hk]
          omega)
      obtain ⟨u0, u1⟩ := flat2_get hey
      obtain ⟨v0, v1⟩ := flat2_get hex
      have hhN : h < N := by omega
      have haN : a < N := by omega
      have c0 : wr.cell? ⟨g, h * 2, none⟩ = some (.int .i64 (y.1 : Int)) := by rw [World.ownsRow.cellAt HE.out _ (by omega)]; exact u0
      have c1 : wr.cell? ⟨g, h * 2 + 1, none⟩ = some (.int .i64 (y.2 : Int)) := by rw [World.ownsRow.cellAt HE.out _ (by omega)]; exact u1
      have d0 : wr.cell? ⟨g, a * 2, none⟩ = some (.int .i64 (x.1 : Int)) := by rw [World.ownsRow.cellAt HE.out _ (by omega)]; exact v0
      have d1 : wr.cell? ⟨g, a * 2 + 1, none⟩ = some (.int .i64 (x.2 : Int)) := by rw [World.ownsRow.cellAt HE.out _ (by omega)]; exact v1
      have wh : IntKind.i64.wrap (h : Int) = (h : Int) := IntWalk.i64_in _ (by omega)
      have wa : IntKind.i64.wrap (a : Int) = (a : Int) := IntWalk.i64_in _ (by omega)
      obtain ⟨q, hq0⟩ : ∃ q : Int, cmpi y.2 x.2 = q := ⟨_, rfl⟩
      have CM : Hid (∀ W, Calls Try.prog 59 #[.agg #[.int .i64 (y.1 : Int), .int .i64 (y.2 : Int)], .agg #[.int .i64 (x.1 : Int), .int .i64 (x.2 : Int)]] W fun e w' => e = .returned (.int .i64 q) ∧ Below W.heap.size W w') := Lib.hid (fun W => by
        refine (incr1_any W y x).mono ?_
        rintro e w' ⟨rfl, rfl⟩
        exact ⟨by rw [hq0], ((Below.refl _ W).alloc (Nat.le_refl _) _).alloc (by simp) _⟩)
      have HQ : Hid (q < 0 ↔ y.2 < x.2) := Lib.hid (by
        rw [← hq0]
        unfold cmpi
        by_cases p1 : (y.2 : Int) < (x.2 : Int)
        · rw [if_pos p1]; omega
        · rw [if_neg p1]
          split <;> omega)
      clear hey hex u0 u1 v0 v1 hy hq0 hbl hal hml
      by_cases hq : q < 0
      · have dq : decide (q < 0) = true := decide_eq_true hq
        have HF := Lib.hid (HLO.out (HQ.out.1 hq))
        clear HLO HHI
        go_wp2
        go_region_held3 (fun W => W.cell? ⟨g, h * 2, none⟩ = some (.int .i64 (y.1 : Int)) ∧ W.cell? ⟨g, h * 2 + 1, none⟩ = some (.int .i64 (y.2 : Int)) ∧ W.cell? ⟨g, a * 2, none⟩ = some (.int .i64 (x.1 : Int)) ∧ W.cell? ⟨g, a * 2 + 1, none⟩ = some (.int .i64 (x.2 : Int))) (first | exact ⟨c0, c1, d0, d1⟩ | exact ⟨m0, m1, m2, m3⟩) (first
          | (go_at_call 59; refine (CM.out wr.drew).mono ?_; rintro e w5 ⟨rfl, hqq⟩; have hb5 : Below wr.heap.size wr w5 := ⟨hqq.os, hqq.tape, hqq.output, hqq.size, hqq.block⟩; have m0 := (hb5.cell (cell_lt c0)).trans c0; have m1 := (hb5.cell (cell_lt c1)).trans c1; have m2 := (hb5.cell (cell_lt d0)).trans d0; have m3 := (hb5.cell (cell_lt d1)).trans d1; have B5 := Lib.hid hb5; have G5 := Lib.hid (HC.out.below hb5); clear hqq hb5))
        all_goals
          go_wp2
          exact ⟨⟨h + 1, j, by omega, by omega, hjb, by simp, rfl, HF, HG, Lib.hid (ents_below HE.out B5.out), G5⟩, by simp [intOf]; omega⟩
      · have dq : decide (q < 0) = false := decide_eq_false hq
        have HF := Lib.hid (HHI.out (fun hh => hq (HQ.out.2 hh)))
        clear HLO HHI
        go_wp2
        go_region_held3 (fun W => W.cell? ⟨g, h * 2, none⟩ = some (.int .i64 (y.1 : Int)) ∧ W.cell? ⟨g, h * 2 + 1, none⟩ = some (.int .i64 (y.2 : Int)) ∧ W.cell? ⟨g, a * 2, none⟩ = some (.int .i64 (x.1 : Int)) ∧ W.cell? ⟨g, a * 2 + 1, none⟩ = some (.int .i64 (x.2 : Int))) (first | exact ⟨c0, c1, d0, d1⟩ | exact ⟨m0, m1, m2, m3⟩) (first
          | (go_at_call 59; refine (CM.out wr.drew).mono ?_; rintro e w5 ⟨rfl, hqq⟩; have hb5 : Below wr.heap.size wr w5 := ⟨hqq.os, hqq.tape, hqq.output, hqq.size, hqq.block⟩; have m0 := (hb5.cell (cell_lt c0)).trans c0; have m1 := (hb5.cell (cell_lt c1)).trans c1; have m2 := (hb5.cell (cell_lt d0)).trans d0; have m3 := (hb5.cell (cell_lt d1)).trans d1; have B5 := Lib.hid hb5; have G5 := Lib.hid (HC.out.below hb5); clear hqq hb5))
        all_goals
          go_wp2
          exact ⟨⟨i, h, hmi, by omega, by omega, rfl, rfl, HL, HF, Lib.hid (ents_below HE.out B5.out), G5⟩, by simp [intOf]; omega⟩
    · have hji : j = i := by omega
      have hmi2 : a + 1 ≤ i := by omega
      have I0 : Hid (Ents wr B g N c (pre ++ C.take (a - a) ++ [x] ++ C.drop (a - a) ++ rest)) := Lib.hid (by simpa using HE.out)
      have HI : Hid (∀ k, k + 1 = i → Stb ([x] ++ C) (C.take (k - a) ++ ([x] ++ C.drop (k - a)))) := Lib.hid (fun k hk => by
        have hml := HM.out
        have h1 : k - a = i - m := by omega
        have := Stb.first (x := x) (C1 := C.take (i - m)) (C2 := C.drop (i - m)) (by rw [List.take_append_drop]; exact HS.out) (fun p hp => ?_) (fun p hp => ?_)
        · rw [List.take_append_drop] at this
          rw [h1]
          exact this
        · obtain ⟨q, hq1, hq2⟩ := List.getElem_of_mem hp
          rw [List.length_take] at hq1
          refine HL.out q p ?_ (by omega)
          rw [← hq2, List.getElem_take, List.getElem?_eq_getElem]
        · obtain ⟨q, hq1, hq2⟩ := List.getElem_of_mem hp
          rw [List.length_drop] at hq1
          refine HG.out (i - m + q) p ?_ (by omega)
          rw [← hq2, List.getElem_drop, List.getElem?_eq_getElem])
      have hib : i ≤ b := by omega
      have HC0 := HC
      clear HL HG HE hji
      go_wp2
      go_loopw [13] (fun p wi => ∃ k : Nat, a ≤ k ∧ k + 1 ≤ i ∧ p = .int .i64 (k : Int) ∧ Hid (Ents wi B g N c (pre ++ C.take (k - a) ++ [x] ++ C.drop (k - a) ++ rest)) ∧ Hid (Chg (fun x => x = g) w wi)) (fun p _ => i - (intOf p).toNat)
      case atStart => exact ⟨a, Nat.le_refl _, hmi2, rfl, I0, HC0⟩
      case round =>
        obtain ⟨k, hak, hki, rfl, HE, HC⟩ := hrel
        clear I0 HC0
        have e1 : (i : Int) - 1 = ((i - 1 : Nat) : Int) := by omega
        obtain ⟨I, hI⟩ : ∃ I, i - 1 = I := ⟨_, rfl⟩
        rw [hI] at e1
        by_cases hlt2 : k + 1 < i
        · have hbl := HB.out
          have hal := HA.out
          have hml := HM.out
          have hkI : k < I := by omega
          obtain ⟨y, hy⟩ : ∃ y, C[k - a]? = some y := ⟨_, List.getElem?_eq_getElem (by omega)⟩
          have hd : C.drop (k - a) = y :: C.drop (k + 1 - a) := by
            have hq : k - a < C.length := by omega
            rw [List.drop_eq_getElem_cons hq, show k + 1 - a = k - a + 1 by omega]
            rw [List.getElem?_eq_getElem hq] at hy
            rw [Option.some.inj hy]
          have ht : C.take (k + 1 - a) = C.take (k - a) ++ [y] := by rw [show k + 1 - a = k - a + 1 by omega, List.take_add_one, hy]; rfl
          obtain ⟨J, hJ⟩ : ∃ J, k + 1 = J := ⟨_, rfl⟩
          have hpl : (pre ++ C.take (k - a)).length = k := by simp; omega
          have hcur : pre ++ C.take (k - a) ++ [x] ++ C.drop (k - a) ++ rest = (pre ++ C.take (k - a)) ++ [x] ++ [] ++ [y] ++ (C.drop (k + 1 - a) ++ rest) := by rw [hd]; simp [List.append_assoc]
          have hen := HE.out
          rw [hcur] at hen
          have hcl : ((pre ++ C.take (k - a)) ++ [x] ++ [] ++ [y] ++ (C.drop (k + 1 - a) ++ rest)).length = N := by
            have h1 := hen.1
            rw [flat2_len] at h1
            omega
          have hxk : ((pre ++ C.take (k - a)) ++ [x] ++ [] ++ [y] ++ (C.drop (k + 1 - a) ++ rest))[k]? = some (x.1, x.2) := by
            rw [List.append_assoc, List.append_assoc, List.append_assoc, List.getElem?_append_right (by omega), hpl]
            simp
          have hyk : ((pre ++ C.take (k - a)) ++ [x] ++ [] ++ [y] ++ (C.drop (k + 1 - a) ++ rest))[J]? = some (y.1, y.2) := by
            rw [List.append_assoc, List.append_assoc, List.append_assoc, List.getElem?_append_right (by omega), hpl, show J - k = 1 by omega]
            simp
          have hsw := swp_at (pre ++ C.take (k - a)) [] (C.drop (k + 1 - a) ++ rest) x y
          rw [hpl, show k + 1 + ([] : List (Nat × Nat)).length = J by simp; omega] at hsw
          have hkN : k < N := by omega
          have hJN : J < N := by omega
          have wk : IntKind.i64.wrap (k : Int) = (k : Int) := IntWalk.i64_in _ (by omega)
          have wJ : IntKind.i64.wrap (J : Int) = (J : Int) := IntWalk.i64_in _ (by omega)
          have e2 : (k : Int) + 1 = (J : Int) := by omega
          obtain ⟨W1, W2, W3, z1, z2, z3, hW1, hW2, hW3, ⟨p0, p1, p2, p3⟩, ⟨k1, k2, k3⟩, ⟨f0, f1, f2, f3⟩, hen6, hch6⟩ := swap_w hen hcl hkN hJN hxk hyk
          rw [hsw] at hen6
          have E6 : Hid (Ents (W3.setCell ⟨g, J * 2 + 1, none⟩ (.int .i64 (x.2 : Int))) B g N c (pre ++ C.take (k + 1 - a) ++ [x] ++ C.drop (k + 1 - a) ++ rest)) := Lib.hid (by rw [ht]; simpa [List.append_assoc] using hen6)
          have G6 := Lib.hid (hch6 w HC.out)
          have HK : Hid (a ≤ k + 1 ∧ k + 1 + 1 ≤ i ∧ k + 1 = J) := Lib.hid (by omega)
          clear hen6 hch6 hsw hxk hyk hcl hen hcur hpl hd ht hy hbl hal hml hJ hI HE HC hlt2
          go_wp2
          go_region
          all_goals
            go_wp2
            exact ⟨⟨k + 1, HK.out.1, HK.out.2.1, by rw [HK.out.2.2], E6, Lib.hid (G6.out.drew 1)⟩, by have := HK.out; simp [intOf]; omega⟩
        · have hkI : ¬ k < I := by omega
          have HF : Hid (∃ M, Stb ([x] ++ C) M ∧ Ents wr B g N c (pre ++ M ++ rest)) := Lib.hid ⟨_, HI.out k (by omega), by simpa [List.append_assoc] using HE.out⟩
          clear hI HE
          go_wp2
          refine bodyPost_ret (results_none rfl _ _ _) rfl ?_
          exact ⟨rfl, HF.out, HC.out⟩

end Go.Proofs.Ytdlhfcapfbbjjaa
