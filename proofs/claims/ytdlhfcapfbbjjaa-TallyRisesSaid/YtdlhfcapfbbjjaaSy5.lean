/-
  What slices.symMergeCmpFunc does at entries where both stretches are longer than one entry: they become their stable sort (the middle at or above the border). Condition: both are sorted; it does so at shorter stretches.
-/
import Derived.Test.YtdlhfcapfbbjjaaSy3
namespace Go.Proofs.Ytdlhfcapfbbjjaa
open Go.RowKit

set_option maxRecDepth 100000 in
set_option maxHeartbeats 16000000 in
theorem symm_high (w : World) (B g N c : Nat) (pre A C rest : List (Nat × Nat)) (ho : Ents w B g N c (pre ++ A ++ C ++ rest)) (hNb : N ≤ 100000) (a m b : Nat) (ha : pre.length = a) (hm : a + A.length = m) (hb : m + C.length = b) (h1 : 2 ≤ A.length) (h2 : 2 ≤ C.length) (hbN : b ≤ N) (hsA : Srt2 A) (hsC : Srt2 C)
    (hmh : ¬ (a + b) / 2 < m)
    (IH : ∀ a' b', a' ≤ b' → b' - a' < b - a → SymAt B g N c a' b') :
    Calls Try.prog 65 #[.slice (some ⟨g, 0, none⟩) N c, .int .i64 (a : Int), .int .i64 (m : Int), .int .i64 (b : Int), incf] w fun e w' => e = .returned (.tuple #[]) ∧ (∃ M, Stb (A ++ C) M ∧ Ents w' B g N c (pre ++ M ++ rest)) ∧ Chg (fun x => x = g) w w' := by
  have HO := Lib.hid ho
  have HA := Lib.hid ha
  have HM := Lib.hid hm
  have HB := Lib.hid hb
  have HSA := Lib.hid hsA
  have HSC := Lib.hid hsC
  have HI := Lib.hid IH
  have ham : a + 2 ≤ m := by omega
  have hmb : m + 2 ≤ b := by omega
  obtain ⟨h, hh⟩ : ∃ h, (a + b) / 2 = h := ⟨_, rfl⟩
  rw [hh] at hmh
  have hh1 : a < h := by omega
  have hh2 : h < b := by omega
  have hh3 : 2 * h ≤ a + b ∧ a + b ≤ 2 * h + 1 := by omega
  obtain ⟨nn, hnn⟩ : ∃ nn, h + m = nn := ⟨_, rfl⟩
  obtain ⟨pp, hpp⟩ : ∃ pp, pp + 1 = nn := ⟨nn - 1, by omega⟩
  have k0 : (((m : Int) - (a : Int)) == 1) = false := by simp; omega
  have k1 : (((b : Int) - (m : Int)) == 1) = false := by simp; omega
  have k2 : ((a : Int) + (b : Int)) / 2 = (h : Int) := by omega
  have k3 : (h : Int) + (m : Int) = (nn : Int) := by omega
  have k4 : (nn : Int) - 1 = (pp : Int) := by omega
  have k5 : a + b ≤ 200000 := by omega
  have k6 : nn ≤ 200000 := by omega
  have HNN := Lib.hid hnn
  have HPP := Lib.hid hpp
  have HH := Lib.hid hh3
  clear ho ha hm hb hsA hsC IH h1 h2 hh hnn hpp hh3
  simp only [incf]
  have k8 : decide ((h : Int) < (m : Int)) = false := decide_eq_false (by omega)
  go_enter Try.func65, Try.ntmps65
  go_wp2
  clear k0 k1 k2 k3 k4 k8
  go_loopw [20, 21] (fun q p wr => ∃ s r : Nat, a ≤ s ∧ s ≤ r ∧ r ≤ m ∧ q = .int .i64 (s : Int) ∧ p = .int .i64 (r : Int) ∧ Hid (s = a ∨ ∃ x y, A[s - 1 - a]? = some x ∧ C[h - s]? = some y ∧ x.2 ≤ y.2) ∧ Hid (r = m ∨ ∃ x y, C[h - 1 - r]? = some x ∧ A[r - a]? = some y ∧ x.2 < y.2) ∧ Hid (Ents wr B g N c (pre ++ A ++ C ++ rest)) ∧ Hid (Chg (fun x => x = g) w wr)) (fun q p _ => (intOf p).toNat - (intOf q).toNat)
  case atStart => exact ⟨a, m, Nat.le_refl _, by omega, Nat.le_refl _, rfl, rfl, Lib.hid (.inl rfl), Lib.hid (.inl rfl), HO, Lib.hid (Chg.refl _ _)⟩
  case round =>
    obtain ⟨s, r, hs, hsr, hr, rfl, rfl, HL, HG, HE, HC⟩ := hrel
    clear HO
    by_cases hlt : s < r
    · obtain ⟨k, hk⟩ : ∃ k, (s + r) / 2 = k := ⟨_, rfl⟩
      have q1 : s ≤ k := by omega
      have q2 : k < r := by omega
      obtain ⟨q, hq⟩ : ∃ q, q + k = pp := ⟨pp - k, by have := HNN.out; have := HPP.out; omega⟩
      have q3 : ((s : Int) + (r : Int)) / 2 = (k : Int) := by omega
      have q4 : (pp : Int) - (k : Int) = (q : Int) := by omega
      have q5 : s + r ≤ 200000 := by omega
      have HQ : Hid (m ≤ q ∧ q < b ∧ q - m = h - 1 - k ∧ a ≤ k ∧ k < m ∧ k < h) := Lib.hid (by have e1 := HNN.out; have e2 := HPP.out; have e3 := HH.out; omega)
      have hqN : q < N := by have := HQ.out; omega
      have hkN : k < N := by have := HQ.out; omega
      obtain ⟨x, hx⟩ : ∃ x, A[k - a]? = some x := ⟨_, List.getElem?_eq_getElem (by have := HQ.out; have := HM.out; omega)⟩
      obtain ⟨y, hy⟩ : ∃ y, C[h - 1 - k]? = some y := ⟨_, List.getElem?_eq_getElem (by have := HQ.out; have := HB.out; omega)⟩
      have hex : (pre ++ A ++ C ++ rest)[k]? = some x := by
        have e1 := HQ.out
        have e2 := HA.out
        have e3 := HM.out
        rw [List.append_assoc, List.append_assoc, List.getElem?_append_right (by omega), List.getElem?_append_left (by omega), e2]
        exact hx
      have hey : (pre ++ A ++ C ++ rest)[q]? = some y := by
        have e1 := HQ.out
        have e2 := HA.out
        have e3 := HM.out
        have e4 := HB.out
        rw [List.append_assoc, List.getElem?_append_right (by simp; omega), List.getElem?_append_left (by simp; omega)]
        rw [show q - (pre ++ A).length = h - 1 - k by simp; omega]
        exact hy
      obtain ⟨u0, u1⟩ := flat2_get hey
      obtain ⟨v0, v1⟩ := flat2_get hex
      have d0 : wr.cell? ⟨g, q * 2, none⟩ = some (.int .i64 (y.1 : Int)) := by rw [World.ownsRow.cellAt HE.out _ (by omega)]; exact u0
      have d1 : wr.cell? ⟨g, q * 2 + 1, none⟩ = some (.int .i64 (y.2 : Int)) := by rw [World.ownsRow.cellAt HE.out _ (by omega)]; exact u1
      have c0 : wr.cell? ⟨g, k * 2, none⟩ = some (.int .i64 (x.1 : Int)) := by rw [World.ownsRow.cellAt HE.out _ (by omega)]; exact v0
      have c1 : wr.cell? ⟨g, k * 2 + 1, none⟩ = some (.int .i64 (x.2 : Int)) := by rw [World.ownsRow.cellAt HE.out _ (by omega)]; exact v1
      have wq : IntKind.i64.wrap (q : Int) = (q : Int) := IntWalk.i64_in _ (by omega)
      have wk : IntKind.i64.wrap (k : Int) = (k : Int) := IntWalk.i64_in _ (by omega)
      obtain ⟨z, hz⟩ : ∃ z : Int, cmpi y.2 x.2 = z := ⟨_, rfl⟩
      have CM : Hid (∀ W, Calls Try.prog 59 #[.agg #[.int .i64 (y.1 : Int), .int .i64 (y.2 : Int)], .agg #[.int .i64 (x.1 : Int), .int .i64 (x.2 : Int)]] W fun e w' => e = .returned (.int .i64 z) ∧ Below W.heap.size W w') := Lib.hid (fun W => by
        refine (incr1_any W y x).mono ?_
        rintro e w' ⟨rfl, rfl⟩
        exact ⟨by rw [hz], ((Below.refl _ W).alloc (Nat.le_refl _) _).alloc (by simp) _⟩)
      have HZ : Hid (z < 0 ↔ y.2 < x.2) := Lib.hid (by
        rw [← hz]
        unfold cmpi
        by_cases p1 : (y.2 : Int) < (x.2 : Int)
        · rw [if_pos p1]; omega
        · rw [if_neg p1]
          split <;> omega)
      have HX := Lib.hid hx
      have HY := Lib.hid hy
      clear hey hex u0 u1 v0 v1 hx hy hz hk hq
      by_cases hz0 : z < 0
      · have dq : decide (z < 0) = true := decide_eq_true hz0
        have HF : Hid (k = m ∨ ∃ x y, C[h - 1 - k]? = some x ∧ A[k - a]? = some y ∧ x.2 < y.2) := Lib.hid (.inr ⟨y, x, HY.out, HX.out, HZ.out.1 hz0⟩)
        go_wp2
        go_region_held3 (fun W => W.cell? ⟨g, q * 2, none⟩ = some (.int .i64 (y.1 : Int)) ∧ W.cell? ⟨g, q * 2 + 1, none⟩ = some (.int .i64 (y.2 : Int)) ∧ W.cell? ⟨g, k * 2, none⟩ = some (.int .i64 (x.1 : Int)) ∧ W.cell? ⟨g, k * 2 + 1, none⟩ = some (.int .i64 (x.2 : Int))) (first | exact ⟨d0, d1, c0, c1⟩ | exact ⟨m0, m1, m2, m3⟩) (first
          | (go_at_call 59; refine (CM.out wr.drew).mono ?_; rintro e w5 ⟨rfl, hqq⟩; have hb5 : Below wr.heap.size wr w5 := ⟨hqq.os, hqq.tape, hqq.output, hqq.size, hqq.block⟩; have m0 := (hb5.cell (cell_lt d0)).trans d0; have m1 := (hb5.cell (cell_lt d1)).trans d1; have m2 := (hb5.cell (cell_lt c0)).trans c0; have m3 := (hb5.cell (cell_lt c1)).trans c1; have B5 := Lib.hid hb5; have G5 := Lib.hid (HC.out.below hb5); clear hqq hb5))
        all_goals
          go_wp2
          exact ⟨⟨s, k, hs, q1, by omega, rfl, rfl, HL, HF, Lib.hid (ents_below HE.out B5.out), G5⟩, by simp [intOf]; omega⟩
      · have dq : decide (z < 0) = false := decide_eq_false hz0
        have HF : Hid (k + 1 = a ∨ ∃ x y, A[k + 1 - 1 - a]? = some x ∧ C[h - (k + 1)]? = some y ∧ x.2 ≤ y.2) := Lib.hid (.inr ⟨x, y, HX.out, by rw [show h - (k + 1) = h - 1 - k by omega]; exact HY.out, Nat.le_of_not_lt (fun hh => hz0 (HZ.out.2 hh))⟩)
        go_wp2
        go_region_held3 (fun W => W.cell? ⟨g, q * 2, none⟩ = some (.int .i64 (y.1 : Int)) ∧ W.cell? ⟨g, q * 2 + 1, none⟩ = some (.int .i64 (y.2 : Int)) ∧ W.cell? ⟨g, k * 2, none⟩ = some (.int .i64 (x.1 : Int)) ∧ W.cell? ⟨g, k * 2 + 1, none⟩ = some (.int .i64 (x.2 : Int))) (first | exact ⟨d0, d1, c0, c1⟩ | exact ⟨m0, m1, m2, m3⟩) (first
          | (go_at_call 59; refine (CM.out wr.drew).mono ?_; rintro e w5 ⟨rfl, hqq⟩; have hb5 : Below wr.heap.size wr w5 := ⟨hqq.os, hqq.tape, hqq.output, hqq.size, hqq.block⟩; have m0 := (hb5.cell (cell_lt d0)).trans d0; have m1 := (hb5.cell (cell_lt d1)).trans d1; have m2 := (hb5.cell (cell_lt c0)).trans c0; have m3 := (hb5.cell (cell_lt c1)).trans c1; have B5 := Lib.hid hb5; have G5 := Lib.hid (HC.out.below hb5); clear hqq hb5))
        all_goals
          go_wp2
          exact ⟨⟨k + 1, r, by omega, by omega, hr, by simp, rfl, HF, HG, Lib.hid (ents_below HE.out B5.out), G5⟩, by simp [intOf]; omega⟩
    · have hrs : r = s := by omega
      subst hrs
      have HCR : Hid (Crs A C (r - a) (h - r)) := Lib.hid (by
        have e1 := HNN.out
        have e2 := HM.out
        have e3 := HB.out
        refine ⟨?_, ?_⟩
        · rcases HL.out with e | ⟨x, y, f1, f2, f3⟩
          · exact .inl (by omega)
          · rcases Nat.eq_zero_or_pos (r - a) with e | e
            · exact .inl e
            · exact .inr (.inr ⟨x, y, by rw [show r - a - 1 = r - 1 - a by omega]; exact f1, f2, f3⟩)
        · rcases HG.out with e | ⟨x, y, f1, f2, f3⟩
          · exact .inr (.inl (by omega))
          · exact .inr (.inr ⟨x, y, by rw [show h - r - 1 = h - 1 - r by omega]; exact f1, f2, f3⟩))
      have hrr : a ≤ r ∧ r ≤ m ∧ r ≤ h ∧ h - r ≤ b - m := by have e1 := HNN.out; have e3 := HH.out; omega
      obtain ⟨en, hen⟩ : ∃ en, en + r = nn := ⟨nn - r, by have := HNN.out; omega⟩
      have k9 : (nn : Int) - (r : Int) = (en : Int) := by omega
      have HEN : Hid (en = m + (h - r) ∧ en ≤ b ∧ h ≤ en) := Lib.hid (by have := HNN.out; omega)
      obtain ⟨i, hi⟩ : ∃ i, r - a = i := ⟨_, rfl⟩
      obtain ⟨j, hj⟩ : ∃ j, h - r = j := ⟨_, rfl⟩
      rw [hi, hj] at HCR
      have HIJ : Hid (r = a + i ∧ h = r + j ∧ en = m + j ∧ i ≤ A.length ∧ j ≤ C.length) := Lib.hid (by have := HEN.out; have := HM.out; have := HB.out; omega)
      obtain ⟨A1, hA1⟩ : ∃ A1, A.take i = A1 := ⟨_, rfl⟩
      obtain ⟨A2, hA2⟩ : ∃ A2, A.drop i = A2 := ⟨_, rfl⟩
      obtain ⟨C1, hC1⟩ : ∃ C1, C.take j = C1 := ⟨_, rfl⟩
      obtain ⟨C2, hC2⟩ : ∃ C2, C.drop j = C2 := ⟨_, rfl⟩
      have HLN : Hid (A1.length = i ∧ A2.length = A.length - i ∧ C1.length = j ∧ C2.length = C.length - j) := Lib.hid (by rw [← hA1, ← hA2, ← hC1, ← hC2]; have := HIJ.out; simp; omega)
      have HES : Hid (pre ++ A ++ C ++ rest = (pre ++ A1) ++ A2 ++ C1 ++ (C2 ++ rest)) := Lib.hid (by
        have eA := List.take_append_drop i A
        have eC := List.take_append_drop j C
        rw [hA1, hA2] at eA
        rw [hC1, hC2] at eC
        rw [← eA, ← eC]
        simp [List.append_assoc])
      have HST : Hid (Srt2 A1 ∧ Srt2 A2 ∧ Srt2 C1 ∧ Srt2 C2) := Lib.hid (by
        rw [← hA1, ← hA2, ← hC1, ← hC2]
        exact ⟨(srt_sub HSA.out i).1, (srt_sub HSA.out i).2, (srt_sub HSC.out j).1, (srt_sub HSC.out j).2⟩)
      have HMG : Hid (∀ M1 M2, Stb (A1 ++ C1) M1 → Stb (A2 ++ C2) M2 → Stb (A ++ C) (M1 ++ M2)) := Lib.hid (fun M1 M2 g1 g2 => HCR.out.merge HSA.out HSC.out (by rw [hA1, hC1]; exact g1) (by rw [hA2, hC2]; exact g2))
      obtain ⟨fs, hfs⟩ : ∃ fs, (pre ++ A1) ++ C1 ++ A2 ++ (C2 ++ rest) = fs := ⟨_, rfl⟩
      have EW := Lib.hid HE.out
      have RT : Hid (r < m → m < en → ∀ W, Ents W B g N c (pre ++ A ++ C ++ rest) → Calls Try.prog 66 #[.slice (some ⟨g, 0, none⟩) N c, .int .i64 (r : Int), .int .i64 (m : Int), .int .i64 (en : Int), .func (Fn.func 59) #[] #[]] W fun e w' => e = .returned (.tuple #[]) ∧ Ents w' B g N c fs ∧ Chg (fun x => x = g) W w') := Lib.hid (fun g1 g2 W hW => by
        have e1 := HIJ.out
        have e2 := HLN.out
        have e3 := HM.out
        have e4 := HA.out
        refine rotate_any W B g N c _ fs hW (ents_len hW) hNb r m en g1 g2 (by have := HEN.out; omega) ?_ _
        rw [HES.out, ← hfs]
        exact ⟨pre ++ A1, A2, C1, C2 ++ rest, rfl, rfl, by simp; omega, by omega, by omega⟩)
      have R0 : Hid (¬ (r < m ∧ m < en) → pre ++ A ++ C ++ rest = fs) := Lib.hid (fun hn => by
        have e1 := HIJ.out
        have e2 := HLN.out
        have e3 := HM.out
        rw [HES.out, ← hfs]
        have : A2 = [] ∨ C1 = [] := by
          by_cases q : r < m
          · right; exact List.eq_nil_of_length_eq_zero (by omega)
          · left; exact List.eq_nil_of_length_eq_zero (by omega)
        rcases this with e | e <;> rw [e] <;> simp)
      have S1 : Hid (a < r → r < h → ∀ W, Ents W B g N c fs → Calls Try.prog 65 #[.slice (some ⟨g, 0, none⟩) N c, .int .i64 (a : Int), .int .i64 (r : Int), .int .i64 (h : Int), .func (Fn.func 59) #[] #[]] W fun e w' => e = .returned (.tuple #[]) ∧ (∃ M, Stb (A1 ++ C1) M ∧ Ents w' B g N c (pre ++ M ++ (A2 ++ C2 ++ rest))) ∧ Chg (fun x => x = g) W w') := Lib.hid (fun g1 g2 W hW => by
        have e1 := HIJ.out
        have e2 := HLN.out
        have e3 := HM.out
        have e4 := HA.out
        have e5 := HB.out
        refine HI.out a h (by omega) (by omega) W pre A1 C1 (A2 ++ C2 ++ rest) r ?_ e4 (by omega) (by omega) (by omega) (by omega) (by omega) HST.out.1 HST.out.2.2.1
        rw [← hfs] at hW
        simpa [List.append_assoc] using hW)
      have N1 : Hid (¬ (a < r ∧ r < h) → Stb (A1 ++ C1) (A1 ++ C1)) := Lib.hid (fun hn => by
        have e1 := HIJ.out
        have e2 := HLN.out
        refine Stb.none HST.out.1 HST.out.2.2.1 ?_
        by_cases q : a < r
        · right; exact List.eq_nil_of_length_eq_zero (by omega)
        · left; exact List.eq_nil_of_length_eq_zero (by omega))
      have S2 : Hid (h < en → en < b → ∀ W M1, M1.length = i + j → Ents W B g N c (pre ++ M1 ++ (A2 ++ C2 ++ rest)) → Calls Try.prog 65 #[.slice (some ⟨g, 0, none⟩) N c, .int .i64 (h : Int), .int .i64 (en : Int), .int .i64 (b : Int), .func (Fn.func 59) #[] #[]] W fun e w' => e = .returned (.tuple #[]) ∧ (∃ M, Stb (A2 ++ C2) M ∧ Ents w' B g N c (pre ++ M1 ++ M ++ rest)) ∧ Chg (fun x => x = g) W w') := Lib.hid (fun g1 g2 W M1 hM hW => by
        have e1 := HIJ.out
        have e2 := HLN.out
        have e3 := HM.out
        have e4 := HA.out
        have e5 := HB.out
        refine HI.out h b (by omega) (by omega) W (pre ++ M1) A2 C2 rest en ?_ (by simp; omega) (by omega) (by omega) (by omega) (by omega) hbN HST.out.2.1 HST.out.2.2.2
        simpa [List.append_assoc] using hW)
      have N2 : Hid (¬ (h < en ∧ en < b) → Stb (A2 ++ C2) (A2 ++ C2)) := Lib.hid (fun hn => by
        have e1 := HIJ.out
        have e2 := HLN.out
        have e3 := HM.out
        have e5 := HB.out
        refine Stb.none HST.out.2.1 HST.out.2.2.2 ?_
        by_cases q : h < en
        · right; exact List.eq_nil_of_length_eq_zero (by omega)
        · left; exact List.eq_nil_of_length_eq_zero (by omega))
      have FL : Hid (∀ W M1, Ents W B g N c (pre ++ M1 ++ (A2 ++ C2 ++ rest)) → M1.length = i + j) := Lib.hid (fun W M1 hW => by
        have e1 := ents_len hW
        have e2 := ents_len EW.out
        have e3 := HLN.out
        have e4 := HIJ.out
        simp at e1 e2
        omega)
      have FS : Hid (∀ W, Ents W B g N c fs → Ents W B g N c (pre ++ (A1 ++ C1) ++ (A2 ++ C2 ++ rest))) := Lib.hid (fun W hW => by rw [← hfs] at hW; simpa [List.append_assoc] using hW)
      have ci : i = 0 ∨ (0 < i ∧ i < A.length) ∨ (0 < i ∧ i = A.length) := by have := HIJ.out; omega
      have cj : j = 0 ∨ (0 < j ∧ j < C.length) ∨ (0 < j ∧ j = C.length) := by have := HIJ.out; omega
      have HAL := Lib.hid (And.intro HM.out HB.out)
      clear HL HG hen hi hj hA1 hA2 hC1 hC2 HCR hfs
      rcases ci with hi | hi | hi
      · rcases cj with hj | hj | hj
        · skip
          have t1 : decide ((r : Int) < (m : Int)) = true := decide_eq_true (by have f1 := HIJ.out; have f2 := HAL.out; omega)
          have t1n : r < m := by have f1 := HIJ.out; have f2 := HAL.out; omega
          have t2 : decide ((m : Int) < (en : Int)) = false := decide_eq_false (by have f1 := HIJ.out; have f2 := HAL.out; omega)
          have t2n : ¬ m < en := by have f1 := HIJ.out; have f2 := HAL.out; omega
          have t3 : decide ((a : Int) < (r : Int)) = false := decide_eq_false (by have f1 := HIJ.out; have f2 := HAL.out; omega)
          have t3n : ¬ a < r := by have f1 := HIJ.out; have f2 := HAL.out; omega
          have t4 : decide ((r : Int) < (h : Int)) = false := decide_eq_false (by have f1 := HIJ.out; have f2 := HAL.out; omega)
          have t4n : ¬ r < h := by have f1 := HIJ.out; have f2 := HAL.out; omega
          have t5 : decide ((h : Int) < (en : Int)) = true := decide_eq_true (by have f1 := HIJ.out; have f2 := HAL.out; omega)
          have t5n : h < en := by have f1 := HIJ.out; have f2 := HAL.out; omega
          have t6 : decide ((en : Int) < (b : Int)) = true := decide_eq_true (by have f1 := HIJ.out; have f2 := HAL.out; omega)
          have t6n : en < b := by have f1 := HIJ.out; have f2 := HAL.out; omega
          clear hi hj
          have E6 : Hid (Ents wr B g N c fs) := Lib.hid (by have := HE.out; rwa [R0.out (fun q => by first | exact t1n q.1 | exact t2n q.2)] at this)
          have G6 := HC
          go_wp2_with (first
            | (go_at_call 65; (with_reducible refine (S2.out t5n t6n wr (A1 ++ C1) (FL.out _ _ (FS.out _ E6.out)) (FS.out _ E6.out)).mono ?_); rintro e w8 ⟨rfl, ⟨M2, hs8, he8⟩, hc8⟩; have E8 := Lib.hid he8; have T8 := Lib.hid hs8; have G8 := Lib.hid (G6.out.trans hc8); clear he8 hc8 hs8))
          go_end0
          exact ⟨rfl, ⟨_, HMG.out _ _ (N1.out (fun q => by first | exact t3n q.1 | exact t4n q.2)) T8.out, by have := E8.out; simpa [List.append_assoc] using this⟩, G8.out⟩
        · skip
          have t1 : decide ((r : Int) < (m : Int)) = true := decide_eq_true (by have f1 := HIJ.out; have f2 := HAL.out; omega)
          have t1n : r < m := by have f1 := HIJ.out; have f2 := HAL.out; omega
          have t2 : decide ((m : Int) < (en : Int)) = true := decide_eq_true (by have f1 := HIJ.out; have f2 := HAL.out; omega)
          have t2n : m < en := by have f1 := HIJ.out; have f2 := HAL.out; omega
          have t3 : decide ((a : Int) < (r : Int)) = false := decide_eq_false (by have f1 := HIJ.out; have f2 := HAL.out; omega)
          have t3n : ¬ a < r := by have f1 := HIJ.out; have f2 := HAL.out; omega
          have t4 : decide ((r : Int) < (h : Int)) = true := decide_eq_true (by have f1 := HIJ.out; have f2 := HAL.out; omega)
          have t4n : r < h := by have f1 := HIJ.out; have f2 := HAL.out; omega
          have t5 : decide ((h : Int) < (en : Int)) = true := decide_eq_true (by have f1 := HIJ.out; have f2 := HAL.out; omega)
          have t5n : h < en := by have f1 := HIJ.out; have f2 := HAL.out; omega
          have t6 : decide ((en : Int) < (b : Int)) = true := decide_eq_true (by have f1 := HIJ.out; have f2 := HAL.out; omega)
          have t6n : en < b := by have f1 := HIJ.out; have f2 := HAL.out; omega
          clear hi hj
          go_wp2_with (first
            | (go_at_call 66; (with_reducible refine (RT.out t1n t2n wr HE.out).mono ?_); rintro e w6 ⟨rfl, he6, hc6⟩; have E6 := Lib.hid he6; have G6 := Lib.hid (HC.out.trans hc6); clear he6 hc6)
            | (go_at_call 65; (with_reducible refine (S2.out t5n t6n w6 (A1 ++ C1) (FL.out _ _ (FS.out _ E6.out)) (FS.out _ E6.out)).mono ?_); rintro e w8 ⟨rfl, ⟨M2, hs8, he8⟩, hc8⟩; have E8 := Lib.hid he8; have T8 := Lib.hid hs8; have G8 := Lib.hid (G6.out.trans hc8); clear he8 hc8 hs8))
          go_end0
          exact ⟨rfl, ⟨_, HMG.out _ _ (N1.out (fun q => by first | exact t3n q.1 | exact t4n q.2)) T8.out, by have := E8.out; simpa [List.append_assoc] using this⟩, G8.out⟩
        · skip
          have t1 : decide ((r : Int) < (m : Int)) = true := decide_eq_true (by have f1 := HIJ.out; have f2 := HAL.out; omega)
          have t1n : r < m := by have f1 := HIJ.out; have f2 := HAL.out; omega
          have t2 : decide ((m : Int) < (en : Int)) = true := decide_eq_true (by have f1 := HIJ.out; have f2 := HAL.out; omega)
          have t2n : m < en := by have f1 := HIJ.out; have f2 := HAL.out; omega
          have t3 : decide ((a : Int) < (r : Int)) = false := decide_eq_false (by have f1 := HIJ.out; have f2 := HAL.out; omega)
          have t3n : ¬ a < r := by have f1 := HIJ.out; have f2 := HAL.out; omega
          have t4 : decide ((r : Int) < (h : Int)) = true := decide_eq_true (by have f1 := HIJ.out; have f2 := HAL.out; omega)
          have t4n : r < h := by have f1 := HIJ.out; have f2 := HAL.out; omega
          have t5 : decide ((h : Int) < (en : Int)) = true := decide_eq_true (by have f1 := HIJ.out; have f2 := HAL.out; omega)
          have t5n : h < en := by have f1 := HIJ.out; have f2 := HAL.out; omega
          have t6 : decide ((en : Int) < (b : Int)) = false := decide_eq_false (by have f1 := HIJ.out; have f2 := HAL.out; omega)
          have t6n : ¬ en < b := by have f1 := HIJ.out; have f2 := HAL.out; omega
          clear hi hj
          go_wp2_with (first
            | (go_at_call 66; (with_reducible refine (RT.out t1n t2n wr HE.out).mono ?_); rintro e w6 ⟨rfl, he6, hc6⟩; have E6 := Lib.hid he6; have G6 := Lib.hid (HC.out.trans hc6); clear he6 hc6))
          go_end0
          exact ⟨rfl, ⟨_, HMG.out _ _ (N1.out (fun q => by first | exact t3n q.1 | exact t4n q.2)) (N2.out (fun q => by first | exact t5n q.1 | exact t6n q.2)), by have := FS.out _ E6.out; simpa [List.append_assoc] using this⟩, G6.out⟩
      · rcases cj with hj | hj | hj
        · skip
          have t1 : decide ((r : Int) < (m : Int)) = true := decide_eq_true (by have f1 := HIJ.out; have f2 := HAL.out; omega)
          have t1n : r < m := by have f1 := HIJ.out; have f2 := HAL.out; omega
          have t2 : decide ((m : Int) < (en : Int)) = false := decide_eq_false (by have f1 := HIJ.out; have f2 := HAL.out; omega)
          have t2n : ¬ m < en := by have f1 := HIJ.out; have f2 := HAL.out; omega
          have t3 : decide ((a : Int) < (r : Int)) = true := decide_eq_true (by have f1 := HIJ.out; have f2 := HAL.out; omega)
          have t3n : a < r := by have f1 := HIJ.out; have f2 := HAL.out; omega
          have t4 : decide ((r : Int) < (h : Int)) = false := decide_eq_false (by have f1 := HIJ.out; have f2 := HAL.out; omega)
          have t4n : ¬ r < h := by have f1 := HIJ.out; have f2 := HAL.out; omega
          have t5 : decide ((h : Int) < (en : Int)) = true := decide_eq_true (by have f1 := HIJ.out; have f2 := HAL.out; omega)
          have t5n : h < en := by have f1 := HIJ.out; have f2 := HAL.out; omega
          have t6 : decide ((en : Int) < (b : Int)) = true := decide_eq_true (by have f1 := HIJ.out; have f2 := HAL.out; omega)
          have t6n : en < b := by have f1 := HIJ.out; have f2 := HAL.out; omega
          clear hi hj
          have E6 : Hid (Ents wr B g N c fs) := Lib.hid (by have := HE.out; rwa [R0.out (fun q => by first | exact t1n q.1 | exact t2n q.2)] at this)
          have G6 := HC
          go_wp2_with (first
            | (go_at_call 65; (with_reducible refine (S2.out t5n t6n wr (A1 ++ C1) (FL.out _ _ (FS.out _ E6.out)) (FS.out _ E6.out)).mono ?_); rintro e w8 ⟨rfl, ⟨M2, hs8, he8⟩, hc8⟩; have E8 := Lib.hid he8; have T8 := Lib.hid hs8; have G8 := Lib.hid (G6.out.trans hc8); clear he8 hc8 hs8))
          go_end0
          exact ⟨rfl, ⟨_, HMG.out _ _ (N1.out (fun q => by first | exact t3n q.1 | exact t4n q.2)) T8.out, by have := E8.out; simpa [List.append_assoc] using this⟩, G8.out⟩
        · skip
          have t1 : decide ((r : Int) < (m : Int)) = true := decide_eq_true (by have f1 := HIJ.out; have f2 := HAL.out; omega)
          have t1n : r < m := by have f1 := HIJ.out; have f2 := HAL.out; omega
          have t2 : decide ((m : Int) < (en : Int)) = true := decide_eq_true (by have f1 := HIJ.out; have f2 := HAL.out; omega)
          have t2n : m < en := by have f1 := HIJ.out; have f2 := HAL.out; omega
          have t3 : decide ((a : Int) < (r : Int)) = true := decide_eq_true (by have f1 := HIJ.out; have f2 := HAL.out; omega)
          have t3n : a < r := by have f1 := HIJ.out; have f2 := HAL.out; omega
          have t4 : decide ((r : Int) < (h : Int)) = true := decide_eq_true (by have f1 := HIJ.out; have f2 := HAL.out; omega)
          have t4n : r < h := by have f1 := HIJ.out; have f2 := HAL.out; omega
          have t5 : decide ((h : Int) < (en : Int)) = true := decide_eq_true (by have f1 := HIJ.out; have f2 := HAL.out; omega)
          have t5n : h < en := by have f1 := HIJ.out; have f2 := HAL.out; omega
          have t6 : decide ((en : Int) < (b : Int)) = true := decide_eq_true (by have f1 := HIJ.out; have f2 := HAL.out; omega)
          have t6n : en < b := by have f1 := HIJ.out; have f2 := HAL.out; omega
          clear hi hj
          go_wp2_with (first
            | (go_at_call 66; (with_reducible refine (RT.out t1n t2n wr HE.out).mono ?_); rintro e w6 ⟨rfl, he6, hc6⟩; have E6 := Lib.hid he6; have G6 := Lib.hid (HC.out.trans hc6); clear he6 hc6)
            | (go_at_call 65; (with_reducible refine (S1.out t3n t4n w6 E6.out).mono ?_); rintro e w7 ⟨rfl, ⟨M1, hs7, he7⟩, hc7⟩; have E7 := Lib.hid he7; have T7 := Lib.hid hs7; have G7 := Lib.hid (G6.out.trans hc7); clear he7 hc7 hs7)
            | (go_at_call 65; (with_reducible refine (S2.out t5n t6n w7 M1 (FL.out _ _ E7.out) E7.out).mono ?_); rintro e w8 ⟨rfl, ⟨M2, hs8, he8⟩, hc8⟩; have E8 := Lib.hid he8; have T8 := Lib.hid hs8; have G8 := Lib.hid (G7.out.trans hc8); clear he8 hc8 hs8))
          go_end0
          exact ⟨rfl, ⟨_, HMG.out _ _ T7.out T8.out, by have := E8.out; simpa [List.append_assoc] using this⟩, G8.out⟩
        · skip
          have t1 : decide ((r : Int) < (m : Int)) = true := decide_eq_true (by have f1 := HIJ.out; have f2 := HAL.out; omega)
          have t1n : r < m := by have f1 := HIJ.out; have f2 := HAL.out; omega
          have t2 : decide ((m : Int) < (en : Int)) = true := decide_eq_true (by have f1 := HIJ.out; have f2 := HAL.out; omega)
          have t2n : m < en := by have f1 := HIJ.out; have f2 := HAL.out; omega
          have t3 : decide ((a : Int) < (r : Int)) = true := decide_eq_true (by have f1 := HIJ.out; have f2 := HAL.out; omega)
          have t3n : a < r := by have f1 := HIJ.out; have f2 := HAL.out; omega
          have t4 : decide ((r : Int) < (h : Int)) = true := decide_eq_true (by have f1 := HIJ.out; have f2 := HAL.out; omega)
          have t4n : r < h := by have f1 := HIJ.out; have f2 := HAL.out; omega
          have t5 : decide ((h : Int) < (en : Int)) = true := decide_eq_true (by have f1 := HIJ.out; have f2 := HAL.out; omega)
          have t5n : h < en := by have f1 := HIJ.out; have f2 := HAL.out; omega
          have t6 : decide ((en : Int) < (b : Int)) = false := decide_eq_false (by have f1 := HIJ.out; have f2 := HAL.out; omega)
          have t6n : ¬ en < b := by have f1 := HIJ.out; have f2 := HAL.out; omega
          clear hi hj
          go_wp2_with (first
            | (go_at_call 66; (with_reducible refine (RT.out t1n t2n wr HE.out).mono ?_); rintro e w6 ⟨rfl, he6, hc6⟩; have E6 := Lib.hid he6; have G6 := Lib.hid (HC.out.trans hc6); clear he6 hc6)
            | (go_at_call 65; (with_reducible refine (S1.out t3n t4n w6 E6.out).mono ?_); rintro e w7 ⟨rfl, ⟨M1, hs7, he7⟩, hc7⟩; have E7 := Lib.hid he7; have T7 := Lib.hid hs7; have G7 := Lib.hid (G6.out.trans hc7); clear he7 hc7 hs7))
          go_end0
          exact ⟨rfl, ⟨_, HMG.out _ _ T7.out (N2.out (fun q => by first | exact t5n q.1 | exact t6n q.2)), by have := E7.out; simpa [List.append_assoc] using this⟩, G7.out⟩
      · rcases cj with hj | hj | hj
        · skip
          have t1 : decide ((r : Int) < (m : Int)) = false := decide_eq_false (by have f1 := HIJ.out; have f2 := HAL.out; omega)
          have t1n : ¬ r < m := by have f1 := HIJ.out; have f2 := HAL.out; omega
          have t2 : decide ((m : Int) < (en : Int)) = false := decide_eq_false (by have f1 := HIJ.out; have f2 := HAL.out; omega)
          have t2n : ¬ m < en := by have f1 := HIJ.out; have f2 := HAL.out; omega
          have t3 : decide ((a : Int) < (r : Int)) = true := decide_eq_true (by have f1 := HIJ.out; have f2 := HAL.out; omega)
          have t3n : a < r := by have f1 := HIJ.out; have f2 := HAL.out; omega
          have t4 : decide ((r : Int) < (h : Int)) = false := decide_eq_false (by have f1 := HIJ.out; have f2 := HAL.out; omega)
          have t4n : ¬ r < h := by have f1 := HIJ.out; have f2 := HAL.out; omega
          have t5 : decide ((h : Int) < (en : Int)) = false := decide_eq_false (by have f1 := HIJ.out; have f2 := HAL.out; omega)
          have t5n : ¬ h < en := by have f1 := HIJ.out; have f2 := HAL.out; omega
          have t6 : decide ((en : Int) < (b : Int)) = true := decide_eq_true (by have f1 := HIJ.out; have f2 := HAL.out; omega)
          have t6n : en < b := by have f1 := HIJ.out; have f2 := HAL.out; omega
          clear hi hj
          have E6 : Hid (Ents wr B g N c fs) := Lib.hid (by have := HE.out; rwa [R0.out (fun q => by first | exact t1n q.1 | exact t2n q.2)] at this)
          have G6 := HC
          go_wp2
          go_end0
          exact ⟨rfl, ⟨_, HMG.out _ _ (N1.out (fun q => by first | exact t3n q.1 | exact t4n q.2)) (N2.out (fun q => by first | exact t5n q.1 | exact t6n q.2)), by have := FS.out _ E6.out; simpa [List.append_assoc] using this⟩, G6.out⟩
        · skip
          have t1 : decide ((r : Int) < (m : Int)) = false := decide_eq_false (by have f1 := HIJ.out; have f2 := HAL.out; omega)
          have t1n : ¬ r < m := by have f1 := HIJ.out; have f2 := HAL.out; omega
          have t2 : decide ((m : Int) < (en : Int)) = true := decide_eq_true (by have f1 := HIJ.out; have f2 := HAL.out; omega)
          have t2n : m < en := by have f1 := HIJ.out; have f2 := HAL.out; omega
          have t3 : decide ((a : Int) < (r : Int)) = true := decide_eq_true (by have f1 := HIJ.out; have f2 := HAL.out; omega)
          have t3n : a < r := by have f1 := HIJ.out; have f2 := HAL.out; omega
          have t4 : decide ((r : Int) < (h : Int)) = true := decide_eq_true (by have f1 := HIJ.out; have f2 := HAL.out; omega)
          have t4n : r < h := by have f1 := HIJ.out; have f2 := HAL.out; omega
          have t5 : decide ((h : Int) < (en : Int)) = false := decide_eq_false (by have f1 := HIJ.out; have f2 := HAL.out; omega)
          have t5n : ¬ h < en := by have f1 := HIJ.out; have f2 := HAL.out; omega
          have t6 : decide ((en : Int) < (b : Int)) = true := decide_eq_true (by have f1 := HIJ.out; have f2 := HAL.out; omega)
          have t6n : en < b := by have f1 := HIJ.out; have f2 := HAL.out; omega
          clear hi hj
          have E6 : Hid (Ents wr B g N c fs) := Lib.hid (by have := HE.out; rwa [R0.out (fun q => by first | exact t1n q.1 | exact t2n q.2)] at this)
          have G6 := HC
          go_wp2_with (first
            | (go_at_call 65; (with_reducible refine (S1.out t3n t4n wr E6.out).mono ?_); rintro e w7 ⟨rfl, ⟨M1, hs7, he7⟩, hc7⟩; have E7 := Lib.hid he7; have T7 := Lib.hid hs7; have G7 := Lib.hid (G6.out.trans hc7); clear he7 hc7 hs7))
          go_end0
          exact ⟨rfl, ⟨_, HMG.out _ _ T7.out (N2.out (fun q => by first | exact t5n q.1 | exact t6n q.2)), by have := E7.out; simpa [List.append_assoc] using this⟩, G7.out⟩
        · skip
          have t1 : decide ((r : Int) < (m : Int)) = false := decide_eq_false (by have f1 := HIJ.out; have f2 := HAL.out; omega)
          have t1n : ¬ r < m := by have f1 := HIJ.out; have f2 := HAL.out; omega
          have t2 : decide ((m : Int) < (en : Int)) = true := decide_eq_true (by have f1 := HIJ.out; have f2 := HAL.out; omega)
          have t2n : m < en := by have f1 := HIJ.out; have f2 := HAL.out; omega
          have t3 : decide ((a : Int) < (r : Int)) = true := decide_eq_true (by have f1 := HIJ.out; have f2 := HAL.out; omega)
          have t3n : a < r := by have f1 := HIJ.out; have f2 := HAL.out; omega
          have t4 : decide ((r : Int) < (h : Int)) = true := decide_eq_true (by have f1 := HIJ.out; have f2 := HAL.out; omega)
          have t4n : r < h := by have f1 := HIJ.out; have f2 := HAL.out; omega
          have t5 : decide ((h : Int) < (en : Int)) = false := decide_eq_false (by have f1 := HIJ.out; have f2 := HAL.out; omega)
          have t5n : ¬ h < en := by have f1 := HIJ.out; have f2 := HAL.out; omega
          have t6 : decide ((en : Int) < (b : Int)) = false := decide_eq_false (by have f1 := HIJ.out; have f2 := HAL.out; omega)
          have t6n : ¬ en < b := by have f1 := HIJ.out; have f2 := HAL.out; omega
          clear hi hj
          have E6 : Hid (Ents wr B g N c fs) := Lib.hid (by have := HE.out; rwa [R0.out (fun q => by first | exact t1n q.1 | exact t2n q.2)] at this)
          have G6 := HC
          go_wp2_with (first
            | (go_at_call 65; (with_reducible refine (S1.out t3n t4n wr E6.out).mono ?_); rintro e w7 ⟨rfl, ⟨M1, hs7, he7⟩, hc7⟩; have E7 := Lib.hid he7; have T7 := Lib.hid hs7; have G7 := Lib.hid (G6.out.trans hc7); clear he7 hc7 hs7))
          go_end0
          exact ⟨rfl, ⟨_, HMG.out _ _ T7.out (N2.out (fun q => by first | exact t5n q.1 | exact t6n q.2)), by have := E7.out; simpa [List.append_assoc] using this⟩, G7.out⟩

end Go.Proofs.Ytdlhfcapfbbjjaa
