/-
  Proved: the law BitinOwn returns true for all bytes: readers are not affected by later changes of the slice. No condition.
-/
import Derived.Test.YtckboifdkagacaaUni
namespace Go.Proofs.Ytckboifdkagacaa.bitinOwn
open Go.ChangeShapes Go.WideShapes Go.ChangeAt Go.RowKit

/-- A row of N bytes of the call's own. -/
def OwnB (w : World) (g N : Nat) : Prop := ∃ cur : Array Value, w.heap[g]? = some (.cells cur 5 (0, 0)) ∧ ∀ j, j < N → ∃ b : UInt8, cur[j]? = some (byt b)

theorem addr_at (g j : Nat) : (Addr.add ⟨g, 0, none⟩ j) = ⟨g, j, none⟩ := by
  unfold Addr.add
  by_cases h0 : j = 0
  · rw [if_pos h0, h0]
  · rw [if_neg h0]; simp

theorem own_of {w : World} {base N co : Nat} {A : Option Addr} {D : List UInt8} (hN : D.length = N) (h0 : 0 < N) (h : w.ownsRow base 5 1 (.slice A N co) N (D.map byt)) : ∃ g, A = some ⟨g, 0, none⟩ ∧ OwnB w g N ∧ g < w.heap.size ∧ base ≤ g := by
  rcases h.2 with ⟨_, hn⟩ | ⟨g, c, cur, hv, hb, hh, _, _, hs, ht⟩
  · omega
  · injection hv with hA
    refine ⟨g, hA, ⟨cur, hh, fun j hj => ?_⟩, (Array.getElem?_eq_some_iff.1 hh).1, hb⟩
    have hjD : j < D.length := by omega
    refine ⟨D[j], ?_⟩
    have h2 : (cur.toList.take (N * 1))[j]? = some (byt D[j]) := by rw [ht, List.getElem?_map, List.getElem?_eq_getElem hjD]; rfl
    rw [List.getElem?_take_of_lt (by omega)] at h2
    simpa using h2

theorem OwnB.cell {w : World} {g N j : Nat} (h : OwnB w g N) (hj : j < N) : ∃ b : UInt8, w.cell? (Addr.add ⟨g, 0, none⟩ j) = some (.int .u8 (b.toNat : Int)) := by
  obtain ⟨cur, hh, hc⟩ := h
  obtain ⟨b, hb⟩ := hc j hj
  refine ⟨b, ?_⟩
  rw [addr_at, cell_of_row w g j cur _ _ hh]
  exact hb
theorem OwnB.free {w : World} {g N : Nat} (h : OwnB w g N) (j : Nat) : w.frozen? (Addr.add ⟨g, 0, none⟩ j) = false := by
  obtain ⟨cur, hh, _⟩ := h
  rw [addr_at]
  simp [World.frozen?, hh]
theorem OwnB.below {w w' : World} {g N : Nat} (h : OwnB w g N) (hb : w'.heap[g]? = w.heap[g]?) : OwnB w' g N := by
  obtain ⟨cur, hh, hc⟩ := h
  exact ⟨cur, hb.trans hh, hc⟩
theorem OwnB.store {w : World} {g N j : Nat} (h : OwnB w g N) (z : Int) (h0 : 0 ≤ z) (h1 : z < 256) : OwnB (w.setCell (Addr.add ⟨g, 0, none⟩ j) (.int .u8 z)) g N := by
  obtain ⟨cur, hh, hc⟩ := h
  rw [addr_at]
  refine ⟨cur.setIfInBounds j (.int .u8 z), heap_setCell_same w g j cur _ _ hh, fun i hi => ?_⟩
  by_cases hij : i = j
  · subst hij
    obtain ⟨b, hb⟩ := hc i hi
    have hlt : i < cur.size := (Array.getElem?_eq_some_iff.1 hb).1
    refine ⟨UInt8.ofNat z.toNat, ?_⟩
    rw [Array.getElem?_setIfInBounds_self_of_lt hlt, byt_of (by omega)]
    congr 2
    omega
  · obtain ⟨b, hb⟩ := hc i hi
    exact ⟨b, by rw [Array.getElem?_setIfInBounds_ne (by omega)]; exact hb⟩
theorem grown_store (w : World) (g j : Nat) (v : Value) : w.grownBy (w.setCell (Addr.add ⟨g, 0, none⟩ j) v) (some g) := by
  rw [addr_at]
  exact grown_setCell _ _ _ _

theorem xor_byte {y : Nat} (hy : y < 256) : 0 ≤ bits BinOp.xor IntKind.u8 (if IntKind.u8.signed = true then -1 else IntKind.u8.max) (y : Int) ∧ bits BinOp.xor IntKind.u8 (if IntKind.u8.signed = true then -1 else IntKind.u8.max) (y : Int) < 256 := by
  have e : (if IntKind.u8.signed = true then (-1 : Int) else IntKind.u8.max) = ((255 : Nat) : Int) := by decide
  rw [e, u8_xor_nat 255 y (by decide) hy]
  have : 255 ^^^ y < 2 ^ 8 := Nat.xor_lt_two_pow (by decide) hy
  omega

theorem byte_cut {D : List UInt8} {i : Nat} {b : UInt8} (h : D[i]? = some b) : cut D (8 * i) 8 = b.toNat := by
  have := cut_byte (s := 0) (m := 8) h (by omega)
  rw [Nat.add_zero, Nat.pow_zero, Nat.div_one, Nat.mod_eq_of_lt b.toNat_lt] at this
  exact this


set_option maxRecDepth 100000 in
set_option maxHeartbeats 4000000 in
theorem walk_some (A : Option Addr) (D F : List UInt8) (lb : UInt8) (N cap : Nat) (w : World) (hD : D = F ++ [lb]) (hN : D.length = N) (hN2 : N ≤ 60) (hR : Rd w A D) (hlb : lb.toNat ≠ 0) (e gg : Nat) (he : endOf D = some e) (hge : e = 8 * (N - 1) + gg) (hg8 : gg < 8) :
    Calls Try.prog 9 #[.slice A N cap] w fun e w' => e = .returned (.bool true) ∧ Below w.heap.size w w' := by
  have HN := Lib.hid hN
  have HR := Lib.hid hR
  have hN0 : 0 < N := by rw [← hN, hD, List.length_append]; simp
  have O0 := Lib.hid (World.ownsRow_nil w w.heap.size 5 1)
  have hd : decide ((60 : Int) < (N : Int)) = false := decide_eq_false (by omega)
  have hdN : decide ((0 : Int) < (N : Int)) = true := decide_eq_true (by omega)
  obtain ⟨a0, rfl⟩ := Rv.some_of hR (by rw [hD]; simp)
  have hlast : w.cell? (a0.add (N - 1)) = some (.int .u8 (lb.toNat : Int)) := by
    have h1 : F.length = N - 1 := by rw [← hN, hD, List.length_append]; simp
    rw [← h1]
    exact last_cell (by rw [← hD]; exact hR)
  obtain ⟨N1, hN1⟩ : ∃ N1, N - 1 = N1 := ⟨_, rfl⟩
  rw [hN1] at hlast
  have hn1 : N1 < N := by omega
  have HN1 : Hid (N = N1 + 1) := Lib.hid (by omega)
  have hsub : (N : Int) - 1 = (N1 : Int) := by omega
  have HL := Lib.hid hlast
  obtain ⟨M, hM⟩ : ∃ M, 8 * N = M := ⟨_, rfl⟩
  have HM : Hid (M = 8 * D.length) := Lib.hid (by rw [hN]; exact hM.symm)
  rw [hN1] at hge
  have HE := Lib.hid he
  have LE : Hid (e ≤ 8 * D.length) := Lib.hid (by rw [hN]; omega)
  have HGE := Lib.hid hge
  have he5 : e ≤ 1000 := by omega
  clear he hge
  clear hN hR hlast hD hN1
  go_enter Try.func9, Try.ntmps9
  go_wp2_with (at_builtin; refine wpList_append_vals Try.underlying22 byte_info rfl rfl _ _ rfl w.heap.size (.slice none 0 0) 0 [] rfl O0.out (some a0) (D.map byt) (byt_one D) N cap (by rw [List.length_map]; exact HN.out) rfl HR.out (by omega) (Nat.le_refl _) ?_; intro v1 w1 ho1 hg1 _; rw [Nat.zero_add, List.nil_append] at ho1; obtain ⟨A1, c1, rfl, _⟩ := own_form ho1; have B1 := Lib.hid ((Below.refl w.heap.size w).grown hg1 (Nat.le_refl _) (fun j ej => by cases ej)); have O1 := Lib.hid ho1; clear ho1 hg1)
  obtain ⟨g, hA1, hOB, hglt, hgge⟩ := own_of HN.out hN0 O1.out
  obtain ⟨ad, had⟩ : ∃ ad : Addr, ad = ⟨g, 0, none⟩ := ⟨_, rfl⟩
  rw [← had] at hA1
  subst hA1
  have HAD := Lib.hid had
  have W1 := Lib.hid hOB
  have GL := Lib.hid (And.intro hglt hgge)
  have R1 : Hid (Rd w1 (some ad) D) := Lib.hid (Rv.of_own O1.out)
  clear had hOB hglt hgge O1
  refine (newf_r _ _ D N c1 HN.out (by omega) R1.out M hM).mono ?_
  rintro q w2 ⟨x, rfl, Af, cf, h2⟩
  have F2 := Lib.hid (Rr.from B1.out h2)
  have R2 := Lib.hid (R1.out.below h2.bel)
  have W2 := Lib.hid (W1.out.below (h2.bel.block _ GL.out.1))
  have SG : Hid (Sep x Af g none) := Lib.hid ⟨by have := h2.ge; have := GL.out; omega, (fun ad e => by have := h2.row ad e; have := GL.out; omega), (fun ad e => by cases e)⟩
  have G2 : Hid (g < w2.heap.size) := Lib.hid (Nat.lt_of_lt_of_le GL.out.1 h2.bel.size)
  clear h2 R1 W1
  go_wp2_with fail
  refine (newb_s _ _ D N c1 HN.out (by omega) R2.out e HE.out).mono ?_
  rintro q w3 ⟨y, rfl, Ak, ck, h3⟩
  have F3 := Lib.hid (F2.out.on h3.bel)
  have K3 := Lib.hid (Rr.from F2.out.bel h3)
  have SP := Lib.hid (Sep.new F2.out.sp h3)
  have W3 := Lib.hid (W2.out.below (h3.bel.block _ G2.out))
  have SH : Hid (Sep y Ak g none) := Lib.hid ⟨by have := h3.ge; have := G2.out; omega, (fun ad e => by have := h3.row ad e; have := G2.out; omega), (fun ad e => by cases e)⟩
  clear h3 F2 W2 R2
  have hl3 := F3.out.bel.cell (cell_lt HL.out)
  rw [HL.out] at hl3
  obtain ⟨yl, hyl⟩ : ∃ yl, lb.toNat = yl := ⟨_, rfl⟩
  rw [hyl] at hl3 hlb
  have hlb2 : ((yl : Int) != 0) = true := by simpa using hlb
  go_wp2_with fail
  clear hl3 hlb2
  go_loopw [7] (fun t wr => ∃ i : Nat, i ≤ N ∧ t = .int .i64 (i : Int) ∧ Hid (OwnB wr g N) ∧ Hid (Rr w wr x 68 Af cf D 0 M) ∧ Hid (Rr w wr y 69 Ak ck D 0 e)) (fun t _ => N - (intOf t).toNat)
  case atStart => exact ⟨0, by omega, rfl, W3, F3, K3⟩
  case round =>
    obtain ⟨i, hi, rfl, HW, HF, HK⟩ := hrel
    by_cases hlt : i < N
    · obtain ⟨b, hb⟩ := HW.out.cell hlt
      have hf := HW.out.free i
      rw [← HAD.out] at hb hf
      have hb8 := b.toNat_lt
      obtain ⟨yb, hyb⟩ : ∃ y, b.toNat = y := ⟨_, rfl⟩
      rw [hyb] at hb hb8
      have XB := Lib.hid (xor_byte hb8)
      have GS : ∀ v, wr.grownBy (wr.setCell (ad.add i) v) (some g) := fun v => by rw [HAD.out]; exact grown_store _ _ _ _
      have HGS := Lib.hid GS
      clear hyb GS
      go_wp2_with fail
      exact ⟨⟨i + 1, by omega, by simp, Lib.hid (by rw [HAD.out]; exact HW.out.store _ XB.out.1 XB.out.2), Lib.hid (HF.out.other SG.out GL.out.2 (HGS.out _)), Lib.hid (HK.out.other SH.out GL.out.2 (HGS.out _))⟩, by simp [intOf]; omega⟩
    · have hie : N = i := by omega
      subst hie
      clear hlt hi HW
      go_wp2_with fail
      go_loopw [8] (fun t wr => ∃ i : Nat, i ≤ N ∧ t = .int .i64 (i : Int) ∧ Hid (Rr w wr x 68 Af cf D (8 * i) M) ∧ Hid (Rr w wr y 69 Ak ck D 0 e)) (fun t _ => N - (intOf t).toNat)
      case atStart => exact ⟨0, by omega, rfl, HF, HK⟩
      case round =>
        clear HF HK
        obtain ⟨i, hi, rfl, HF, HK⟩ := hrel
        by_cases hlt : i < N
        · obtain ⟨b, hb⟩ : ∃ b, D[i]? = some b := ⟨_, List.getElem?_eq_getElem (by rw [HN.out]; exact hlt)⟩
          have hcell : ∀ w', Below w.heap.size w w' → w'.cell? (a0.add i) = some (byt b) := fun w' hb' => (HR.out.below hb').cells i _ (by rw [List.getElem?_map, hb]; rfl)
          have TK := Lib.hid (ftake_r HF.out.sp (Nat.le_of_eq HM.out) (by rw [HN.out]; omega) 8 (by decide) (by omega) 8 rfl b.toNat (8 * (i + 1)) (byte_cut hb) (by omega))
          have hb8 := b.toNat_lt
          simp only [byt] at hcell
          obtain ⟨yb, hyb⟩ : ∃ y, b.toNat = y := ⟨_, rfl⟩
          rw [hyb] at hcell hb8 TK
          have HC := Lib.hid hcell
          clear hyb hb hcell
          go_wp2_with fail
          refine TK.out.mono ?_
          rintro q w4 ⟨rfl, hs, hg⟩
          have F4 := Lib.hid (HF.out.step hs hg)
          have K4 := Lib.hid (HK.out.other SP.out.symm HF.out.ge hg)
          have hc4 := HC.out w4 F4.out.bel
          clear hs hg TK HC
          go_wp2_with fail
          refine (took_yes _ (yb : Int) 0).mono ?_
          rintro q w5 ⟨rfl, rfl⟩
          clear hc4
          go_wp2_with fail
          exact ⟨⟨i + 1, by omega, by simp, F4, K4⟩, by simp [intOf]; omega⟩
        · have hie : N = i := by omega
          subst hie
          clear hlt hi
          go_wp2_with fail
          go_loopw [11] (fun t wr => ∃ j ec : Nat, j ≤ N1 ∧ t = .int .i64 ((j : Int) - 1) ∧ Hid (Rr w wr y 69 Ak ck D 0 ec) ∧ Hid ((j = N1 → ec = e) ∧ (j < N1 → ec = 8 * j))) (fun t _ => (intOf t + 1).toNat)
          case atStart => exact ⟨N1, e, by omega, by have := HN1.out; congr 1; omega, HK, Lib.hid ⟨fun _ => rfl, fun h => by omega⟩⟩
          case round =>
            clear HF HK
            obtain ⟨j, ec, hj, rfl, HK, HEC⟩ := hrel
            by_cases h0 : j = 0
            · subst h0
              go_wp2_with fail
              refine (known_any _).mono ?_
              rintro q wk ⟨rfl, hb⟩
              have HB := Lib.hid (below_on HK.out.bel (Nat.le_refl _) hb)
              clear hb
              go_wp2
              go_ret
              exact ⟨rfl, HB.out⟩
            · obtain ⟨i, hi⟩ : ∃ i, j = i + 1 := ⟨j - 1, by omega⟩
              have hji : (j : Int) - 1 = (i : Int) := by omega
              have hiN : i < N := by omega
              obtain ⟨b, hb⟩ : ∃ b, D[i]? = some b := ⟨_, List.getElem?_eq_getElem (by rw [HN.out]; exact hiN)⟩
              have hcell : ∀ w', Below w.heap.size w w' → w'.cell? (a0.add i) = some (byt b) := fun w' hb' => (HR.out.below hb').cells i _ (by rw [List.getElem?_map, hb]; rfl)
              have hcb := byte_cut hb
              have hb8 := b.toNat_lt
              simp only [byt] at hcell
              obtain ⟨yb, hyb⟩ : ∃ y, b.toNat = y := ⟨_, rfl⟩
              rw [hyb] at hcell hb8 hcb
              have HC := Lib.hid hcell
              have HCB := Lib.hid hcb
              clear hyb hb hcell hcb
              rw [hji]
              by_cases hl : j = N1
              · obtain rfl : e = ec := (HEC.out.1 hl).symm
                have hn2 : ((i : Int) == (N : Int) - 2) = true := by have := HN1.out; simp; omega
                have hgg : (e : Int) - 8 * (N1 : Int) = (gg : Int) := by have := HGE.out; omega
                have HJ := Lib.hid hl
                clear hl
                go_wp2_with fail
                refine (bleft_any HK.out.sp (by omega)).mono ?_
                rintro q w6 ⟨rfl, d6, hw⟩
                have K6 := Lib.hid (HK.out.eqd hw)
                clear hw HK
                go_wp2_with fail
                refine (btake_r K6.out.sp LE.out (by rw [HN.out]; omega) gg (by omega) (by have := HGE.out; omega) (gg : Int) rfl _ (8 * j) rfl (by have := HJ.out; have := HGE.out; omega)).mono ?_
                rintro q w7 ⟨rfl, hs, hg⟩
                have KX := Lib.hid (K6.out.step hs hg)
                clear hs hg K6 hn2 hgg
                go_wp2_with fail
                refine (btake_r KX.out.sp (by have := LE.out; have := HN1.out; have := HN.out; omega) (by rw [HN.out]; omega) 8 (by decide) (by omega) 8 rfl yb (8 * i) (by rw [show 8 * j - 8 = 8 * i by omega]; exact HCB.out) (by omega)).mono ?_
                rintro q wz ⟨rfl, hs, hg⟩
                have KZ := Lib.hid (KX.out.step hs hg)
                have hcz := HC.out wz KZ.out.bel
                clear hs hg
                go_wp2_with fail
                refine (took_yes _ (yb : Int) 0).mono ?_
                rintro q w5 ⟨rfl, rfl⟩
                clear hcz
                go_wp2_with fail
                exact ⟨⟨i, 8 * i, by omega, rfl, KZ, Lib.hid ⟨fun h => by omega, fun _ => rfl⟩⟩, by simp [intOf] <;> omega⟩
              · have hec : ec = 8 * j := HEC.out.2 (by omega)
                subst hec
                have KX := HK
                have hn2 : ((i : Int) == (N : Int) - 2) = false := by have := HN1.out; simp; omega
                clear HK hl
                go_wp2_with fail
                refine (btake_r KX.out.sp (by have := LE.out; have := HN1.out; have := HN.out; omega) (by rw [HN.out]; omega) 8 (by decide) (by omega) 8 rfl yb (8 * i) (by rw [show 8 * j - 8 = 8 * i by omega]; exact HCB.out) (by omega)).mono ?_
                rintro q wz ⟨rfl, hs, hg⟩
                have KZ := Lib.hid (KX.out.step hs hg)
                have hcz := HC.out wz KZ.out.bel
                clear hs hg
                go_wp2_with fail
                refine (took_yes _ (yb : Int) 0).mono ?_
                rintro q w5 ⟨rfl, rfl⟩
                clear hcz
                go_wp2_with fail
                exact ⟨⟨i, 8 * i, by omega, rfl, KZ, Lib.hid ⟨fun h => by omega, fun _ => rfl⟩⟩, by simp [intOf] <;> omega⟩



set_option maxRecDepth 100000 in
set_option maxHeartbeats 4000000 in
theorem walk_zero (A : Option Addr) (D F : List UInt8) (lb : UInt8) (N cap : Nat) (w : World) (hD : D = F ++ [lb]) (hN : D.length = N) (hN2 : N ≤ 60) (hR : Rd w A D) (hlb : lb.toNat = 0) (he : endOf D = none) :
    Calls Try.prog 9 #[.slice A N cap] w fun e w' => e = .returned (.bool true) ∧ Below w.heap.size w w' := by
  have HN := Lib.hid hN
  have HR := Lib.hid hR
  have hN0 : 0 < N := by rw [← hN, hD, List.length_append]; simp
  have O0 := Lib.hid (World.ownsRow_nil w w.heap.size 5 1)
  have hd : decide ((60 : Int) < (N : Int)) = false := decide_eq_false (by omega)
  have hdN : decide ((0 : Int) < (N : Int)) = true := decide_eq_true (by omega)
  obtain ⟨a0, rfl⟩ := Rv.some_of hR (by rw [hD]; simp)
  have hlast : w.cell? (a0.add (N - 1)) = some (.int .u8 (lb.toNat : Int)) := by
    have h1 : F.length = N - 1 := by rw [← hN, hD, List.length_append]; simp
    rw [← h1]
    exact last_cell (by rw [← hD]; exact hR)
  obtain ⟨N1, hN1⟩ : ∃ N1, N - 1 = N1 := ⟨_, rfl⟩
  rw [hN1] at hlast
  have hn1 : N1 < N := by omega
  have HN1 : Hid (N = N1 + 1) := Lib.hid (by omega)
  have hsub : (N : Int) - 1 = (N1 : Int) := by omega
  have HL := Lib.hid hlast
  obtain ⟨M, hM⟩ : ∃ M, 8 * N = M := ⟨_, rfl⟩
  have HM : Hid (M = 8 * D.length) := Lib.hid (by rw [hN]; exact hM.symm)
  have HE := Lib.hid he
  clear he
  clear hN hR hlast hD hN1
  go_enter Try.func9, Try.ntmps9
  go_wp2_with (at_builtin; refine wpList_append_vals Try.underlying22 byte_info rfl rfl _ _ rfl w.heap.size (.slice none 0 0) 0 [] rfl O0.out (some a0) (D.map byt) (byt_one D) N cap (by rw [List.length_map]; exact HN.out) rfl HR.out (by omega) (Nat.le_refl _) ?_; intro v1 w1 ho1 hg1 _; rw [Nat.zero_add, List.nil_append] at ho1; obtain ⟨A1, c1, rfl, _⟩ := own_form ho1; have B1 := Lib.hid ((Below.refl w.heap.size w).grown hg1 (Nat.le_refl _) (fun j ej => by cases ej)); have O1 := Lib.hid ho1; clear ho1 hg1)
  obtain ⟨g, hA1, hOB, hglt, hgge⟩ := own_of HN.out hN0 O1.out
  obtain ⟨ad, had⟩ : ∃ ad : Addr, ad = ⟨g, 0, none⟩ := ⟨_, rfl⟩
  rw [← had] at hA1
  subst hA1
  have HAD := Lib.hid had
  have W1 := Lib.hid hOB
  have GL := Lib.hid (And.intro hglt hgge)
  have R1 : Hid (Rd w1 (some ad) D) := Lib.hid (Rv.of_own O1.out)
  clear had hOB hglt hgge O1
  refine (newf_r _ _ D N c1 HN.out (by omega) R1.out M hM).mono ?_
  rintro q w2 ⟨x, rfl, Af, cf, h2⟩
  have F2 := Lib.hid (Rr.from B1.out h2)
  have R2 := Lib.hid (R1.out.below h2.bel)
  have W2 := Lib.hid (W1.out.below (h2.bel.block _ GL.out.1))
  have SG : Hid (Sep x Af g none) := Lib.hid ⟨by have := h2.ge; have := GL.out; omega, (fun ad e => by have := h2.row ad e; have := GL.out; omega), (fun ad e => by cases e)⟩
  have G2 : Hid (g < w2.heap.size) := Lib.hid (Nat.lt_of_lt_of_le GL.out.1 h2.bel.size)
  clear h2 R1 W1
  go_wp2_with fail
  refine (newb_n _ _ D N c1 HN.out (by omega) R2.out HE.out).mono ?_
  rintro q w3 ⟨rfl, rfl⟩
  have F3 := F2
  have W3 := W2
  clear F2 W2 R2
  have hl3 := F3.out.bel.cell (cell_lt HL.out)
  rw [HL.out] at hl3
  obtain ⟨yl, hyl⟩ : ∃ yl, lb.toNat = yl := ⟨_, rfl⟩
  rw [hyl] at hl3 hlb
  subst hlb
  have hlb2 : True := trivial
  go_wp2_with fail
  clear hl3 hlb2
  go_loopw [7] (fun t wr => ∃ i : Nat, i ≤ N ∧ t = .int .i64 (i : Int) ∧ Hid (OwnB wr g N) ∧ Hid (Rr w wr x 68 Af cf D 0 M)) (fun t _ => N - (intOf t).toNat)
  case atStart => exact ⟨0, by omega, rfl, W3, F3⟩
  case round =>
    obtain ⟨i, hi, rfl, HW, HF⟩ := hrel
    by_cases hlt : i < N
    · obtain ⟨b, hb⟩ := HW.out.cell hlt
      have hf := HW.out.free i
      rw [← HAD.out] at hb hf
      have hb8 := b.toNat_lt
      obtain ⟨yb, hyb⟩ : ∃ y, b.toNat = y := ⟨_, rfl⟩
      rw [hyb] at hb hb8
      have XB := Lib.hid (xor_byte hb8)
      have GS : ∀ v, wr.grownBy (wr.setCell (ad.add i) v) (some g) := fun v => by rw [HAD.out]; exact grown_store _ _ _ _
      have HGS := Lib.hid GS
      clear hyb GS
      go_wp2_with fail
      exact ⟨⟨i + 1, by omega, by simp, Lib.hid (by rw [HAD.out]; exact HW.out.store _ XB.out.1 XB.out.2), Lib.hid (HF.out.other SG.out GL.out.2 (HGS.out _))⟩, by simp [intOf]; omega⟩
    · have hie : N = i := by omega
      subst hie
      clear hlt hi HW
      go_wp2_with fail
      go_loopw [8] (fun t wr => ∃ i : Nat, i ≤ N ∧ t = .int .i64 (i : Int) ∧ Hid (Rr w wr x 68 Af cf D (8 * i) M)) (fun t _ => N - (intOf t).toNat)
      case atStart => exact ⟨0, by omega, rfl, HF⟩
      case round =>
        clear HF
        obtain ⟨i, hi, rfl, HF⟩ := hrel
        by_cases hlt : i < N
        · obtain ⟨b, hb⟩ : ∃ b, D[i]? = some b := ⟨_, List.getElem?_eq_getElem (by rw [HN.out]; exact hlt)⟩
          have hcell : ∀ w', Below w.heap.size w w' → w'.cell? (a0.add i) = some (byt b) := fun w' hb' => (HR.out.below hb').cells i _ (by rw [List.getElem?_map, hb]; rfl)
          have TK := Lib.hid (ftake_r HF.out.sp (Nat.le_of_eq HM.out) (by rw [HN.out]; omega) 8 (by decide) (by omega) 8 rfl b.toNat (8 * (i + 1)) (byte_cut hb) (by omega))
          have hb8 := b.toNat_lt
          simp only [byt] at hcell
          obtain ⟨yb, hyb⟩ : ∃ y, b.toNat = y := ⟨_, rfl⟩
          rw [hyb] at hcell hb8 TK
          have HC := Lib.hid hcell
          clear hyb hb hcell
          go_wp2_with fail
          refine TK.out.mono ?_
          rintro q w4 ⟨rfl, hs, hg⟩
          have F4 := Lib.hid (HF.out.step hs hg)

          have hc4 := HC.out w4 F4.out.bel
          clear hs hg TK HC
          go_wp2_with fail
          refine (took_yes _ (yb : Int) 0).mono ?_
          rintro q w5 ⟨rfl, rfl⟩
          clear hc4
          go_wp2_with fail
          exact ⟨⟨i + 1, by omega, by simp, F4⟩, by simp [intOf]; omega⟩
        · have hie : N = i := by omega
          subst hie
          clear hlt hi
          go_wp2_with fail
          go_loopw [11] (fun t wr => t = .int .i64 ((N : Int) - 2) ∧ Hid (Below w.heap.size w wr)) (fun _ _ => 0)
          case atStart => exact ⟨rfl, Lib.hid HF.out.bel⟩
          case round =>
            obtain ⟨rfl, HB0⟩ := hrel
            by_cases h2 : 2 ≤ N
            · go_wp2_with fail
              refine (known_any _).mono ?_
              rintro q wk ⟨rfl, hb⟩
              have HB := Lib.hid (below_on HB0.out (Nat.le_refl _) hb)
              clear hb
              go_wp2
              go_ret
              exact ⟨rfl, HB.out⟩
            · go_wp2_with fail
              refine (known_any _).mono ?_
              rintro q wk ⟨rfl, hb⟩
              have HB := Lib.hid (below_on HB0.out (Nat.le_refl _) hb)
              clear hb
              go_wp2
              go_ret
              exact ⟨rfl, HB.out⟩



set_option maxRecDepth 100000 in
set_option maxHeartbeats 4000000 in
theorem walk_nil (A : Option Addr) (cap : Nat) (w : World) :
    Calls Try.prog 9 #[.slice A 0 cap] w fun e w' => e = .returned (.bool true) ∧ Below w.heap.size w w' := by
  have O0 := Lib.hid (World.ownsRow_nil w w.heap.size 5 1)
  go_enter Try.func9, Try.ntmps9
  go_wp2_with (at_builtin; refine wpList_append_vals Try.underlying22 byte_info rfl rfl _ _ rfl w.heap.size (.slice none 0 0) 0 [] rfl O0.out A [] (by simp) 0 cap rfl rfl (Rv.nil _ _) (by omega) (Nat.le_refl _) ?_; intro v1 w1 ho1 hg1 _; obtain ⟨A1, c1, rfl, _⟩ := own_form ho1; have B1 := Lib.hid ((Below.refl w.heap.size w).grown hg1 (Nat.le_refl _) (fun j ej => by cases ej)); clear ho1 hg1)
  refine (newf_r _ _ [] 0 c1 rfl (by omega) (Rv.nil _ _) 0 rfl).mono ?_
  rintro q w2 ⟨x, rfl, Af, cf, h2⟩
  have F2 := Lib.hid (Rr.from B1.out h2).bel
  clear h2
  go_wp2_with fail
  refine (newb_none _ _ _).mono ?_
  rintro q w3 ⟨rfl, rfl⟩
  go_wp2_with fail
  refine wp_loop_rounds 1 ?_
  rw [rounds_succ]
  go_wp2_with fail
  refine wp_loop_rounds 1 ?_
  rw [rounds_succ]
  go_wp2_with fail
  refine wp_loop_rounds 1 ?_
  rw [rounds_succ]
  go_wp2_with fail
  refine (known_any _).mono ?_
  rintro q wk ⟨rfl, hb⟩
  have HB := Lib.hid (below_on F2.out (Nat.le_refl _) hb)
  clear hb
  go_wp2
  go_ret
  exact ⟨rfl, HB.out⟩

set_option maxHeartbeats 1000000 in
theorem walk_big (A : Option Addr) (N cap : Nat) (w : World) (hN : 60 < N) :
    Calls Try.prog 9 #[.slice A N cap] w fun e w' => e = .returned (.bool true) ∧ Below w.heap.size w w' := by
  have hd : decide ((60 : Int) < (N : Int)) = true := decide_eq_true (by omega)
  go_enter Try.func9, Try.ntmps9
  go_wp2_with fail
  refine (known_any _).mono ?_
  rintro e w1 ⟨rfl, hb1⟩
  have HB1 := Lib.hid hb1
  clear hb1
  go_wp2
  go_ret
  exact ⟨rfl, HB1.out⟩

theorem walk (A : Option Addr) (D : List UInt8) (cap : Nat) (w : World) (hR : Rd w A D) (_hs : D.length ≤ 140737488351232) (_hc : D.length ≤ cap) :
    Calls Try.prog 9 #[.slice A D.length cap] w fun e w' => e = .returned (.bool true) ∧ Below w.heap.size w w' := by
  by_cases h0 : 60 < D.length
  · exact walk_big A _ cap w h0
  rcases hl : D.getLast? with _ | lb
  · have hD : D = [] := List.getLast?_eq_none_iff.1 hl
    subst hD
    exact walk_nil A cap w
  · obtain ⟨F, hF⟩ := List.getLast?_eq_some_iff.1 hl
    by_cases hlb : lb.toNat = 0
    · exact walk_zero A D F lb _ cap w hF rfl (by omega) hR hlb (by simp [endOf, hl, hlb])
    · exact walk_some A D F lb _ cap w hF rfl (by omega) hR hlb _ lb.toNat.log2 (by simp [endOf, hl, hlb]) rfl ((Nat.log2_lt hlb).2 lb.toNat_lt)

set_option maxRecDepth 100000 in
theorem lifted (os : Os) (started : os.Started) (H : Type) (enc : TypeId × Value → H) :
    ReturnsInHanded {} Try.checked os 9 .any (Rows.bitinOwnSpec.pre6 enc Try.prog Try.f9 Rows.bitinOwnRow.domain false) (Rows.bitinOwnSpec.post enc Try.prog Try.f9 false true false false) := by
  refine returnsInHanded_of_change_sized (C := Try.checked) ownB started (by kernel_rfl) Try.func9
    (ChangeSpec.witness6 (enc := enc) (C := Try.checked) false ⟨#[], #[.slice none 0 0], []⟩ 8 (by kernel_rfl) (by kernel_rfl) (by kernel_rfl) (by kernel_rfl)) ?_
  intro W base args ds gs before hval0 hW _ hsz0 _
  have hsz : (DataW.weightsEach Try.prog (Try.f9.params.toList ++ Rows.bitinOwnSpec.plain.varTypes Try.prog) (ds ++ gs)).all (· ≤ reachBytes) = true := hsz0
  clear hsz0
  have hval : ∀ (j : Nat) t v, Try.f9.params[j]? = some t → args[j]? = some v → Value.okWide Try.prog W .any base t v := hval0
  have hW' := hW
  obtain ⟨p, q, hA0, hV, rfl, hfz, hnd⟩ := hW
  have hA : DataW.TrodAll enc Try.prog W 0 (fun _ => true) true Try.f9.params.toList args.toList ds p := hA0
  rw [Try.params9] at hA hval hsz
  obtain ⟨v0, vs0, d0, ds0, p0, q0, hargs, rfl, rfl, h0, r0⟩ := trodAll_cons hA
  obtain ⟨rfl, rfl, rfl⟩ := trodAll_nil r0
  obtain rfl : args = #[v0] := by cases args; simp_all
  obtain ⟨rfl, rfl⟩ := trodVars_none hV
  obtain ⟨a0, len0, cap0, rfl⟩ := okWide_slice Try.underlying22 (hval 0 22 v0 rfl rfl)
  have k0 := h0
  have lt0 : ∀ x ∈ p0, x.block < W.heap.size := by obtain ⟨m, hm⟩ := k0; exact DataW.trod_lt m _ _ _ hm
  obtain ⟨l0, rfl, hc0, rd0, hd0⟩ := open_bytes h0
  have hs0 : l0.length ≤ 140737488351232 := by
    rcases hd0 with ⟨h, _⟩ | ⟨es, sp, rfl, h⟩
    · omega
    · have := sized_slice hsz (j := 0) (t := 22) (e := 5) rfl rfl Try.underlying22
      rw [bytes_byte] at this
      simp only [reachBytes] at this
      omega
  clear hA0 hval0
  refine (walk a0 l0 cap0 W rd0 hs0 hc0).mono fun e W' ⟨he, bel⟩ => ?_
  subst he
  exact ⟨_, rfl, _, _, _, [], _, [], hW', trodAll_mk1 (shut_bool Try.underlying4 _), (trodAll_cons_mk (Below.trod laidOut (by kernel_rfl) (of_decide_eq_true (by kernel_rfl)) k0 bel lt0) trodAll_mk0), rfl, bel.frame _, fun h => by cases h⟩

theorem proved : Rows.BitinOwnSaid :=
  OpenClaim.holds_of_wide 9 Try.f9 rfl rfl rfl rfl rfl rfl rfl ⟨rfl, rfl, rfl, rfl, rfl⟩ rfl rfl rfl rfl rfl (by kernel_rfl) Try.func9 (by kernel_rfl)
    (of_decide_eq_true (by kernel_rfl)) (by unfold Func.isWrapper; rw [if_neg (by decide +kernel)]; exact ⟨rfl, rfl⟩)
    (fun os started H enc _ => lifted os started H enc)

#print axioms proved

end Go.Proofs.Ytckboifdkagacaa.bitinOwn
