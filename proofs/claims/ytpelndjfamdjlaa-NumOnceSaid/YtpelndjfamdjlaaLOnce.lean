/-
  Proved: the law NumOnce returns true for all bytes: bytes that decode as a varint are the encoding of its value, and a longer encoding of the same value is rejected. No condition.
-/
import Derived.Test.YtpelndjfamdjlaaAid
import Derived.Test.YtpelndjfamdjlaaVi3
import Derived.Test.YtpelndjfamdjlaaFrm
namespace Go.Proofs.Ytpelndjfamdjlaa.numOnce
open Go.ChangeShapes Go.WideShapes Go.ChangeAt Go.RowKit

theorem set_last (P : List UInt8) (b c : UInt8) : ((P ++ [b]).map byt).set P.length (byt c) = (P ++ [c]).map byt := by simp

set_option maxRecDepth 100000 in
set_option maxHeartbeats 4000000 in
theorem walk (A : Option Addr) (l : List UInt8) (cap : Nat) (w : World) (hR : Rd w A l) (hs : l.length ≤ 140737488351232) (hc : l.length ≤ cap) :
    Calls Try.prog 8 #[.slice A l.length cap] w fun e w' => e = .returned (.bool true) ∧ Below w.heap.size w w' := by
  have HN := Lib.hid (new_any w A l cap (by omega) hR)
  have HR := Lib.hid hR
  have HG := Lib.hid (vi_gv l)
  clear hR
  obtain ⟨r, hr⟩ : ∃ r, gv l = r := ⟨_, rfl⟩
  rw [hr] at HG
  have HRR := Lib.hid hr
  clear hr
  go_enter Try.func8, Try.ntmps8
  go_wp2_with fail
  refine HN.out.mono ?_
  rintro e w1 ⟨c, A1, cap1, rfl, hcw, hcur, hb1⟩
  have HV := Lib.hid (varint_any hcur)
  rw [List.drop_zero, HRR.out] at HV
  have HB1 := Lib.hid hb1
  have HCW := Lib.hid hcw
  clear hcw hcur hb1
  go_wp2_with fail
  refine HV.out.mono ?_
  rintro e w2 ⟨rfl, hcur, hg⟩
  have HB2 := Lib.hid (HB1.out.grown hg HB1.out.size (fun j ej => by cases ej; exact HCW.out))
  have HC2 := Lib.hid hcur
  clear hg hcur HB1 HCW
  by_cases he : r.err = 0
  · have hE := HG.out he
    have he0 : ((r.err : Int) != 0) = false := by rw [he]; rfl
    obtain ⟨hv, hlen, htake, hle⟩ := hE
    have hcu := HC2.out
    rw [if_pos (by omega), Nat.zero_add, hlen] at hcu
    have PV := Lib.hid (fun W => putVarint_any W none [] 0 (r.val : Int) (by omega) (by omega) (by simp) (Rd.nil _ _))
    have SV := Lib.hid (fun W => size_any W (r.val : Int) (by omega) (by omega))
    rw [Int.toNat_natCast] at PV SV
    rw [List.nil_append] at PV
    have hpos := vi_pos r.val
    have hl10 := vi_len r.val
    have PAD := Lib.hid (gv_padded r.val hv)
    rw [hlen] at hle htake
    obtain ⟨X, hX⟩ : ∃ X, vi r.val = X := ⟨_, rfl⟩
    rw [hX] at PV SV hpos hl10 PAD hle htake hcu
    obtain ⟨m, hm⟩ : ∃ m, X.length = m + 1 := ⟨X.length - 1, by omega⟩
    have hXl : X = X.take m ++ [X[m]'(by omega)] := by
      rw [← List.take_succ_eq_append_getElem (by omega), List.take_of_length_le (by omega)]
    obtain ⟨b, hb⟩ : ∃ b, X[m]'(by omega) = b := ⟨_, rfl⟩
    rw [hb] at hXl
    rw [hm] at hle htake hcu SV hl10
    have HC := Lib.hid hcu
    have HT := Lib.hid htake
    have HXL := Lib.hid hXl
    have HM := Lib.hid hm
    clear hcu HC2 he hv hlen HG hpos htake hXl hX hb hm HV HN HRR
    go_wp2_with fail
    refine (PV.out _).mono ?_
    rintro e w3 ⟨v3, rfl, A3, c3, rfl, ho3, hb3⟩
    rw [HM.out] at ho3 ⊢
    have HO3 := Lib.hid ho3
    have HB3 := Lib.hid hb3
    have HC3 := Lib.hid (HC.out.below hb3)
    clear ho3 hb3 HC
    have z0 : (((m : Int) + 1) == 0) = false := by rw [beq_eq_false_iff_ne]; omega
    have z1 : (((m + 1 : Nat) : Int) != (m : Int) + 1) = false := by simp
    have z2 : decide (l.length < m + 1) = false := by simp; omega
    have z3 : m + 1 ≤ cap := by omega
    go_wp2_with fail
    refine (at_any HC3.out.blk).mono ?_
    rintro e w4 ⟨rfl, rfl⟩
    go_wp2_with fail
    have hb03 := below_on HB2.out (Nat.le_refl _) HB3.out
    have hRX : Rd w3 A3 X := by
      have := HO3.out
      rw [← HM.out] at this
      exact Rd.of_own this
    refine (same_n _ _ _ X (l.take (m + 1)) _ _ HM.out (by rw [List.length_take, Nat.min_eq_left hle]) _ _ hRX ((HR.out.below hb03).take _) HT.out).mono ?_
    rintro e w4 ⟨rfl, rfl⟩
    have HB03 := Lib.hid hb03
    clear hb03 hRX
    go_wp2_with fail
    refine (SV.out _).mono ?_
    rintro e w4 ⟨rfl, hb4⟩
    have HB4 := Lib.hid (below_on HB03.out (Nat.le_refl _) hb4)
    have HO4 := Lib.hid (own_below HO3.out hb4)
    have HZ4 := Lib.hid (Nat.le_trans HB3.out.size hb4.size)
    have B24 := Lib.hid (below_on HB3.out (Nat.le_refl _) hb4)
    clear hb4 HB03 HO3 HB3
    by_cases h9 : (m : Int) + 1 < 9
    · have hg : ∃ g, A3 = some ⟨g, 0, none⟩ := by
        rcases HO4.out.2 with ⟨h, _⟩ | ⟨g, _, _, h, _⟩
        · cases h
        · injection h with h; exact ⟨g, h⟩
      obtain ⟨g, rfl⟩ := hg
      have hPl : (X.take m).length = m := by rw [List.length_take, Nat.min_eq_left (by have := HM.out; omega)]
      have hcell : w4.cell? ⟨g, m, none⟩ = some (byt b) := by
        rw [HO4.out.cellAt m (by omega), List.getElem?_map, HXL.out, List.getElem?_append_right (by omega), hPl]
        simp
      obtain ⟨cb, hcb⟩ : ∃ cb : UInt8, UInt8.ofNat (b.toNat % 128 + 128) = cb := ⟨_, rfl⟩
      have hor : bits BinOp.or IntKind.u8 (b.toNat : Int) 128 = (cb.toNat : Int) := by
        have h1 := or_high b.toNat
        rw [hcb, Int.emod_eq_of_lt (by omega) (byt_lt b)] at h1
        exact h1
      have hcb2 : 128 ≤ cb.toNat := by rw [← hcb, byte_high]; omega
      have hst := HO4.out.stored m (byt cb)
      have HST := Lib.hid hst
      have HPL := Lib.hid hPl
      clear hst hPl hcb
      have hfz : w4.frozen? ⟨g, m, none⟩ = false := HO4.out.frozenAt m
      have hbl := b.toNat_lt
      have hrd0 : Rd ((w4.setCell ⟨g, m, none⟩ (byt cb)).alloc (.cells #[.int .u8 0] 5)) (some ⟨w4.heap.size, 0, none⟩) [0] := by
        have := lit_rd (w4.setCell ⟨g, m, none⟩ (byt cb)) [0] #[.int .u8 0] rfl (by simp)
        rw [show (w4.setCell ⟨g, m, none⟩ (byt cb)).heap.size = w4.heap.size by simp [World.setCell]] at this
        exact this
      have hbase : w2.heap.size ≤ ((w4.setCell ⟨g, m, none⟩ (byt cb)).alloc (.cells #[.int .u8 0] 5)).heap.size := by
        have := HZ4.out
        simp; omega
      have ho5 := HST.out.1.alloc (.cells #[.int .u8 0] 5)
      have HO5 := Lib.hid ho5
      have HRD0 := Lib.hid hrd0
      have HBASE := Lib.hid hbase
      clear z0 z1 z2 z3 ho5 hrd0 hbase
      go_wp2_with (at_builtin; go_must (refine wpList_append_bytesW rfl _ _ rfl _ _ _ _ rfl HO5.out _ [0] 1 _ rfl rfl HRD0.out (by omega) HBASE.out ?_); intro v5 w5 ho6 hg6; obtain ⟨A5, c5, rfl⟩ := own_form ho6)
      have hg2 : w2.heap.size ≤ g := (HO4.out.lt g rfl).1
      have b25 : Below w2.heap.size w2 w5 := by
        have h1 := (B24.out.setCell (p := ⟨g, m, none⟩) hg2 (byt cb)).alloc (by have := HZ4.out; simp [World.setCell]; omega) (.cells #[.int .u8 0] 5)
        exact h1.grown hg6 HBASE.out (fun j ej => by cases ej; exact hg2)
      have hset : (X.map byt).set m (byt cb) ++ [0].map byt = (X.take m ++ [cb] ++ [0]).map byt := by
        have e := set_last (X.take m) b cb
        rw [HPL.out, ← HXL.out] at e
        rw [e, ← List.map_append]
      rw [hset] at ho6
      have hl6 : (X.take m ++ [cb] ++ [0]).length = m + 1 + 1 := by simp [HPL.out]
      rw [← hl6] at ho6
      have hrd6 : Rd w5 A5 (X.take m ++ [cb] ++ [0]) := Rd.of_own ho6
      have HE := Lib.hid (PAD.out (by have := HM.out; omega) (X.take m) b HXL.out cb hcb2)
      have HB5 := Lib.hid (below_on HB2.out (Nat.le_refl _) b25)
      have NW := Lib.hid (new_n w5 A5 _ (m + 1 + 1) c5 hl6 (by omega) hrd6)
      clear ho6 hg6 hset hl6 hrd6 b25 hg2 HST HO4 HO5 HRD0 HBASE hor hcell hfz hcb2
      refine NW.out.mono ?_
      rintro e w6 ⟨c6, A6, cap6, rfl, hcw6, hcur6, hb6⟩
      have HV6 := Lib.hid (varint_any hcur6)
      rw [List.drop_zero] at HV6
      have HB6 := Lib.hid (below_on HB5.out (Nat.le_refl _) hb6)
      have HCW6 := Lib.hid (Nat.le_trans HB5.out.size hcw6)
      clear hcw6 hcur6 hb6 HB5
      go_wp2_with fail
      refine HV6.out.mono ?_
      rintro e w7 ⟨rfl, _, hg7⟩
      rw [HE.out]
      have HB7 := Lib.hid (HB6.out.grown hg7 HB6.out.size (fun j ej => by cases ej; exact HCW6.out))
      clear hg7 HB6 HCW6 HV6
      go_wp2_with fail
      refine (known_any _).mono ?_
      rintro e w8 ⟨rfl, hb8⟩
      have HB8 := Lib.hid (below_on HB7.out (Nat.le_refl _) hb8)
      clear hb8 HB7
      go_wp2
      go_ret
      exact ⟨rfl, HB8.out⟩
    · go_wp2_with fail
      refine (known_any _).mono ?_
      rintro e w8 ⟨rfl, hb8⟩
      have HB8 := Lib.hid (below_on HB4.out (Nat.le_refl _) hb8)
      clear hb8 HB4
      go_wp2
      go_ret
      exact ⟨rfl, HB8.out⟩
  · have he0 : ((r.err : Int) != 0) = true := by rw [bne_iff_ne]; omega
    have hcu := HC2.out
    rw [if_neg (by omega)] at hcu
    have HC := Lib.hid hcu
    clear hcu HC2 he
    go_wp2_with fail
    refine (at_any HC.out.blk).mono ?_
    rintro e w3 ⟨rfl, rfl⟩
    go_wp2_with fail
    refine (known_any _).mono ?_
    rintro e w4 ⟨rfl, hb4⟩
    have HB4 := Lib.hid (below_on HB2.out (Nat.le_refl _) hb4)
    clear hb4 HB2
    go_wp2
    go_ret
    exact ⟨rfl, HB4.out⟩

set_option maxRecDepth 100000 in
theorem lifted (os : Os) (started : os.Started) (H : Type) (enc : TypeId × Value → H) :
    ReturnsInHanded {} Try.checked os 8 .any (Rows.numOnceSpec.pre6 enc Try.prog Try.f8 Rows.numOnceRow.domain false) (Rows.numOnceSpec.post enc Try.prog Try.f8 false true false false) := by
  refine returnsInHanded_of_change_sized (C := Try.checked) ownB started (by kernel_rfl) Try.func8
    (ChangeSpec.witness6 (enc := enc) (C := Try.checked) false ⟨#[], #[.slice none 0 0], []⟩ 8 (by kernel_rfl) (by kernel_rfl) (by kernel_rfl) (by kernel_rfl)) ?_
  intro W base args ds gs before hval0 hW _ hsz0 _
  have hsz : (DataW.weightsEach Try.prog (Try.f8.params.toList ++ Rows.numOnceSpec.plain.varTypes Try.prog) (ds ++ gs)).all (· ≤ reachBytes) = true := hsz0
  clear hsz0
  have hval : ∀ (j : Nat) t v, Try.f8.params[j]? = some t → args[j]? = some v → Value.okWide Try.prog W .any base t v := hval0
  have hW' := hW
  obtain ⟨p, q, hA0, hV, rfl, hfz, hnd⟩ := hW
  have hA : DataW.TrodAll enc Try.prog W 0 (fun _ => true) true Try.f8.params.toList args.toList ds p := hA0
  rw [Try.params8] at hA hval hsz
  obtain ⟨v0, vs0, d0, ds0, p0, q0, hargs, rfl, rfl, h0, r0⟩ := trodAll_cons hA
  obtain ⟨rfl, rfl, rfl⟩ := trodAll_nil r0
  obtain rfl : args = #[v0] := by cases args; simp_all
  obtain ⟨rfl, rfl⟩ := trodVars_none hV
  obtain ⟨a0, len0, cap0, rfl⟩ := okWide_slice Try.underlying22 (hval 0 22 v0 rfl rfl)
  have k0 := h0
  have lt0 : ∀ x ∈ p0, x.block < W.heap.size := by obtain ⟨m, hm⟩ := k0; exact DataW.trod_lt m _ _ _ hm
  obtain ⟨l0, rfl, hc0, rd0, hd0⟩ := open_bytes h0
  have hs0 : l0.length ≤ 140737488351232 := by
    rcases hd0 with ⟨h, _⟩ | ⟨es, sp, rfl, h⟩
    · omega
    · have := sized_slice hsz (j := 0) (t := 22) (e := 5) rfl rfl Try.underlying22
      rw [bytes_byte] at this
      simp only [reachBytes] at this
      omega
  clear hA0 hval0
  refine (walk a0 l0 cap0 W rd0 hs0 hc0).mono fun e W' ⟨he, bel⟩ => ?_
  subst he
  exact ⟨_, rfl, _, _, _, [], _, [], hW', trodAll_mk1 (shut_bool Try.underlying4 _), (trodAll_cons_mk (Below.trod laidOut (by kernel_rfl) (of_decide_eq_true (by kernel_rfl)) k0 bel lt0) trodAll_mk0), rfl, bel.frame _, fun h => by cases h⟩

theorem proved : Rows.NumOnceSaid :=
  OpenClaim.holds_of_wide 8 Try.f8 rfl rfl rfl rfl rfl rfl rfl ⟨rfl, rfl, rfl, rfl, rfl⟩ rfl rfl rfl rfl rfl (by kernel_rfl) Try.func8 (by kernel_rfl)
    (of_decide_eq_true (by kernel_rfl)) (by unfold Func.isWrapper; rw [if_neg (by decide +kernel)]; exact ⟨rfl, rfl⟩)
    (fun os started H enc _ => lifted os started H enc)

#print axioms proved
end Go.Proofs.Ytpelndjfamdjlaa.numOnce
