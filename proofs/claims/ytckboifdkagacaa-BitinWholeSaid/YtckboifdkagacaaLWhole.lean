/-
  Proved: the law BitinWhole returns true for all sequences of calls and all bytes behind them: Align moves to the next byte boundary and returns its byte index if the skipped bits are 0, and returns ErrBits and skips nothing if one of them is 1. No condition.
-/
import Derived.Test.YtckboifdkagacaaStm
namespace Go.Proofs.Ytckboifdkagacaa.bitinWhole
open Go.ChangeShapes Go.WideShapes Go.ChangeAt Go.RowKit

theorem put1 {w : World} {x : Nat} {v : Value} {l : List Bool} (h : Wr w x v l) (hs : l.length ≤ 1099511627776) :
    Calls Try.prog 28 #[.pointer (some ⟨x, 0, none⟩), .int .u64 1, .int .i64 1] w (PutPost w x v (l ++ [true])) := putc_yes h hs 1 1 (by decide +kernel)

theorem byte_cut {D : List UInt8} {i : Nat} {b : UInt8} (h : D[i]? = some b) : cut D (8 * i) 8 = b.toNat := by
  have := cut_byte (s := 0) (m := 8) h (by omega)
  rw [Nat.add_zero, Nat.pow_zero, Nat.div_one, Nat.mod_eq_of_lt b.toNat_lt] at this
  exact this

theorem cut_bad {D : List UInt8} {l r : List Bool} {m : Nat} (h : unp D = l ++ (true :: r)) (hm : 0 < m) : cut D l.length m ≠ 0 := by
  obtain ⟨k, rfl⟩ : ∃ k, m = k + 1 := ⟨m - 1, by omega⟩
  rw [cut, h, List.drop_left, List.take_succ_cons, val]
  simp
theorem cut_pad' {D : List UInt8} {l r : List Bool} {z m : Nat} (h : unp D = l ++ (List.replicate z false ++ r)) (hm : m = z) : cut D l.length m = 0 := by
  subst hm
  rw [cut, h, List.drop_left, List.take_append, List.length_replicate, Nat.sub_self, List.take_zero, List.append_nil, List.take_of_length_le (by simp), val_noughts]


set_option maxHeartbeats 1000000 in
theorem walk_a (A : Option Addr) (N cap : Nat) (B : Option Addr) (NM cb : Nat) (bad : Bool) (w : World) (hN : 60 < N) :
    Calls Try.prog 8 #[.slice A N cap, .slice B NM cb, .bool bad] w fun e w' => e = .returned (.bool true) ∧ Below w.heap.size w w' := by
  have hd : decide ((60 : Int) < (N : Int)) = true := decide_eq_true (by omega)
  go_enter Try.func8, Try.ntmps8
  go_wp2_with fail
  refine (known_any _).mono ?_
  rintro e w1 ⟨rfl, hb1⟩
  have HB1 := Lib.hid hb1
  clear hb1
  go_wp2
  go_ret
  exact ⟨rfl, HB1.out⟩


set_option maxHeartbeats 1000000 in
theorem walk_b (A : Option Addr) (N cap : Nat) (B : Option Addr) (NM cb : Nat) (bad : Bool) (w : World) (hN : N ≤ 60) (hM : 60 < NM) :
    Calls Try.prog 8 #[.slice A N cap, .slice B NM cb, .bool bad] w fun e w' => e = .returned (.bool true) ∧ Below w.heap.size w w' := by
  have hd : decide ((60 : Int) < (N : Int)) = false := decide_eq_false (by omega)
  have hd1 : decide ((60 : Int) < (NM : Int)) = true := decide_eq_true (by omega)
  go_enter Try.func8, Try.ntmps8
  go_wp2_with fail
  refine (known_any _).mono ?_
  rintro e w1 ⟨rfl, hb1⟩
  have HB1 := Lib.hid hb1
  clear hb1
  go_wp2
  go_ret
  exact ⟨rfl, HB1.out⟩


set_option maxRecDepth 100000 in
set_option maxHeartbeats 16000000 in
theorem walk_small (A : Option Addr) (ls : List (Nat × Int)) (N cap : Nat) (B : Option Addr) (more : List UInt8) (NM cb : Nat) (bad : Bool) (w : World) (hN : ls.length = N) (hN2 : N ≤ 60) (hR : RdP w A ls) (hW : WfP ls) (hNM : more.length = NM) (hNM2 : NM ≤ 60) (hRM : Rd w B more) :
    Calls Try.prog 8 #[.slice A N cap, .slice B NM cb, .bool bad] w fun e w' => e = .returned (.bool true) ∧ Below w.heap.size w w' := by
  have A0 := Lib.hid (At.new w w (Below.refl _ _))
  have HN := Lib.hid hN
  have HR := Lib.hid hR
  have HW := Lib.hid hW
  have HNM := Lib.hid hNM
  have HRM := Lib.hid hRM
  have hd : decide ((60 : Int) < (N : Int)) = false := decide_eq_false (by omega)
  have hdm : decide ((60 : Int) < (NM : Int)) = false := decide_eq_false (by omega)
  clear hN hR hW hNM hRM
  go_enter Try.func8, Try.ntmps8
  go_wp2_with fail
  go_loopw [8] (fun b wr => ∃ (i : Nat) (v : Value), i ≤ N ∧ b = .int .i64 (i : Int) ∧ Hid (At w wr w.heap.size v (allB (ls.take i))) ∧ Hid (∀ (j q : Nat) (z : Int), j < i → ls[j]? = some (q, z) → may q z = true)) (fun b _ => N - (intOf b).toNat)
  case atStart => exact ⟨0, _, by omega, rfl, A0, Lib.hid (fun j q z h => by omega)⟩
  case round =>
    clear A0
    obtain ⟨i, v, hi, rfl, HT, HV⟩ := hrel
    by_cases hlt : i < N
    · obtain ⟨⟨q, z⟩, hqz⟩ : ∃ y, ls[i]? = some y := ⟨_, List.getElem?_eq_getElem (by rw [HN.out]; exact hlt)⟩
      have hRd : ∀ w', Below w.heap.size w w' → RdP w' A ls := fun w' hb => HR.out.below hb
      obtain ⟨aL, haL, _, _⟩ := HR.out i q z hqz
      subst haL
      have cl0 : ∀ w', Below w.heap.size w w' → w'.cell? (aL.add (i * 2)) = some (.int .u64 (q : Int)) := fun w' hb => by
        obtain ⟨a', e, h0, _⟩ := hRd w' hb i q z hqz
        cases e
        exact h0
      have cl1 : ∀ w', Below w.heap.size w w' → w'.cell? { block := (aL.add (i * 2)).block, off := (aL.add (i * 2)).off + 1 } = some (.int .i64 z) := fun w' hb => by
        obtain ⟨a', e, _, h1⟩ := hRd w' hb i q z hqz
        cases e
        rw [← addr_add_add] at h1
        exact h1
      have HC0 := Lib.hid cl0
      have HC1 := Lib.hid cl1
      clear hRd cl0 cl1
      have HQZ := Lib.hid hqz
      have e0 := HC0.out wr HT.out.bel
      have e2 := HC1.out wr HT.out.bel
      have HL : Hid ((allB (ls.take i)).length ≤ 1099511627776) := Lib.hid (by have h1 := allB_len (ls.take i); rw [List.length_take] at h1; omega)
      clear hqz HC0 HC1
      by_cases hmy : may q z = true
      · have PT := Lib.hid (fun d => putc_yes (HT.out.wr.drewN d) HL.out q z hmy)
        have HMY := Lib.hid hmy
        clear hmy
        go_wp2_with fail
        go_region_law (first
          | (go_simp; go_at_call 28; refine (PT.out _).mono ?_; rintro e w4 ⟨rfl, v4, hw4, hc4, hn4⟩; have W4 := Lib.hid hw4; have C4 := Lib.hid hc4; have N4 := Lib.hid hn4; clear hw4 hc4 hn4))
        all_goals (go_wp2_with fail; exact ⟨⟨i + 1, v4, by omega, by simp, Lib.hid (by rw [allB_take HQZ.out, HMY.out, if_pos rfl]; exact HT.out.chg W4.out C4.out.of_drewN N4.out), Lib.hid (fun j q' z' hj hjq => by
            by_cases hji : j = i
            · subst hji
              rw [HQZ.out] at hjq
              cases hjq
              exact HMY.out
            · exact HV.out j q' z' (by omega) hjq)⟩, by simp [intOf]; omega⟩)
      · have hmy' : may q z = false := by simpa using hmy
        have PT := Lib.hid (fun W => putc_no (w := W) (x := w.heap.size) q z hmy')
        clear hmy hmy'
        go_wp2_with fail
        go_region_law (first
          | (go_simp; go_at_call 28; refine (PT.out _).mono ?_; rintro e w4 ⟨rfl, rfl⟩))
        all_goals
          go_wp2_with fail
          refine (known_any _).mono ?_
          rintro q wk ⟨rfl, hb⟩
          have HB := Lib.hid (below_on (HT.out.dr _).bel (Nat.le_refl _) hb)
          clear hb
          go_wp2
          go_ret
          exact ⟨rfl, HB.out⟩
    · have hie : N = i := by omega
      subst hie
      have et : ls.take N = ls := List.take_of_length_le (by rw [HN.out]; exact Nat.le_refl _)
      rw [et] at HT
      clear hlt hi et
      obtain ⟨L, hL⟩ : ∃ L, allB ls = L := ⟨_, rfl⟩
      rw [hL] at HT
      have hLs : L.length ≤ 3840 := by have := allB_len ls; rw [hL, HN.out] at this; omega
      obtain ⟨ML, hML⟩ : ∃ n, L.length = n := ⟨_, rfl⟩
      rw [hML] at hLs
      have HML := Lib.hid hML
      have HLL := Lib.hid hL
      clear hL hML
      cases bad with
      | false =>
        skip
        go_wp2_with fail
        refine (len_any HT.out.wr (by rw [HML.out]; omega)).mono ?_
        rintro q w1 ⟨rfl, d1, hw⟩
        rw [HML.out]
        have HT1 := Lib.hid (HT.out.eqd hw)
        clear hw HT
        have HT := HT1
        clear HT1
        obtain ⟨LL, hLE⟩ : ∃ LL, LL = L := ⟨_, rfl⟩
        have HLE := Lib.hid hLE
        have HLLM : Hid (LL.length = ML) := Lib.hid (by rw [hLE]; exact HML.out)
        have HLLs : Hid (LL.length ≤ 1099511627776) := Lib.hid (by rw [HLLM.out]; omega)
        rw [← hLE] at HT
        clear hLE
        go_wp2_with fail
        obtain ⟨zp, hz1, hz2, hz8⟩ := unp_pack LL
        obtain ⟨P, hP⟩ : ∃ P, pack LL = P := ⟨_, rfl⟩
        rw [hP] at hz1 hz2
        obtain ⟨NP, hNP⟩ : ∃ n, P.length = n := ⟨_, rfl⟩
        rw [hNP] at hz2
        have HP := Lib.hid hP
        have HNP := Lib.hid hNP
        have hun : unp (P ++ more) = LL ++ (List.replicate zp false ++ unp more) := by rw [unp_app, hz1, List.append_assoc]
        have HUN := Lib.hid hun
        have HZ2 := Lib.hid (And.intro hz2 hz8)
        have hNP2 : NP ≤ 1000 := by have := HLLM.out; omega
        obtain ⟨NT, hNT⟩ : ∃ n, NP + NM = n := ⟨_, rfl⟩
        have HNT : Hid ((P ++ more).length = NT) := Lib.hid (by rw [List.length_append, hNP, HNM.out]; exact hNT)
        have HNT2 := Lib.hid hNT
        have hNT2 : NT ≤ 2000 := by omega
        obtain ⟨M, hM⟩ : ∃ M, 8 * NT = M := ⟨_, rfl⟩
        have HM := Lib.hid hM
        have hMs : M ≤ 16000 := by omega
        clear hz1 hz2 hz8 hP hNP hun hNT hM
        refine (bytes_any HT.out.wr HLLs.out).mono ?_
        rintro q w2 ⟨A1, c1, rfl, ho1, hb1⟩
        rw [HP.out] at ho1 ⊢
        rw [HNP.out] at ho1 ⊢
        have R1 : Hid (Rd w2 A1 P) := Lib.hid (Rv.of_own ho1)
        have T2 := Lib.hid (HT.out.on hb1).bel
        have RM2 : Hid (Rd w2 B more) := Lib.hid (HRM.out.below T2.out)
        have O0 := Lib.hid (World.ownsRow_nil w2 w2.heap.size 5 1)
        clear ho1 hb1 HT
        go_wp2_with (first
          | (at_builtin; refine wpList_append_vals Try.underlying22 byte_info rfl rfl _ _ rfl w2.heap.size (.slice none 0 0) 0 [] rfl O0.out A1 (P.map byt) (byt_one P) NP c1 (by rw [List.length_map]; exact HNP.out) rfl R1.out (by omega) (Nat.le_refl _) ?_; intro v3 w3 ho3 hg3 _; rw [Nat.zero_add, List.nil_append] at ho3; obtain ⟨A3, c3, rfl, _⟩ := own_form ho3; have B3 := Lib.hid ((Below.refl w2.heap.size w2).grown hg3 (Nat.le_refl _) (fun j ej => by cases ej)); have O3 := Lib.hid ho3; have RM3 := Lib.hid (RM2.out.below B3.out); clear ho3 hg3)
          | (at_builtin; refine wpList_append_vals Try.underlying22 byte_info rfl rfl _ _ rfl w2.heap.size (.slice A3 NP c3) NP (P.map byt) rfl O3.out B (more.map byt) (byt_one more) NM cb (by rw [List.length_map]; exact HNM.out) rfl RM3.out (by omega) B3.out.size ?_; intro v4 w4 ho4 hg4 _; obtain ⟨A4, c4, rfl, _⟩ := own_form ho4; have B4 := Lib.hid (B3.out.grown hg4 B3.out.size (fun j ej => (O3.out.lt j ej).1)); have O4 := Lib.hid ho4; clear ho4 hg4))
        have R4 : Hid (Rd w4 A4 (P ++ more)) := Lib.hid (by have h1 := Rv.of_own O4.out; rw [← List.map_append] at h1; exact h1)
        have T4 := Lib.hid (below_on T2.out (Nat.le_refl _) B4.out)
        rw [HNT2.out]
        clear B3 B4 O3 O4 O0 RM2 RM3 R1 T2
        refine (newf_r _ _ (P ++ more) NT c4 HNT.out (by omega) R4.out M HM.out).mono ?_
        rintro q w5 ⟨x, rfl, Af, cf, h5⟩
        have F5 := Lib.hid (Rr.from T4.out h5)
        clear h5 R4 T4
        go_wp2_with fail
        go_loopw [12] (fun b wr => ∃ i : Nat, i ≤ N ∧ b = .int .i64 (i : Int) ∧ Hid (Rr w wr x 68 Af cf (P ++ more) (allB (ls.take i)).length M)) (fun b _ => N - (intOf b).toNat)
        case atStart => exact ⟨0, by omega, rfl, F5⟩
        case round =>
          clear F5
          obtain ⟨i, hi, rfl, HF⟩ := hrel
          by_cases hlt : i < N
          · obtain ⟨⟨q, z⟩, hqz⟩ : ∃ y, ls[i]? = some y := ⟨_, List.getElem?_eq_getElem (by rw [HN.out]; exact hlt)⟩
            have hRd : ∀ w', Below w.heap.size w w' → RdP w' A ls := fun w' hb => HR.out.below hb
            obtain ⟨aL, haL, _, _⟩ := HR.out i q z hqz
            subst haL
            have cl0 : ∀ w', Below w.heap.size w w' → w'.cell? (aL.add (i * 2)) = some (.int .u64 (q : Int)) := fun w' hb => by
              obtain ⟨a', e, h0, _⟩ := hRd w' hb i q z hqz
              cases e
              exact h0
            have cl1 : ∀ w', Below w.heap.size w w' → w'.cell? { block := (aL.add (i * 2)).block, off := (aL.add (i * 2)).off + 1 } = some (.int .i64 z) := fun w' hb => by
              obtain ⟨a', e, _, h1⟩ := hRd w' hb i q z hqz
              cases e
              rw [← addr_add_add] at h1
              exact h1
            have HC0 := Lib.hid cl0
            have HC1 := Lib.hid cl1
            clear hRd cl0 cl1
            have hmy := HV.out i q z hlt hqz
            obtain ⟨hz0, hz64, hq⟩ := may_parts hmy
            have hnx := allB_next hqz hmy
            have hle : (allB (ls.take i)).length + z.toNat ≤ M := by
              have h1 := congrArg List.length (allB_parts hqz hmy)
              rw [HLL.out, HML.out, List.length_append, List.length_append, bitsOf_len] at h1
              have := HZ2.out
              have := HM.out
              have := HNT2.out
              have := HLLM.out
              omega
            have TK := Lib.hid (ftake_r HF.out.sp (by rw [HNT.out, HM.out]; exact Nat.le_refl _) (by rw [HNT.out]; omega) z.toNat hz64 hle z hz0.symm _ _ rfl hnx.symm)
            have e2 := HC1.out wr HF.out.bel
            clear hqz hmy hz0 hz64 hq hnx hle
            go_wp2_with fail
            refine TK.out.mono ?_
            rintro q' w6 ⟨rfl, hs, hg⟩
            have F6 := Lib.hid (HF.out.step hs hg)
            clear hs hg TK
            go_wp2_with fail
            exact ⟨⟨i + 1, by omega, by simp, F6⟩, by simp [intOf]; omega⟩
          · have hie : N = i := by omega
            subst hie
            have et : ls.take N = ls := List.take_of_length_le (by rw [HN.out]; exact Nat.le_refl _)
            rw [et, HLL.out, HML.out] at HF
            clear hlt hi et
            have AG := Lib.hid (align_good HF.out.sp (by rw [HNT.out]; omega) NP (by have := HZ2.out; have := HLLM.out; omega) (by rw [HNT.out]; have := HNT2.out; omega) (by rw [← HML.out]; exact cut_pad' (z := zp) (r := unp more) (by rw [HUN.out, HLE.out]) (by rw [HML.out]; have := HZ2.out; have := HLLM.out; omega)))
            go_wp2_with fail
            refine AG.out.mono ?_
            rintro q w6 ⟨rfl, hs, hg⟩
            have F6 := Lib.hid (HF.out.step hs hg)
            clear hs hg AG HF
            go_wp2_with fail
            refine (at_any F6.out.sp).mono ?_
            rintro q w7 ⟨rfl, d7, hw⟩
            have F7 := Lib.hid (F6.out.eqd hw)
            clear hw F6
            go_wp2_with fail
            refine (fleft_any F7.out.sp (8 * NM) (by have := HM.out; have := HNT2.out; omega) (by omega)).mono ?_
            rintro q w8 ⟨rfl, d8, hw⟩
            have F8 := Lib.hid (F7.out.eqd hw)
            clear hw F7
            go_wp2_with fail
            go_loopw [15] (fun b wr => ∃ i : Nat, i ≤ NM ∧ b = .int .i64 (i : Int) ∧ Hid (Rr w wr x 68 Af cf (P ++ more) (8 * (NP + i)) M)) (fun b _ => NM - (intOf b).toNat)
            case atStart => exact ⟨0, by omega, rfl, F8⟩
            case round =>
              clear F8
              obtain ⟨i, hi, rfl, HF⟩ := hrel
              by_cases hlt : i < NM
              · obtain ⟨b, hb⟩ : ∃ b, more[i]? = some b := ⟨_, List.getElem?_eq_getElem (by rw [HNM.out]; exact hlt)⟩
                obtain ⟨a0, ha0, _⟩ := HRM.out i (byt b) (by rw [List.getElem?_map, hb]; rfl)
                subst ha0
                have hcell : ∀ w', Below w.heap.size w w' → w'.cell? (a0.add i) = some (byt b) := fun w' hb' => (HRM.out.below hb').cells i _ (by rw [List.getElem?_map, hb]; rfl)
                have hbD : (P ++ more)[NP + i]? = some b := by rw [List.getElem?_append_right (by rw [HNP.out]; omega), HNP.out, Nat.add_sub_cancel_left]; exact hb
                have TK := Lib.hid (ftake_r HF.out.sp (by rw [HNT.out, HM.out]; exact Nat.le_refl _) (by rw [HNT.out]; omega) 8 (by decide) (by have := HM.out; have := HNT2.out; omega) 8 rfl b.toNat (8 * (NP + (i + 1))) (byte_cut hbD) (by omega))
                have hb8 := b.toNat_lt
                simp only [byt] at hcell
                obtain ⟨yb, hyb⟩ : ∃ y, b.toNat = y := ⟨_, rfl⟩
                rw [hyb] at hcell hb8 TK
                have HC := Lib.hid hcell
                clear hyb hb hcell hbD
                go_wp2_with fail
                refine TK.out.mono ?_
                rintro q w9 ⟨rfl, hs, hg⟩
                have F9 := Lib.hid (HF.out.step hs hg)
                have hc9 := HC.out w9 F9.out.bel
                clear hs hg TK HC
                go_wp2_with fail
                refine (took_yes _ (yb : Int) 0).mono ?_
                rintro q w10 ⟨rfl, rfl⟩
                clear hc9
                go_wp2_with fail
                exact ⟨⟨i + 1, by omega, by simp, F9⟩, by simp [intOf]; omega⟩
              · have hie : NM = i := by omega
                subst hie
                clear hlt hi
                go_wp2_with fail
                refine (known_any _).mono ?_
                rintro q wk ⟨rfl, hb⟩
                have HB := Lib.hid (below_on HF.out.bel (Nat.le_refl _) hb)
                clear hb
                go_wp2
                go_ret
                exact ⟨rfl, HB.out⟩
      | true =>
        by_cases hm : ML % 8 = 0
        · have hmod : ((ML : Int) % 8 != 0) = false := by simp; omega
          clear hm
          go_wp2_with fail
          refine (len_any HT.out.wr (by rw [HML.out]; omega)).mono ?_
          rintro q w1 ⟨rfl, d1, hw⟩
          rw [HML.out]
          have HT1 := Lib.hid (HT.out.eqd hw)
          clear hw HT
          have HT := HT1
          clear HT1
          obtain ⟨LL, hLE⟩ : ∃ LL, LL = L := ⟨_, rfl⟩
          have HLE := Lib.hid hLE
          have HLLM : Hid (LL.length = ML) := Lib.hid (by rw [hLE]; exact HML.out)
          have HLLs : Hid (LL.length ≤ 1099511627776) := Lib.hid (by rw [HLLM.out]; omega)
          rw [← hLE] at HT
          clear hLE
          go_wp2_with fail
          obtain ⟨zp, hz1, hz2, hz8⟩ := unp_pack LL
          obtain ⟨P, hP⟩ : ∃ P, pack LL = P := ⟨_, rfl⟩
          rw [hP] at hz1 hz2
          obtain ⟨NP, hNP⟩ : ∃ n, P.length = n := ⟨_, rfl⟩
          rw [hNP] at hz2
          have HP := Lib.hid hP
          have HNP := Lib.hid hNP
          have hun : unp (P ++ more) = LL ++ (List.replicate zp false ++ unp more) := by rw [unp_app, hz1, List.append_assoc]
          have HUN := Lib.hid hun
          have HZ2 := Lib.hid (And.intro hz2 hz8)
          have hNP2 : NP ≤ 1000 := by have := HLLM.out; omega
          obtain ⟨NT, hNT⟩ : ∃ n, NP + NM = n := ⟨_, rfl⟩
          have HNT : Hid ((P ++ more).length = NT) := Lib.hid (by rw [List.length_append, hNP, HNM.out]; exact hNT)
          have HNT2 := Lib.hid hNT
          have hNT2 : NT ≤ 2000 := by omega
          obtain ⟨M, hM⟩ : ∃ M, 8 * NT = M := ⟨_, rfl⟩
          have HM := Lib.hid hM
          have hMs : M ≤ 16000 := by omega
          clear hz1 hz2 hz8 hP hNP hun hNT hM
          refine (bytes_any HT.out.wr HLLs.out).mono ?_
          rintro q w2 ⟨A1, c1, rfl, ho1, hb1⟩
          rw [HP.out] at ho1 ⊢
          rw [HNP.out] at ho1 ⊢
          have R1 : Hid (Rd w2 A1 P) := Lib.hid (Rv.of_own ho1)
          have T2 := Lib.hid (HT.out.on hb1).bel
          have RM2 : Hid (Rd w2 B more) := Lib.hid (HRM.out.below T2.out)
          have O0 := Lib.hid (World.ownsRow_nil w2 w2.heap.size 5 1)
          clear ho1 hb1 HT
          go_wp2_with (first
            | (at_builtin; refine wpList_append_vals Try.underlying22 byte_info rfl rfl _ _ rfl w2.heap.size (.slice none 0 0) 0 [] rfl O0.out A1 (P.map byt) (byt_one P) NP c1 (by rw [List.length_map]; exact HNP.out) rfl R1.out (by omega) (Nat.le_refl _) ?_; intro v3 w3 ho3 hg3 _; rw [Nat.zero_add, List.nil_append] at ho3; obtain ⟨A3, c3, rfl, _⟩ := own_form ho3; have B3 := Lib.hid ((Below.refl w2.heap.size w2).grown hg3 (Nat.le_refl _) (fun j ej => by cases ej)); have O3 := Lib.hid ho3; have RM3 := Lib.hid (RM2.out.below B3.out); clear ho3 hg3)
            | (at_builtin; refine wpList_append_vals Try.underlying22 byte_info rfl rfl _ _ rfl w2.heap.size (.slice A3 NP c3) NP (P.map byt) rfl O3.out B (more.map byt) (byt_one more) NM cb (by rw [List.length_map]; exact HNM.out) rfl RM3.out (by omega) B3.out.size ?_; intro v4 w4 ho4 hg4 _; obtain ⟨A4, c4, rfl, _⟩ := own_form ho4; have B4 := Lib.hid (B3.out.grown hg4 B3.out.size (fun j ej => (O3.out.lt j ej).1)); have O4 := Lib.hid ho4; clear ho4 hg4))
          have R4 : Hid (Rd w4 A4 (P ++ more)) := Lib.hid (by have h1 := Rv.of_own O4.out; rw [← List.map_append] at h1; exact h1)
          have T4 := Lib.hid (below_on T2.out (Nat.le_refl _) B4.out)
          rw [HNT2.out]
          clear B3 B4 O3 O4 O0 RM2 RM3 R1 T2
          refine (newf_r _ _ (P ++ more) NT c4 HNT.out (by omega) R4.out M HM.out).mono ?_
          rintro q w5 ⟨x, rfl, Af, cf, h5⟩
          have F5 := Lib.hid (Rr.from T4.out h5)
          clear h5 R4 T4
          go_wp2_with fail
          go_loopw [12] (fun b wr => ∃ i : Nat, i ≤ N ∧ b = .int .i64 (i : Int) ∧ Hid (Rr w wr x 68 Af cf (P ++ more) (allB (ls.take i)).length M)) (fun b _ => N - (intOf b).toNat)
          case atStart => exact ⟨0, by omega, rfl, F5⟩
          case round =>
            clear F5
            obtain ⟨i, hi, rfl, HF⟩ := hrel
            by_cases hlt : i < N
            · obtain ⟨⟨q, z⟩, hqz⟩ : ∃ y, ls[i]? = some y := ⟨_, List.getElem?_eq_getElem (by rw [HN.out]; exact hlt)⟩
              have hRd : ∀ w', Below w.heap.size w w' → RdP w' A ls := fun w' hb => HR.out.below hb
              obtain ⟨aL, haL, _, _⟩ := HR.out i q z hqz
              subst haL
              have cl0 : ∀ w', Below w.heap.size w w' → w'.cell? (aL.add (i * 2)) = some (.int .u64 (q : Int)) := fun w' hb => by
                obtain ⟨a', e, h0, _⟩ := hRd w' hb i q z hqz
                cases e
                exact h0
              have cl1 : ∀ w', Below w.heap.size w w' → w'.cell? { block := (aL.add (i * 2)).block, off := (aL.add (i * 2)).off + 1 } = some (.int .i64 z) := fun w' hb => by
                obtain ⟨a', e, _, h1⟩ := hRd w' hb i q z hqz
                cases e
                rw [← addr_add_add] at h1
                exact h1
              have HC0 := Lib.hid cl0
              have HC1 := Lib.hid cl1
              clear hRd cl0 cl1
              have hmy := HV.out i q z hlt hqz
              obtain ⟨hz0, hz64, hq⟩ := may_parts hmy
              have hnx := allB_next hqz hmy
              have hle : (allB (ls.take i)).length + z.toNat ≤ M := by
                have h1 := congrArg List.length (allB_parts hqz hmy)
                rw [HLL.out, HML.out, List.length_append, List.length_append, bitsOf_len] at h1
                have := HZ2.out
                have := HM.out
                have := HNT2.out
                have := HLLM.out
                omega
              have TK := Lib.hid (ftake_r HF.out.sp (by rw [HNT.out, HM.out]; exact Nat.le_refl _) (by rw [HNT.out]; omega) z.toNat hz64 hle z hz0.symm _ _ rfl hnx.symm)
              have e2 := HC1.out wr HF.out.bel
              clear hqz hmy hz0 hz64 hq hnx hle
              go_wp2_with fail
              refine TK.out.mono ?_
              rintro q' w6 ⟨rfl, hs, hg⟩
              have F6 := Lib.hid (HF.out.step hs hg)
              clear hs hg TK
              go_wp2_with fail
              exact ⟨⟨i + 1, by omega, by simp, F6⟩, by simp [intOf]; omega⟩
            · have hie : N = i := by omega
              subst hie
              have et : ls.take N = ls := List.take_of_length_le (by rw [HN.out]; exact Nat.le_refl _)
              rw [et, HLL.out, HML.out] at HF
              clear hlt hi et
              have AG := Lib.hid (align_good HF.out.sp (by rw [HNT.out]; omega) NP (by have := HZ2.out; have := HLLM.out; omega) (by rw [HNT.out]; have := HNT2.out; omega) (by rw [← HML.out]; exact cut_pad' (z := zp) (r := unp more) (by rw [HUN.out, HLE.out]) (by rw [HML.out]; have := HZ2.out; have := HLLM.out; omega)))
              go_wp2_with fail
              refine AG.out.mono ?_
              rintro q w6 ⟨rfl, hs, hg⟩
              have F6 := Lib.hid (HF.out.step hs hg)
              clear hs hg AG HF
              go_wp2_with fail
              refine (at_any F6.out.sp).mono ?_
              rintro q w7 ⟨rfl, d7, hw⟩
              have F7 := Lib.hid (F6.out.eqd hw)
              clear hw F6
              go_wp2_with fail
              refine (fleft_any F7.out.sp (8 * NM) (by have := HM.out; have := HNT2.out; omega) (by omega)).mono ?_
              rintro q w8 ⟨rfl, d8, hw⟩
              have F8 := Lib.hid (F7.out.eqd hw)
              clear hw F7
              go_wp2_with fail
              go_loopw [15] (fun b wr => ∃ i : Nat, i ≤ NM ∧ b = .int .i64 (i : Int) ∧ Hid (Rr w wr x 68 Af cf (P ++ more) (8 * (NP + i)) M)) (fun b _ => NM - (intOf b).toNat)
              case atStart => exact ⟨0, by omega, rfl, F8⟩
              case round =>
                clear F8
                obtain ⟨i, hi, rfl, HF⟩ := hrel
                by_cases hlt : i < NM
                · obtain ⟨b, hb⟩ : ∃ b, more[i]? = some b := ⟨_, List.getElem?_eq_getElem (by rw [HNM.out]; exact hlt)⟩
                  obtain ⟨a0, ha0, _⟩ := HRM.out i (byt b) (by rw [List.getElem?_map, hb]; rfl)
                  subst ha0
                  have hcell : ∀ w', Below w.heap.size w w' → w'.cell? (a0.add i) = some (byt b) := fun w' hb' => (HRM.out.below hb').cells i _ (by rw [List.getElem?_map, hb]; rfl)
                  have hbD : (P ++ more)[NP + i]? = some b := by rw [List.getElem?_append_right (by rw [HNP.out]; omega), HNP.out, Nat.add_sub_cancel_left]; exact hb
                  have TK := Lib.hid (ftake_r HF.out.sp (by rw [HNT.out, HM.out]; exact Nat.le_refl _) (by rw [HNT.out]; omega) 8 (by decide) (by have := HM.out; have := HNT2.out; omega) 8 rfl b.toNat (8 * (NP + (i + 1))) (byte_cut hbD) (by omega))
                  have hb8 := b.toNat_lt
                  simp only [byt] at hcell
                  obtain ⟨yb, hyb⟩ : ∃ y, b.toNat = y := ⟨_, rfl⟩
                  rw [hyb] at hcell hb8 TK
                  have HC := Lib.hid hcell
                  clear hyb hb hcell hbD
                  go_wp2_with fail
                  refine TK.out.mono ?_
                  rintro q w9 ⟨rfl, hs, hg⟩
                  have F9 := Lib.hid (HF.out.step hs hg)
                  have hc9 := HC.out w9 F9.out.bel
                  clear hs hg TK HC
                  go_wp2_with fail
                  refine (took_yes _ (yb : Int) 0).mono ?_
                  rintro q w10 ⟨rfl, rfl⟩
                  clear hc9
                  go_wp2_with fail
                  exact ⟨⟨i + 1, by omega, by simp, F9⟩, by simp [intOf]; omega⟩
                · have hie : NM = i := by omega
                  subst hie
                  clear hlt hi
                  go_wp2_with fail
                  refine (known_any _).mono ?_
                  rintro q wk ⟨rfl, hb⟩
                  have HB := Lib.hid (below_on HF.out.bel (Nat.le_refl _) hb)
                  clear hb
                  go_wp2
                  go_ret
                  exact ⟨rfl, HB.out⟩
        · have HMOD := Lib.hid hm
          have hmod : ((ML : Int) % 8 != 0) = true := by simp; omega
          clear hm
          go_wp2_with fail
          refine (len_any HT.out.wr (by rw [HML.out]; omega)).mono ?_
          rintro q w1 ⟨rfl, d1, hw⟩
          rw [HML.out]
          have HT1 := Lib.hid (HT.out.eqd hw)
          clear hw HT
          go_wp2_with fail
          refine (put1 HT1.out.wr (by rw [HML.out]; omega)).mono ?_
          rintro q wp ⟨rfl, vp, hwp, hcp, hnp⟩
          have HT := Lib.hid (HT1.out.chg hwp hcp hnp)
          clear hwp hcp hnp HT1 hmod
          obtain ⟨LL, hLE⟩ : ∃ LL, LL = L ++ [true] := ⟨_, rfl⟩
          have HLE := Lib.hid hLE
          have HLLM : Hid (LL.length = ML + 1) := Lib.hid (by rw [hLE, List.length_append, HML.out]; rfl)
          have HLLs : Hid (LL.length ≤ 1099511627776) := Lib.hid (by rw [HLLM.out]; omega)
          rw [← hLE] at HT
          clear hLE
          go_wp2_with fail
          obtain ⟨zp, hz1, hz2, hz8⟩ := unp_pack LL
          obtain ⟨P, hP⟩ : ∃ P, pack LL = P := ⟨_, rfl⟩
          rw [hP] at hz1 hz2
          obtain ⟨NP, hNP⟩ : ∃ n, P.length = n := ⟨_, rfl⟩
          rw [hNP] at hz2
          have HP := Lib.hid hP
          have HNP := Lib.hid hNP
          have hun : unp (P ++ more) = LL ++ (List.replicate zp false ++ unp more) := by rw [unp_app, hz1, List.append_assoc]
          have HUN := Lib.hid hun
          have HZ2 := Lib.hid (And.intro hz2 hz8)
          have hNP2 : NP ≤ 1000 := by have := HLLM.out; omega
          obtain ⟨NT, hNT⟩ : ∃ n, NP + NM = n := ⟨_, rfl⟩
          have HNT : Hid ((P ++ more).length = NT) := Lib.hid (by rw [List.length_append, hNP, HNM.out]; exact hNT)
          have HNT2 := Lib.hid hNT
          have hNT2 : NT ≤ 2000 := by omega
          obtain ⟨M, hM⟩ : ∃ M, 8 * NT = M := ⟨_, rfl⟩
          have HM := Lib.hid hM
          have hMs : M ≤ 16000 := by omega
          clear hz1 hz2 hz8 hP hNP hun hNT hM
          refine (bytes_any HT.out.wr HLLs.out).mono ?_
          rintro q w2 ⟨A1, c1, rfl, ho1, hb1⟩
          rw [HP.out] at ho1 ⊢
          rw [HNP.out] at ho1 ⊢
          have R1 : Hid (Rd w2 A1 P) := Lib.hid (Rv.of_own ho1)
          have T2 := Lib.hid (HT.out.on hb1).bel
          have RM2 : Hid (Rd w2 B more) := Lib.hid (HRM.out.below T2.out)
          have O0 := Lib.hid (World.ownsRow_nil w2 w2.heap.size 5 1)
          clear ho1 hb1 HT
          go_wp2_with (first
            | (at_builtin; refine wpList_append_vals Try.underlying22 byte_info rfl rfl _ _ rfl w2.heap.size (.slice none 0 0) 0 [] rfl O0.out A1 (P.map byt) (byt_one P) NP c1 (by rw [List.length_map]; exact HNP.out) rfl R1.out (by omega) (Nat.le_refl _) ?_; intro v3 w3 ho3 hg3 _; rw [Nat.zero_add, List.nil_append] at ho3; obtain ⟨A3, c3, rfl, _⟩ := own_form ho3; have B3 := Lib.hid ((Below.refl w2.heap.size w2).grown hg3 (Nat.le_refl _) (fun j ej => by cases ej)); have O3 := Lib.hid ho3; have RM3 := Lib.hid (RM2.out.below B3.out); clear ho3 hg3)
            | (at_builtin; refine wpList_append_vals Try.underlying22 byte_info rfl rfl _ _ rfl w2.heap.size (.slice A3 NP c3) NP (P.map byt) rfl O3.out B (more.map byt) (byt_one more) NM cb (by rw [List.length_map]; exact HNM.out) rfl RM3.out (by omega) B3.out.size ?_; intro v4 w4 ho4 hg4 _; obtain ⟨A4, c4, rfl, _⟩ := own_form ho4; have B4 := Lib.hid (B3.out.grown hg4 B3.out.size (fun j ej => (O3.out.lt j ej).1)); have O4 := Lib.hid ho4; clear ho4 hg4))
          have R4 : Hid (Rd w4 A4 (P ++ more)) := Lib.hid (by have h1 := Rv.of_own O4.out; rw [← List.map_append] at h1; exact h1)
          have T4 := Lib.hid (below_on T2.out (Nat.le_refl _) B4.out)
          rw [HNT2.out]
          clear B3 B4 O3 O4 O0 RM2 RM3 R1 T2
          refine (newf_r _ _ (P ++ more) NT c4 HNT.out (by omega) R4.out M HM.out).mono ?_
          rintro q w5 ⟨x, rfl, Af, cf, h5⟩
          have F5 := Lib.hid (Rr.from T4.out h5)
          clear h5 R4 T4
          go_wp2_with fail
          go_loopw [12] (fun b wr => ∃ i : Nat, i ≤ N ∧ b = .int .i64 (i : Int) ∧ Hid (Rr w wr x 68 Af cf (P ++ more) (allB (ls.take i)).length M)) (fun b _ => N - (intOf b).toNat)
          case atStart => exact ⟨0, by omega, rfl, F5⟩
          case round =>
            clear F5
            obtain ⟨i, hi, rfl, HF⟩ := hrel
            by_cases hlt : i < N
            · obtain ⟨⟨q, z⟩, hqz⟩ : ∃ y, ls[i]? = some y := ⟨_, List.getElem?_eq_getElem (by rw [HN.out]; exact hlt)⟩
              have hRd : ∀ w', Below w.heap.size w w' → RdP w' A ls := fun w' hb => HR.out.below hb
              obtain ⟨aL, haL, _, _⟩ := HR.out i q z hqz
              subst haL
              have cl0 : ∀ w', Below w.heap.size w w' → w'.cell? (aL.add (i * 2)) = some (.int .u64 (q : Int)) := fun w' hb => by
                obtain ⟨a', e, h0, _⟩ := hRd w' hb i q z hqz
                cases e
                exact h0
              have cl1 : ∀ w', Below w.heap.size w w' → w'.cell? { block := (aL.add (i * 2)).block, off := (aL.add (i * 2)).off + 1 } = some (.int .i64 z) := fun w' hb => by
                obtain ⟨a', e, _, h1⟩ := hRd w' hb i q z hqz
                cases e
                rw [← addr_add_add] at h1
                exact h1
              have HC0 := Lib.hid cl0
              have HC1 := Lib.hid cl1
              clear hRd cl0 cl1
              have hmy := HV.out i q z hlt hqz
              obtain ⟨hz0, hz64, hq⟩ := may_parts hmy
              have hnx := allB_next hqz hmy
              have hle : (allB (ls.take i)).length + z.toNat ≤ M := by
                have h1 := congrArg List.length (allB_parts hqz hmy)
                rw [HLL.out, HML.out, List.length_append, List.length_append, bitsOf_len] at h1
                have := HZ2.out
                have := HM.out
                have := HNT2.out
                have := HLLM.out
                omega
              have TK := Lib.hid (ftake_r HF.out.sp (by rw [HNT.out, HM.out]; exact Nat.le_refl _) (by rw [HNT.out]; omega) z.toNat hz64 hle z hz0.symm _ _ rfl hnx.symm)
              have e2 := HC1.out wr HF.out.bel
              clear hqz hmy hz0 hz64 hq hnx hle
              go_wp2_with fail
              refine TK.out.mono ?_
              rintro q' w6 ⟨rfl, hs, hg⟩
              have F6 := Lib.hid (HF.out.step hs hg)
              clear hs hg TK
              go_wp2_with fail
              exact ⟨⟨i + 1, by omega, by simp, F6⟩, by simp [intOf]; omega⟩
            · have hie : N = i := by omega
              subst hie
              have et : ls.take N = ls := List.take_of_length_le (by rw [HN.out]; exact Nat.le_refl _)
              rw [et, HLL.out, HML.out] at HF
              clear hlt hi et
              have AG := Lib.hid (align_bad HF.out.sp (by rw [HNT.out]; omega) NP (by have := HZ2.out; have := HLLM.out; have := HMOD.out; omega) (by rw [HNT.out]; have := HNT2.out; omega) (by rw [← HML.out]; exact cut_bad (r := List.replicate zp false ++ unp more) (by rw [HUN.out, HLE.out, List.append_assoc]; rfl) (by rw [HML.out]; have := HZ2.out; have := HLLM.out; have := HMOD.out; omega)))
              go_wp2_with fail
              refine AG.out.mono ?_
              rintro q w6 ⟨rfl, hb6⟩
              have F6 := Lib.hid (HF.out.on hb6)
              clear hb6 AG HF
              go_wp2_with fail
              refine (at_any F6.out.sp).mono ?_
              rintro q w7 ⟨rfl, d7, hw⟩
              have F7 := Lib.hid (F6.out.eqd hw)
              clear hw F6
              go_wp2_with fail
              refine (known_any _).mono ?_
              rintro q wk ⟨rfl, hb⟩
              have HB := Lib.hid (below_on F7.out.bel (Nat.le_refl _) hb)
              clear hb
              go_wp2
              go_ret
              exact ⟨rfl, HB.out⟩

theorem walk (A : Option Addr) (ls : List (Nat × Int)) (cap : Nat) (B : Option Addr) (more : List UInt8) (cb : Nat) (bad : Bool) (w : World) (hR : RdP w A ls) (hW : WfP ls) (_hc : ls.length ≤ cap) (hRM : Rd w B more) (_hs : more.length ≤ 140737488351232) (_hd : more.length ≤ cb) :
    Calls Try.prog 8 #[.slice A ls.length cap, .slice B more.length cb, .bool bad] w fun e w' => e = .returned (.bool true) ∧ Below w.heap.size w w' := by
  by_cases h : 60 < ls.length
  · exact walk_a A _ cap B _ cb bad w h
  by_cases h2 : 60 < more.length
  · exact walk_b A _ cap B _ cb bad w (by omega) h2
  exact walk_small A ls _ cap B more _ cb bad w rfl (by omega) hR hW rfl (by omega) hRM

set_option maxRecDepth 100000 in
theorem lifted (os : Os) (started : os.Started) (H : Type) (enc : TypeId × Value → H) :
    ReturnsInHanded {} Try.checked os 8 .any (Rows.bitinWholeSpec.pre6 enc Try.prog Try.f8 Rows.bitinWholeRow.domain false) (Rows.bitinWholeSpec.post enc Try.prog Try.f8 false true false false) := by
  refine returnsInHanded_of_change_sized (C := Try.checked) ownB started (by kernel_rfl) Try.func8
    (ChangeSpec.witness6 (enc := enc) (C := Try.checked) false ⟨#[], #[.slice none 0 0, .slice none 0 0, .bool false], []⟩ 8 (by kernel_rfl) (by kernel_rfl) (by kernel_rfl) (by kernel_rfl)) ?_
  intro W base args ds gs before hval0 hW _ hsz0 _
  have hsz : (DataW.weightsEach Try.prog (Try.f8.params.toList ++ Rows.bitinWholeSpec.plain.varTypes Try.prog) (ds ++ gs)).all (· ≤ reachBytes) = true := hsz0
  clear hsz0
  have hval : ∀ (j : Nat) t v, Try.f8.params[j]? = some t → args[j]? = some v → Value.okWide Try.prog W .any base t v := hval0
  have hW' := hW
  obtain ⟨p, q, hA0, hV, rfl, hfz, hnd⟩ := hW
  have hA : DataW.TrodAll enc Try.prog W 0 (fun _ => true) true Try.f8.params.toList args.toList ds p := hA0
  rw [Try.params8] at hA hval hsz
  obtain ⟨v0, vs0, d0, ds0, p0, q0, hargs, rfl, rfl, h0, r0⟩ := trodAll_cons hA
  obtain ⟨v1, vs1, d1, ds1, p1, q1, rfl, rfl, rfl, h1, r1⟩ := trodAll_cons r0
  obtain ⟨v2, vs2, d2, ds2, p2, q2, rfl, rfl, rfl, h2, r2⟩ := trodAll_cons r1
  obtain ⟨rfl, rfl, rfl⟩ := trodAll_nil r2
  obtain rfl : args = #[v0, v1, v2] := by cases args; simp_all
  obtain ⟨rfl, rfl⟩ := trodVars_none hV
  obtain ⟨a0, len0, cap0, rfl⟩ := okWide_slice Try.underlying51 (hval 0 51 v0 rfl rfl)
  have k0 := h0
  have lt0 : ∀ x ∈ p0, x.block < W.heap.size := by obtain ⟨m, hm⟩ := k0; exact DataW.trod_lt m _ _ _ hm
  obtain ⟨l0, rfl, hc0, rc0, wf0⟩ := open_puts h0
  obtain ⟨a1, len1, cap1, rfl⟩ := okWide_slice Try.underlying22 (hval 1 22 v1 rfl rfl)
  have k1 := h1
  have lt1 : ∀ x ∈ p1, x.block < W.heap.size := by obtain ⟨m, hm⟩ := k1; exact DataW.trod_lt m _ _ _ hm
  obtain ⟨l1, rfl, hc1, rd1, hd1⟩ := open_bytes h1
  have hs1 : l1.length ≤ 140737488351232 := by
    rcases hd1 with ⟨h, _⟩ | ⟨es, sp, rfl, h⟩
    · omega
    · have := sized_slice hsz (j := 1) (t := 22) (e := 5) rfl rfl Try.underlying22
      rw [bytes_byte] at this
      simp only [reachBytes] at this
      omega
  obtain ⟨a2, rfl, rfl, rfl⟩ := open_bool Try.underlying4 (hval 2 4 v2 rfl rfl) h2
  clear hA0 hval0
  refine (walk a0 l0 cap0 a1 l1 cap1 a2 W rc0 wf0 hc0 rd1 hs1 hc1 ).mono fun e W' ⟨he, bel⟩ => ?_
  subst he
  exact ⟨_, rfl, _, _, _, [], _, [], hW', trodAll_mk1 (shut_bool Try.underlying4 _), (trodAll_cons_mk (Below.trod laidOut (by kernel_rfl) (of_decide_eq_true (by kernel_rfl)) k0 bel lt0) (trodAll_cons_mk (Below.trod laidOut (by kernel_rfl) (of_decide_eq_true (by kernel_rfl)) k1 bel lt1) (trodAll_cons_mk (shut_bool Try.underlying4 _) trodAll_mk0))), rfl, bel.frame _, fun h => by cases h⟩

theorem proved : Rows.BitinWholeSaid :=
  OpenClaim.holds_of_wide 8 Try.f8 rfl rfl rfl rfl rfl rfl rfl ⟨rfl, rfl, rfl, rfl, rfl⟩ rfl rfl rfl rfl rfl (by kernel_rfl) Try.func8 (by kernel_rfl)
    (of_decide_eq_true (by kernel_rfl)) (by unfold Func.isWrapper; rw [if_neg (by decide +kernel)]; exact ⟨rfl, rfl⟩)
    (fun os started H enc _ => lifted os started H enc)

#print axioms proved

end Go.Proofs.Ytckboifdkagacaa.bitinWhole
