/-
  Proved: the law DescRow returns true for all slices of tables: descriptions that stand one after the other are read one after the other. No condition.
-/
import Derived.BigQuiet
import Derived.Deep.QuietTactic
import Derived.Deep.RegionHeld3
import Derived.Test.YtpjbjbohbdlciaaFrm
import Derived.Test.YtpjbjbohbdlciaaOtb
namespace Go.Proofs.Ytpjbjbohbdlciaa.descRow
open Go.ChangeShapes Go.WideShapes Go.ChangeAt Go.RowKit

/-- What the first loop holds on to. -/
def L1 (w wr : World) (ts : List Tt) (i : Nat) (A' : Option Addr) (m c : Nat) : Prop :=
  Below w.heap.size w wr ∧ wr.ownsRow w.heap.size 5 1 (.slice A' m c) m ((cat (ts.take i)).map Bt.byt) ∧ ∀ j t, j < i → ts[j]? = some t → gd t
/-- What the second loop holds on to. -/
def L2 (w wr : World) (ts : List Tt) (i c : Nat) (A6 : Option Addr) (cap6 : Nat) : Prop :=
  Below w.heap.size w wr ∧ Nm.Cur wr c A6 cap6 (cat ts) (cat (ts.take i)).length

set_option maxRecDepth 100000 in
set_option maxHeartbeats 1000000 in
theorem walk_long (A : Option Addr) (N cap : Nat) (w : World) (h : 20 < N) :
    Calls Try.prog 8 #[.slice A N cap] w fun e w' => e = .returned (.bool true) ∧ Below w.heap.size w w' := by
  have hd : decide ((20 : Int) < (N : Int)) = true := decide_eq_true (by omega)
  have B0 := Lib.hid (Below.refl w.heap.size w)
  go_enter Try.func8, Try.ntmps8
  go_wp2_with (first
    | (go_at_call 12; refine (known_any _).mono ?_; rintro e w9 ⟨rfl, hb9⟩; have B9 := Lib.hid (below_on B0.out (Nat.le_refl _) hb9); clear hb9))
  go_ret
  exact ⟨rfl, B9.out⟩

set_option maxRecDepth 100000 in
set_option maxHeartbeats 2000000 in
theorem walk_ok (A : Option Addr) (ts : List Tt) (N cap : Nat) (w : World) (hN : ts.length = N) (h : N ≤ 20) (hR : RdT w A ts) (hO : ∀ t ∈ ts, TtOk w t) :
    Calls Try.prog 8 #[.slice A N cap] w fun e w' => e = .returned (.bool true) ∧ Below w.heap.size w w' := by
  have hd : decide ((20 : Int) < (N : Int)) = false := decide_eq_false (by omega)
  have S0 : Hid (L1 w w ts 0 none 0 0) := Lib.hid ⟨Below.refl _ _, World.ownsRow_nil _ _ _ _, fun j t hj => by omega⟩
  have HN := Lib.hid hN
  have HR := Lib.hid hR
  have HO := Lib.hid hO
  clear hN hR hO
  go_enter Try.func8, Try.ntmps8
  go_wp2_with fail
  go_loopw [3, 4] (fun a b wr => ∃ (i m c : Nat) (A' : Option Addr), i ≤ N ∧ m ≤ 400 * i ∧ a = .slice A' m c ∧ b = .int .i64 (i : Int) ∧ Hid (L1 w wr ts i A' m c)) (fun _ b _ => N - (intOf b).toNat)
  case atStart => exact ⟨0, 0, 0, none, Nat.zero_le _, Nat.zero_le _, rfl, rfl, S0⟩
  case round =>
    obtain ⟨i, m, c, A', hi, hm, rfl, rfl, HS⟩ := hrel
    obtain ⟨hb, ho, hg⟩ := HS.out
    by_cases hlt : i < N
    · obtain ⟨t, ht⟩ : ∃ t, ts[i]? = some t := ⟨_, List.getElem?_eq_getElem (by rw [HN.out]; exact hlt)⟩
      obtain ⟨ad, rfl, h0, h1⟩ := HR.out.at hb ht
      obtain ⟨q1, q2, q3⟩ := HO.out t (List.mem_of_getElem? ht)
      obtain ⟨y, B, n, cp, l⟩ := t
      simp only at h0 h1 q1 q2 q3
      have HT := Lib.hid ht
      have BW := Lib.hid hb
      have O0 := Lib.hid ho
      have HG := Lib.hid hg
      have HQ := Lib.hid q3
      have HQ1 := Lib.hid q1
      by_cases hn : 100 < n
      · have hnd : decide ((100 : Int) < (n : Int)) = true := decide_eq_true (by omega)
        clear HS ht hb ho hg q1 q2 q3 S0
        go_wp2_with (go_at_call 12; refine (known_any _).mono ?_; rintro e w9 ⟨rfl, hb9⟩; have B9 := Lib.hid (below_on BW.out (Nat.le_refl _) hb9); clear hb9)
        go_ret
        exact ⟨rfl, B9.out⟩
      · have hnd : decide ((100 : Int) < (n : Int)) = false := decide_eq_false (by omega)
        cases hv : may y l with
        | false =>
          have MY := Lib.hid (rmay_any wr y B l n cp q1 (by omega) (q3.below hb) false hv)
          clear HS ht hb ho hg q1 q2 q3 S0 hv
          go_wp2_with (first
            | (go_at_call 14; refine MY.out.mono ?_; rintro e w2 ⟨rfl, hb2⟩; have BM := Lib.hid (below_on BW.out (Nat.le_refl _) hb2); clear hb2)
            | (go_at_call 12; refine (known_any _).mono ?_; rintro e w9 ⟨rfl, hb9⟩; have B9 := Lib.hid (below_on BM.out (Nat.le_refl _) hb9); clear hb9))
          go_ret
          exact ⟨rfl, B9.out⟩
        | true =>
          obtain ⟨yy, rfl, hy1, hvt⟩ := may_iff.1 hv
          have MY := Lib.hid (rmay_any wr (yy : Int) B l n cp q1 (by omega) (q3.below hb) true hv)
          obtain ⟨X0, hX0⟩ : ∃ X0, Bt.pack (descr yy l) = X0 := ⟨_, rfl⟩
          obtain ⟨n0, hn0⟩ : ∃ n0, X0.length = n0 := ⟨_, rfl⟩
          have HGD : Hid (gd ⟨(yy : Int), B, n, cp, l⟩) := Lib.hid ⟨by show n ≤ 100; omega, yy, rfl, hy1, hvt⟩
          have hn4 : n0 ≤ 400 := by
            have := pk_len HGD.out
            rw [pk, Int.toNat_natCast, hX0] at this
            omega
          have EN : Hid (∀ W, Below w.heap.size w W → Calls Try.prog 13 #[tb (yy : Int) B n cp] W (EncP W X0 0)) := Lib.hid (fun W hw => by
            rw [← hX0]
            exact encode_ok W yy B l n cp q1 q2 (q3.below hw) hvt hy1)
          have HNX := Lib.hid hn0
          have NX : Hid (∀ w6 A6 c6, Below w.heap.size w w6 → w6.ownsRow w.heap.size 5 1 (.slice A6 (m + n0) c6) (m + n0) ((cat (ts.take i)).map Bt.byt ++ X0.map Bt.byt) → L1 w w6 ts (i + 1) A6 (m + n0) c6) := Lib.hid (fun w6 A6 c6 hb6 ho6 => by
            refine ⟨hb6, ?_, fun j t hj htj => ?_⟩
            · rw [cat_take HT.out, List.map_append]
              rw [pk, Int.toNat_natCast, hX0]
              exact ho6
            · rcases Nat.lt_or_ge j i with h2 | h2
              · exact HG.out j t h2 htj
              · have : j = i := by omega
                subst this
                rw [HT.out] at htj
                cases htj
                exact HGD.out)
          clear HS ht hb ho hg q1 q2 q3 S0 hv hvt hX0 hn0
          go_wp2_with (first
            | (go_at_call 14; refine MY.out.mono ?_; rintro e w2 ⟨rfl, hb2⟩; have BM := Lib.hid (below_on BW.out (Nat.le_refl _) hb2); have OM := Lib.hid (own_below O0.out hb2); obtain ⟨ad2, e2, k0, k1⟩ := HR.out.at BM.out HT.out; obtain rfl := Option.some.inj e2; clear hb2)
            | (go_at_call 13; refine (EN.out w2 BM.out).mono ?_; rintro e w3 ⟨A3, n3, c3, rfl, hb3⟩; obtain rfl : n0 = n3 := (hb3.1.trans HNX.out).symm; have Y3 := Lib.hid (bys_rd hb3); have B3 := Lib.hid (below_on BM.out (Nat.le_refl _) hb3.2.2); have O3 := Lib.hid (own_below OM.out hb3.2.2); clear hb3)
            | (at_builtin; refine wpList_append_vals Try.underlying26 byte_info rfl rfl _ _ rfl w.heap.size (.slice A' m c) m ((cat (ts.take i)).map Bt.byt) rfl O3.out A3 (X0.map Bt.byt) (Bt.byt_one X0) n0 c3 (by rw [List.length_map]; exact HNX.out) rfl Y3.out (by omega) (by omega) B3.out.size ?_; intro v4 w4 ho4 hg4 _; obtain ⟨A4, c4, rfl, _⟩ := own_form ho4; have N4 := Lib.hid (NX.out w4 A4 c4 (B3.out.grown hg4 B3.out.size (fun j ej => (O3.out.lt j ej).1)) ho4); clear ho4 hg4))
          exact ⟨⟨i + 1, m + n0, c4, A4, by omega, by omega, rfl, by simp, N4⟩, by simp [intOf]; omega⟩
    · have hiN : i = N := by omega
      subst hiN
      have htk : ts.take i = ts := List.take_of_length_le (by rw [HN.out]; exact Nat.le_refl _)
      rw [htk] at ho
      obtain ⟨X, hX⟩ : ∃ X, cat ts = X := ⟨_, rfl⟩
      have hXm : X.length = m := by rw [← hX]; have := ho.1; simp only [List.length_map, Nat.mul_one] at this; exact this
      have hm8 : m ≤ 8000 := by omega
      have NW : Hid (Calls Try.prog 19 #[.slice A' m c] wr (Nm.NewC wr X)) := Lib.hid (Nm.new_n wr A' X m c hXm (by omega) (bt_nm (by rw [hX] at ho; exact Bt.Rv.of_own ho)))
      have HG : Hid (∀ j t, ts[j]? = some t → gd t) := Lib.hid (fun j t htj => hg j t (by obtain ⟨h2, _⟩ := List.getElem?_eq_some_iff.1 htj; rw [HN.out] at h2; exact h2) htj)
      have BW := Lib.hid hb
      have HX := Lib.hid hX
      have HXL : Hid (X.length ≤ 1000000) := Lib.hid (by omega)
      clear HS hb ho hg S0 htk hX hXm
      go_wp2_with (go_at_call 19; refine NW.out.mono ?_; rintro q w6 ⟨c6, A6, cap6, rfl, hcw, hcur, hb6⟩; have HCW : Hid (w.heap.size ≤ c6) := Lib.hid (Nat.le_trans BW.out.size hcw); have N6 : Hid (L2 w w6 ts 0 c6 A6 cap6) := Lib.hid ⟨below_on BW.out (Nat.le_refl _) hb6, (by rw [HX.out, List.take_zero]; exact hcur)⟩; clear hcw hcur hb6)
      clear NW
      go_loopw [8] (fun a wx => ∃ j : Nat, j ≤ i ∧ a = .int .i64 (j : Int) ∧ Hid (L2 w wx ts j c6 A6 cap6)) (fun a _ => i - (intOf a).toNat)
      case atStart => exact ⟨0, Nat.zero_le _, rfl, N6⟩
      case round =>
        obtain ⟨j, hj, rfl, HS⟩ := hrel
        obtain ⟨hb, hcu⟩ := HS.out
        by_cases hlt : j < i
        · obtain ⟨t, ht⟩ : ∃ t, ts[j]? = some t := ⟨_, List.getElem?_eq_getElem (by rw [HN.out]; exact hlt)⟩
          have hgt := HG.out j t ht
          obtain ⟨q1, q2, q3⟩ := HO.out t (List.mem_of_getElem? ht)
          have hck := cat_take ht
          have hcd := cat_drop ht
          obtain ⟨y, B, n, cp, l⟩ := t
          obtain ⟨hn100, yy, hyy, hy1, hvt⟩ := hgt
          simp only at q1 q2 q3 hn100 hyy hvt
          subst hyy
          have HT := Lib.hid ht
          have hy9 := hvt.log
          rw [HX.out] at hcd hcu
          obtain ⟨K, hK⟩ : ∃ K, (cat (ts.take j)).length = K := ⟨_, rfl⟩
          rw [hK] at hcd hcu
          have DC : Hid (Calls Try.prog 20 #[.pointer (some ⟨c6, 0, none⟩), .int .i64 100, .int .i64 9] wr fun q w' => ∃ A7 n7 c7, q = .returned (.tuple #[tb (yy : Int) A7 n7 c7, .int .i64 0]) ∧ Nm.Cur w' c6 A6 cap6 X (cat (ts.take (j + 1))).length ∧ wr.grownBy w' (some c6) ∧ w'.ownsRow wr.heap.size 3 1 (.slice A7 n7 c7) n7 (l.map iv)) := Lib.hid (by
            have hd7 := decode_any hcu HXL.out 100 9
            rw [hcd, dcd_take, pk, Int.toNat_natCast, dcd_back hy1 hvt, if_pos ⟨by omega, by omega⟩] at hd7
            refine hd7.mono ?_
            rintro q w' ⟨A7, n7, c7, rfl, hcur7, hg7, ho7⟩
            refine ⟨A7, n7, c7, rfl, ?_, hg7, ho7⟩
            rw [hck, List.length_append, hK, pk, Int.toNat_natCast]
            exact hcur7)
          have SM : Hid (∀ W A7 n7 c7, Below w.heap.size w W → l.length = n7 → Ri W A7 l → Calls Try.prog 22 #[tb (yy : Int) A7 n7 c7, tb (yy : Int) B n cp] W fun e w' => e = .returned (.bool true) ∧ Below W.heap.size W w') := Lib.hid (fun W A7 n7 c7 hw hl hr2 => by
            have h7 := rsame_any W (yy : Int) (yy : Int) A7 B l l n7 c7 n cp hl q1 (by omega) hr2 (q3.below hw)
            rw [show sam (yy : Int) (yy : Int) l l = true by simp [sam]] at h7
            exact h7)
          have BW := Lib.hid hb
          clear HS ht hb hcu hck hcd q1 q2 q3 hvt hK N6
          go_upto_region 18 with (go_at_call 20; refine DC.out.mono ?_; rintro q w7 ⟨A7, n7, c7, rfl, hcur7, hg7, ho7⟩; have B7 : Hid (Below w.heap.size w w7) := Lib.hid (BW.out.grown hg7 BW.out.size (fun g eg => by (cases eg; exact HCW.out))); have bn := below_new w7 (.cells #[.int .i64 (yy : Int), .slice A7 n7 c7] 24); have S8 := Lib.hid (Tb.new w7 (yy : Int) A7 n7 c7); have R7 : Hid (Ri (w7.alloc (.cells #[.int .i64 (yy : Int), .slice A7 n7 c7] 24)) A7 l) := Lib.hid (Rv.below (Rv.of_own ho7) bn); have hl7 : Hid (l.length = n7) := Lib.hid (by (have := ho7.1; simp only [List.length_map, Nat.mul_one] at this; exact this)); have B8 := Lib.hid (below_on B7.out (Nat.le_refl _) bn); have CU8 := Lib.hid (hcur7.below bn); obtain ⟨b8, hb8⟩ : ∃ b8, w7.heap.size = b8 := ⟨_, rfl⟩; obtain ⟨w8, hw8⟩ : ∃ w8, w7.alloc (.cells #[.int .i64 (yy : Int), .slice A7 n7 c7] 24) = w8 := ⟨_, rfl⟩; rw [hw8] at S8 R7 B8 CU8; rw [hb8] at S8; clear hcur7 hg7 ho7 bn)
          obtain ⟨ad, rfl, p2, p3⟩ := HR.out.at B8.out HT.out
          have p0 := S8.out.c0
          have p1 := S8.out.c1
          clear DC
          go_region_held3 (fun W => W.cell? ⟨b8, 0, none⟩ = some (.int .i64 (yy : Int)) ∧ W.cell? ⟨b8, 1, none⟩ = some (.slice A7 n7 c7) ∧ W.cell? (ad.add (j * 2)) = some (.int .i64 (yy : Int)) ∧ W.cell? { block := (ad.add (j * 2)).block, off := (ad.add (j * 2)).off + 1 } = some (.slice B n cp)) (first | exact ⟨p0, p1, p2, p3⟩ | exact ⟨ra0, ra1, ra2, ra3⟩) (first
            | (go_at_call 22; refine (SM.out _ _ _ _ (below_drewN' B8.out _) hl7.out R7.out).mono ?_; rintro e wa ⟨rfl, hba⟩; have ra0 := (hba.cell (cell_lt p0)).trans p0; have ra1 := (hba.cell (cell_lt p1)).trans p1; have ra2 := (hba.cell (cell_lt p2)).trans p2; have ra3 := (hba.cell (cell_lt p3)).trans p3; have KA : Hid (Below w8.heap.size w8 wa) := Lib.hid ⟨hba.os, hba.tape, hba.output, hba.size, hba.block⟩; clear hba))
          all_goals go_wp2
          all_goals exact ⟨⟨j + 1, by omega, by simp, Lib.hid ⟨below_on B8.out (Nat.le_refl _) KA.out, HX.out.symm ▸ CU8.out.below KA.out⟩⟩, by simp [intOf]; omega⟩
        · have hji : j = i := by omega
          subst hji
          have htk : ts.take j = ts := List.take_of_length_le (by rw [HN.out]; exact Nat.le_refl _)
          rw [htk, HX.out] at hcu
          have EE : Hid (Calls Try.prog 26 #[.pointer (some ⟨c6, 0, none⟩)] wr fun e w' => e = .returned (.int .i64 0) ∧ ∃ d, w' = wr.drewN d) := Lib.hid (by
            have := Nm.end_any hcu
            rw [if_neg (by omega)] at this
            exact this)
          have BW := Lib.hid hb
          clear HS hb hcu htk N6
          go_wp2_with (first
            | (go_at_call 26; refine EE.out.mono ?_; rintro e wb ⟨rfl, d, rfl⟩)
            | (go_at_call 12; refine (known_any _).mono ?_; rintro e w9 ⟨rfl, hb9⟩; have B9 := Lib.hid (below_on (below_drewN' BW.out d) (Nat.le_refl _) hb9); clear hb9))
          go_ret
          exact ⟨rfl, B9.out⟩

theorem walk (A : Option Addr) (ts : List Tt) (cap : Nat) (w : World) (hR : RdT w A ts) (hO : ∀ t ∈ ts, TtOk w t) (_ : ts.length ≤ cap) :
    Calls Try.prog 8 #[.slice A ts.length cap] w fun e w' => e = .returned (.bool true) ∧ Below w.heap.size w w' := by
  by_cases h : 20 < ts.length
  · exact walk_long A _ cap w h
  · exact walk_ok A ts _ cap w rfl (by omega) hR hO
set_option maxRecDepth 100000 in
theorem lifted (os : Os) (started : os.Started) (H : Type) (enc : TypeId × Value → H) :
    ReturnsInHanded {} Try.checked os 8 .any (Rows.descRowSpec.pre6 enc Try.prog Try.f8 Rows.descRowRow.domain false) (Rows.descRowSpec.post enc Try.prog Try.f8 false true false false) := by
  refine returnsInHanded_of_change_sized (C := Try.checked) ownB started (by kernel_rfl) Try.func8
    (ChangeSpec.witness6 (enc := enc) (C := Try.checked) false ⟨#[], #[.slice none 0 0], []⟩ 8 (by kernel_rfl) (by kernel_rfl) (by kernel_rfl) (by kernel_rfl)) ?_
  intro W base args ds gs before hval0 hW _ hsz0 _
  have hsz : (DataW.weightsEach Try.prog (Try.f8.params.toList ++ Rows.descRowSpec.plain.varTypes Try.prog) (ds ++ gs)).all (· ≤ reachBytes) = true := hsz0
  clear hsz0
  have hval : ∀ (j : Nat) t v, Try.f8.params[j]? = some t → args[j]? = some v → Value.okWide Try.prog W .any base t v := hval0
  have hW' := hW
  obtain ⟨p, q, hA0, hV, rfl, hfz, hnd⟩ := hW
  have hA : DataW.TrodAll enc Try.prog W 0 (fun _ => true) true Try.f8.params.toList args.toList ds p := hA0
  rw [Try.params8] at hA hval hsz
  obtain ⟨v0, vs0, d0, ds0, p0, q0, hargs, rfl, rfl, h0, r0⟩ := trodAll_cons hA
  obtain ⟨rfl, rfl, rfl⟩ := trodAll_nil r0
  obtain rfl : args = #[v0] := by cases args; simp_all
  obtain ⟨rfl, rfl⟩ := trodVars_none hV
  obtain ⟨a0, len0, cap0, rfl⟩ := okWide_slice Try.underlying49 (hval 0 49 v0 rfl rfl)
  have k0 := h0
  have lt0 : ∀ x ∈ p0, x.block < W.heap.size := by obtain ⟨m, hm⟩ := k0; exact DataW.trod_lt m _ _ _ hm
  obtain ⟨l0, rfl, hc0, ra0, ok0⟩ := open_tabs h0
  clear hA0 hval0
  refine (walk a0 l0 cap0 W ra0 ok0 hc0).mono fun e W' ⟨he, bel⟩ => ?_
  subst he
  exact ⟨_, rfl, _, _, _, [], _, [], hW', trodAll_mk1 (shut_bool Try.underlying4 _), (trodAll_cons_mk (Below.trod laidOut (by kernel_rfl) (of_decide_eq_true (by kernel_rfl)) k0 bel lt0) trodAll_mk0), rfl, bel.frame _, fun h => by cases h⟩

theorem proved : Rows.DescRowSaid :=
  OpenClaim.holds_of_wide 8 Try.f8 rfl rfl rfl rfl rfl rfl rfl ⟨rfl, rfl, rfl, rfl, rfl⟩ rfl rfl rfl rfl rfl (by kernel_rfl) Try.func8 (by kernel_rfl)
    (of_decide_eq_true (by kernel_rfl)) (by unfold Func.isWrapper; rw [if_neg (by decide +kernel)]; exact ⟨rfl, rfl⟩)
    (fun os started H enc _ => lifted os started H enc)

#print axioms proved

end Go.Proofs.Ytpjbjbohbdlciaa.descRow
