/-
  Proved: the law TallyCounts returns true for all bytes and all cuts: Histogram returns the histogram of the concatenation of its arguments. No condition.
-/
import Derived.Test.YtbbkmmdlpmpaeaaFrm
import Derived.Test.YtbbkmmdlpmpaeaaRfC
namespace Go.Proofs.Ytbbkmmdlpmpaeaa.tallyCounts
open Go.ChangeShapes Go.WideShapes Go.ChangeAt Go.RowKit


set_option maxHeartbeats 1000000 in
theorem walk_a (A : Option Addr) (N c : Nat) (A2 : Option Addr) (M c2 : Nat) (w : World) (h : 700 < N) :
    Calls Try.prog 3 #[.slice A N c, .slice A2 M c2] w fun e w' => e = .returned (.bool true) ∧ Below w.heap.size w w' := by
  have hd : decide ((700 : Int) < (N : Int)) = true := decide_eq_true (by omega)
  go_enter Try.func3, Try.ntmps3
  go_wp2_with fail
  refine (works_any _).mono ?_
  rintro e wk ⟨rfl, hbk⟩
  have BK := Lib.hid hbk
  clear hbk
  go_wp2
  go_ret
  exact ⟨rfl, BK.out⟩


set_option maxHeartbeats 1000000 in
theorem walk_a2 (A : Option Addr) (N c : Nat) (A2 : Option Addr) (M c2 : Nat) (w : World) (h0 : N ≤ 700) (h : 40 < M) :
    Calls Try.prog 3 #[.slice A N c, .slice A2 M c2] w fun e w' => e = .returned (.bool true) ∧ Below w.heap.size w w' := by
  have hd0 : decide ((700 : Int) < (N : Int)) = false := decide_eq_false (by omega)
  have hd : decide ((40 : Int) < (M : Int)) = true := decide_eq_true (by omega)
  go_enter Try.func3, Try.ntmps3
  go_wp2_with fail
  refine (works_any _).mono ?_
  rintro e wk ⟨rfl, hbk⟩
  have BK := Lib.hid hbk
  clear hbk
  go_wp2
  go_ret
  exact ⟨rfl, BK.out⟩


theorem own_emptyb (w : World) : (w.alloc (.cells #[] 5)).ownsRow w.heap.size 5 1 (.slice (some ⟨w.heap.size, 0, none⟩) 0 0) 0 [] :=
  ⟨rfl, .inr ⟨w.heap.size, 0, #[], rfl, Nat.le_refl _, World.alloc_heap_new w _, Nat.le_refl _, by simp, by simp, by simp⟩⟩
theorem row_info : (Try.prog.info? 22).map (fun i => (i.zero, i.size, i.bytes)) = some (some (.slice none 0 0), 1, 24) := by kernel_rfl

/-- A slice as a value. -/
def sv (e : Option Addr × List UInt8 × Nat) : Value := .slice e.1 e.2.1.length e.2.2
theorem sv_rdr {w : World} {A : Option Addr} {ls : List (Option Addr × List UInt8 × Nat)} (h : Rv w A (ls.map sv)) (he : ∀ e ∈ ls, e.2.1.length ≤ e.2.2 ∧ Rd w e.1 e.2.1) : RdR w A ls := by
  intro j B m c hj
  obtain ⟨ad, h1, h2⟩ := h j (sv (B, m, c)) (by rw [List.getElem?_map, hj]; rfl)
  have := he _ (List.mem_of_getElem? hj)
  exact ⟨ad, h1, h2, this.1, this.2⟩
theorem flt_snoc (ls : List (Option Addr × List UInt8 × Nat)) (e : Option Addr × List UInt8 × Nat) : flt (ls ++ [e]) (ls.length + 1) = flt ls ls.length ++ e.2.1 := by
  unfold flt; rw [List.take_of_length_le (by simp), List.take_length]; simp
theorem take_cut (l : List UInt8) (a k : Nat) : l.take (a + k) = l.take a ++ (l.drop a).take k := List.take_add


set_option maxRecDepth 100000 in
set_option maxHeartbeats 4000000 in
theorem walk_b (A : Option Addr) (l : List UInt8) (N c : Nat) (A2 : Option Addr) (m : List UInt8) (M c2 : Nat) (w : World) (hN7 : N ≤ 700) (hM4 : M ≤ 40) (hN : l.length = N) (hM : m.length = M) (hR : Rd w A l) (hR2 : Rd w A2 m) :
    Calls Try.prog 3 #[.slice A N c, .slice A2 M c2] w fun e w' => e = .returned (.bool true) ∧ Below w.heap.size w w' := by
  have hd0 : decide ((700 : Int) < (N : Int)) = false := decide_eq_false (by omega)
  have hd : decide ((40 : Int) < (M : Int)) = false := decide_eq_false (by omega)
  have HN := Lib.hid hN
  have HM := Lib.hid hM
  have HR := Lib.hid hR
  have HR2 := Lib.hid hR2
  have O0 : Hid ((w.alloc (.cells #[] 5)).ownsRow w.heap.size 5 1 (.slice (some ⟨w.heap.size, 0, none⟩) 0 0) 0 []) := Lib.hid (own_emptyb w)
  have B0 : Hid (Below w.heap.size w (w.alloc (.cells #[] 5))) := Lib.hid ((Below.refl _ w).alloc (Nat.le_refl _) _)
  have R0 : Hid (Rd (w.alloc (.cells #[] 5)) A l) := Lib.hid (hR.below B0.out)
  clear hN hM hR hR2
  go_enter Try.func3, Try.ntmps3
  go_wp2_with (at_builtin; refine wpList_append_vals Try.underlying22 byte_info rfl rfl _ _ rfl w.heap.size (.slice (some ⟨w.heap.size, 0, none⟩) 0 0) 0 [] rfl O0.out A (l.map byt) (byt_one l) N c (by rw [List.length_map]; exact HN.out) rfl R0.out (by omega) (by omega) B0.out.size ?_; intro v1 w1 ho hg he; rw [Nat.zero_add, List.nil_append] at ho; obtain ⟨A1, c1, rfl, hc1⟩ := own_form ho; have B1 := Lib.hid (B0.out.grown hg B0.out.size (fun j ej => by cases ej; exact Nat.le_refl _)); have O1 := Lib.hid ho; clear ho hg he)
  have R1 : Hid (Rd w1 A1 l) := Lib.hid (Rv.of_own O1.out)
  clear O0 B0 R0 O1
  go_loopw [6, 7, 8] (fun q t p wr => ∃ (i a cq : Nat) (Aq : Option Addr) (ls : List (Option Addr × List UInt8 × Nat)), i ≤ M ∧ a ≤ N ∧ i ≤ cq ∧ q = .slice Aq i cq ∧ t = .int .i64 (a : Int) ∧ p = .int .i64 (i : Int) ∧ Hid (ls.length = i) ∧ Hid (flt ls ls.length = l.take a) ∧ Hid (∀ e ∈ ls, e.2.1.length ≤ e.2.2 ∧ Rd w1 e.1 e.2.1) ∧ Hid (wr.ownsRow w1.heap.size 22 1 (.slice Aq i cq) i (ls.map sv)) ∧ Hid (Below w1.heap.size w1 wr)) (fun _ _ p _ => M - (intOf p).toNat)
  case atStart => exact ⟨0, 0, 0, none, [], Nat.zero_le _, Nat.zero_le _, Nat.le_refl _, rfl, rfl, rfl, Lib.hid rfl, Lib.hid (by simp [flt]), Lib.hid (fun e he => by simp at he), Lib.hid (World.ownsRow_nil w1 w1.heap.size 22 1), Lib.hid (Below.refl _ _)⟩
  case round =>
    obtain ⟨i, a, cq, Aq, ls, hi, ha, hiq, rfl, rfl, rfl, HLN, HF, HE, HO, HB⟩ := hrel
    by_cases hlt : i < M
    · obtain ⟨x, hx⟩ : ∃ x, m[i]? = some x := ⟨_, List.getElem?_eq_getElem (by rw [HM.out]; exact hlt)⟩
      obtain ⟨ad, rfl, hc⟩ := HR2.out i (byt x) (by rw [List.getElem?_map, hx]; rfl)
      have hcc := ((below_on B1.out (Nat.le_refl _) HB.out).cell (cell_lt hc)).trans hc
      have hxl := x.toNat_lt
      obtain ⟨y, hy⟩ : ∃ y, x.toNat = y := ⟨_, rfl⟩
      simp only [byt] at hcc
      rw [hy] at hcc hxl
      obtain ⟨k, hk⟩ : ∃ k, min (y % 60) (N - a) = k := ⟨_, rfl⟩
      have hkN : a + k ≤ N := by omega
      have hmin : min ((y : Int) % 60) ((N : Int) - (a : Int)) = (k : Int) := by omega
      have sl := fun W => slice_cut A1 N c1 a k (by omega) W
      have HOB : Hid ((wr.alloc (.cells #[.slice (off A1 c1 a) k (c1 - a)] 22)).ownsRow w1.heap.size 22 1 (.slice Aq i cq) i (ls.map sv)) := Lib.hid (own_below HO.out ((Below.refl _ wr).alloc (Nat.le_refl _) _))
      have HBB : Hid (Below w1.heap.size w1 (wr.alloc (.cells #[.slice (off A1 c1 a) k (c1 - a)] 22))) := Lib.hid (HB.out.alloc HB.out.size _)
      have HLR : Hid (Rv (wr.alloc (.cells #[.slice (off A1 c1 a) k (c1 - a)] 22)) (some ⟨wr.heap.size, 0, none⟩) [.slice (off A1 c1 a) k (c1 - a)]) := Lib.hid (lit1_rv wr _ 22)
      have HGE : Hid (∀ g, (Value.slice Aq i cq).ownBlock = some g → w1.heap.size ≤ g) := Lib.hid (fun g e => own_ge HO.out e)
      have HNE : Hid ((off A1 c1 a, (l.drop a).take k, c1 - a).2.1.length = k) := Lib.hid (by simp; have := HN.out; omega)
      have HNR : Hid (Rd w1 (off A1 c1 a) ((l.drop a).take k)) := Lib.hid (cut_rd R1.out (by rw [HN.out]; exact hc1))
      clear hx hc hy hk
      go_wp2_with (at_builtin; refine wpList_append_vals Try.underlying24 row_info rfl rfl _ _ rfl w1.heap.size (.slice Aq i cq) i (ls.map sv) rfl HOB.out (some ⟨wr.heap.size, 0, none⟩) [.slice (off A1 c1 a) k (c1 - a)] (by simp [Value.oneCell']) 1 1 rfl rfl HLR.out (by omega) (by omega) HBB.out.size ?_; intro v3 w3 ho hg he; obtain ⟨A3, c3, rfl, hc3⟩ := own_form ho; have B3 := Lib.hid (HBB.out.grown hg HBB.out.size HGE.out); have O3 := Lib.hid ho; clear ho hg he)
      refine ⟨⟨i + 1, a + k, c3, A3, ls ++ [(off A1 c1 a, (l.drop a).take k, c1 - a)], by omega, hkN, hc3, rfl, by simp, by simp, Lib.hid (by rw [List.length_append, HLN.out]; rfl), Lib.hid ?_, Lib.hid ?_, Lib.hid ?_, B3⟩, by simp [intOf]; omega⟩
      · rw [show (ls ++ [(off A1 c1 a, (l.drop a).take k, c1 - a)]).length = ls.length + 1 by simp, flt_snoc, HF.out, take_cut]
      · intro e he
        rcases List.mem_append.1 he with he | he
        · exact HE.out e he
        · simp at he
          subst he
          exact ⟨by rw [HNE.out]; show k ≤ c1 - a; omega, HNR.out⟩
      · rw [List.map_append]
        have := O3.out
        simp only [List.map_cons, List.map_nil, sv, HNE.out]
        exact this
    · have sl := fun W => slice_lo A1 N c1 a ha W
      have HOB : Hid ((wr.alloc (.cells #[.slice (off A1 c1 a) (N - a) (c1 - a)] 22)).ownsRow w1.heap.size 22 1 (.slice Aq i cq) i (ls.map sv)) := Lib.hid (own_below HO.out ((Below.refl _ wr).alloc (Nat.le_refl _) _))
      have HBB : Hid (Below w1.heap.size w1 (wr.alloc (.cells #[.slice (off A1 c1 a) (N - a) (c1 - a)] 22))) := Lib.hid (HB.out.alloc HB.out.size _)
      have HLR : Hid (Rv (wr.alloc (.cells #[.slice (off A1 c1 a) (N - a) (c1 - a)] 22)) (some ⟨wr.heap.size, 0, none⟩) [.slice (off A1 c1 a) (N - a) (c1 - a)]) := Lib.hid (lit1_rv wr _ 22)
      have HGE : Hid (∀ g, (Value.slice Aq i cq).ownBlock = some g → w1.heap.size ≤ g) := Lib.hid (fun g e => own_ge HO.out e)
      have HNE : Hid ((off A1 c1 a, l.drop a, c1 - a).2.1.length = N - a) := Lib.hid (by simp [HN.out])
      have HNR : Hid (Rd w1 (off A1 c1 a) (l.drop a)) := Lib.hid (off_rd R1.out (by rw [HN.out]; exact hc1))
      go_wp2_with (at_builtin; refine wpList_append_vals Try.underlying24 row_info rfl rfl _ _ rfl w1.heap.size (.slice Aq i cq) i (ls.map sv) rfl HOB.out (some ⟨wr.heap.size, 0, none⟩) [.slice (off A1 c1 a) (N - a) (c1 - a)] (by simp [Value.oneCell']) 1 1 rfl rfl HLR.out (by omega) (by omega) HBB.out.size ?_; intro v3 w3 ho hg he; obtain ⟨A3, c3, rfl, hc3⟩ := own_form ho; have B3 := Lib.hid (HBB.out.grown hg HBB.out.size HGE.out); have O3 := Lib.hid ho; clear ho hg he)
      have HL2 : Hid ((ls ++ [(off A1 c1 a, l.drop a, c1 - a)]).length = i + 1) := Lib.hid (by rw [List.length_append, HLN.out]; rfl)
      have HF2 : Hid (flt (ls ++ [(off A1 c1 a, l.drop a, c1 - a)]) (i + 1) = l) := Lib.hid (by rw [← HLN.out, flt_snoc, HF.out, List.take_append_drop])
      have HRR : Hid (RdR w3 A3 (ls ++ [(off A1 c1 a, l.drop a, c1 - a)])) := Lib.hid (sv_rdr (by rw [List.map_append]; have := Rv.of_own O3.out; simp only [List.map_cons, List.map_nil, sv, HNE.out]; exact this) (fun e he => by
        rcases List.mem_append.1 he with he | he
        · exact ⟨(HE.out e he).1, (HE.out e he).2.below B3.out⟩
        · simp at he
          subst he
          exact ⟨by rw [HNE.out]; show N - a ≤ c1 - a; omega, HNR.out.below B3.out⟩))
      have HH := Lib.hid (histogram_any w3 A3 _ (i + 1) c3 HL2.out (by omega) (by rw [HF2.out, HN.out]; omega) HRR.out)
      rw [HF2.out] at HH
      clear HOB HBB HLR HGE HO HRR HE HF sl
      refine HH.out.mono ?_
      rintro e w4 ⟨rfl, hab, hb4⟩
      have B4 := Lib.hid (below_on B3.out (Nat.le_refl _) hb4)
      have BW4 : Hid (Below w.heap.size w w4) := Lib.hid (below_on B1.out (Nat.le_refl _) B4.out)
      have R4 : Hid (Rn w4 (some ⟨w3.heap.size, 0, none⟩) (hs l)) := Lib.hid hab.rn
      have HC := Lib.hid (rcounts_any w4 A l N c HN.out (by omega) (HR.out.below BW4.out))
      clear hab hb4 HH O3 B3
      go_wp2_with fail
      refine HC.out.mono ?_
      rintro e w5 ⟨rfl, ho5, hb5⟩
      have R5 : Hid (Ri w5 (some ⟨w3.heap.size, 0, none⟩) ((hs l).map (fun n : Nat => (n : Int)))) := Lib.hid (by show Rv _ _ _; rw [ri_nats]; exact R4.out.below hb5)
      have R6 : Hid (Ri w5 (some ⟨w4.heap.size, 0, none⟩) ((hs l).map (fun n : Nat => (n : Int)))) := Lib.hid (by show Rv _ _ _; rw [ri_nats]; exact Rv.of_own ho5)
      have B5 := Lib.hid (below_on B4.out (Nat.le_refl _) hb5)
      have HL9 : Hid (((hs l).map (fun n : Nat => (n : Int))).length = 256) := Lib.hid (by rw [List.length_map, hs_len])
      clear ho5 hb5 HC B4 R4 BW4
      go_wp2_with fail
      refine (same_any w5 _ _ 256 256 HL9.out (by omega) R5.out _ _ 256 256 HL9.out R6.out).mono ?_
      rw [show decide ((hs l).map (fun n : Nat => (n : Int)) = (hs l).map (fun n : Nat => (n : Int))) = true from decide_eq_true rfl]
      rintro e w6 ⟨rfl, hw6⟩
      have B6 : Hid (Below w1.heap.size w1 w6) := Lib.hid (by obtain ⟨d, rfl⟩ := hw6; exact below_drewN' B5.out d)
      have BZ : Hid (Below w.heap.size w w6) := Lib.hid (below_on B1.out (Nat.le_refl _) B6.out)
      have s1 := conv_bytes w6 A1 l N c1 HN.out (R1.out.below B6.out)
      have s2 := conv_bytes w6 A l N c HN.out (HR.out.below BZ.out)
      clear hw6 R5 R6 HL9 B5
      go_wp2_with (first
    | (go_at_call 13; refine (works_any _).mono ?_; rintro e wk ⟨rfl, hbk⟩; have BK := Lib.hid (below_on BZ.out (Nat.le_refl _) hbk); clear hbk))
      go_ret
      exact ⟨by simp, BK.out⟩


theorem walk (A : Option Addr) (l : List UInt8) (c : Nat) (A2 : Option Addr) (m : List UInt8) (c2 : Nat) (w : World) (hR : Rd w A l) (_ : l.length ≤ 140737488351232) (_ : l.length ≤ c) (hR2 : Rd w A2 m) (_ : m.length ≤ 140737488351232) (_ : m.length ≤ c2) :
    Calls Try.prog 3 #[.slice A l.length c, .slice A2 m.length c2] w fun e w' => e = .returned (.bool true) ∧ Below w.heap.size w w' := by
  by_cases h : 700 < l.length
  · exact walk_a A _ c A2 _ c2 w h
  · by_cases h2 : 40 < m.length
    · exact walk_a2 A _ c A2 _ c2 w (by omega) h2
    · exact walk_b A l _ c A2 m _ c2 w (by omega) (by omega) rfl rfl hR hR2

set_option maxRecDepth 100000 in
theorem lifted (os : Os) (started : os.Started) (H : Type) (enc : TypeId × Value → H) :
    ReturnsInHanded {} Try.checked os 3 .any (Rows.tallyCountsSpec.pre6 enc Try.prog Try.f3 Rows.tallyCountsRow.domain false) (Rows.tallyCountsSpec.post enc Try.prog Try.f3 false true false false) := by
  refine returnsInHanded_of_change_sized (C := Try.checked) ownB started (by kernel_rfl) Try.func3
    (ChangeSpec.witness6 (enc := enc) (C := Try.checked) false ⟨#[], #[.slice none 0 0, .slice none 0 0], []⟩ 8 (by kernel_rfl) (by kernel_rfl) (by kernel_rfl) (by kernel_rfl)) ?_
  intro W base args ds gs before hval0 hW _ hsz0 _
  have hsz : (DataW.weightsEach Try.prog (Try.f3.params.toList ++ Rows.tallyCountsSpec.plain.varTypes Try.prog) (ds ++ gs)).all (· ≤ reachBytes) = true := hsz0
  clear hsz0
  have hval : ∀ (j : Nat) t v, Try.f3.params[j]? = some t → args[j]? = some v → Value.okWide Try.prog W .any base t v := hval0
  have hW' := hW
  obtain ⟨p, q, hA0, hV, rfl, hfz, hnd⟩ := hW
  have hA : DataW.TrodAll enc Try.prog W 0 (fun _ => true) true Try.f3.params.toList args.toList ds p := hA0
  rw [Try.params3] at hA hval hsz
  obtain ⟨v0, vs0, d0, ds0, p0, q0, hargs, rfl, rfl, h0, r0⟩ := trodAll_cons hA
  obtain ⟨v1, vs1, d1, ds1, p1, q1, rfl, rfl, rfl, h1, r1⟩ := trodAll_cons r0
  obtain ⟨rfl, rfl, rfl⟩ := trodAll_nil r1
  obtain rfl : args = #[v0, v1] := by cases args; simp_all
  obtain ⟨rfl, rfl⟩ := trodVars_none hV
  obtain ⟨a0, len0, cap0, rfl⟩ := okWide_slice Try.underlying22 (hval 0 22 v0 rfl rfl)
  have k0 := h0
  have lt0 : ∀ x ∈ p0, x.block < W.heap.size := by obtain ⟨m, hm⟩ := k0; exact DataW.trod_lt m _ _ _ hm
  obtain ⟨l0, rfl, hc0, rd0, hd0⟩ := open_bytes h0
  have hs0 : l0.length ≤ 140737488351232 := by
    rcases hd0 with ⟨h, _⟩ | ⟨es, sp, rfl, h⟩
    · omega
    · have := sized_slice hsz (j := 0) (t := 22) (e := 5) rfl rfl Try.underlying22
      rw [bytes_byte] at this
      simp only [reachBytes] at this
      omega
  obtain ⟨a1, len1, cap1, rfl⟩ := okWide_slice Try.underlying22 (hval 1 22 v1 rfl rfl)
  have k1 := h1
  have lt1 : ∀ x ∈ p1, x.block < W.heap.size := by obtain ⟨m, hm⟩ := k1; exact DataW.trod_lt m _ _ _ hm
  obtain ⟨l1, rfl, hc1, rd1, hd1⟩ := open_bytes h1
  have hs1 : l1.length ≤ 140737488351232 := by
    rcases hd1 with ⟨h, _⟩ | ⟨es, sp, rfl, h⟩
    · omega
    · have := sized_slice hsz (j := 1) (t := 22) (e := 5) rfl rfl Try.underlying22
      rw [bytes_byte] at this
      simp only [reachBytes] at this
      omega
  clear hA0 hval0
  refine (walk a0 l0 cap0 a1 l1 cap1 W rd0 hs0 hc0 rd1 hs1 hc1).mono fun e W' ⟨he, bel⟩ => ?_
  subst he
  exact ⟨_, rfl, _, _, _, [], _, [], hW', trodAll_mk1 (shut_bool Try.underlying4 _), (trodAll_cons_mk (Below.trod laidOut (by kernel_rfl) (of_decide_eq_true (by kernel_rfl)) k0 bel lt0) (trodAll_cons_mk (Below.trod laidOut (by kernel_rfl) (of_decide_eq_true (by kernel_rfl)) k1 bel lt1) trodAll_mk0)), rfl, bel.frame _, fun h => by cases h⟩

theorem proved : Rows.TallyCountsSaid :=
  OpenClaim.holds_of_wide 3 Try.f3 rfl rfl rfl rfl rfl rfl rfl ⟨rfl, rfl, rfl, rfl, rfl⟩ rfl rfl rfl rfl rfl (by kernel_rfl) Try.func3 (by kernel_rfl)
    (of_decide_eq_true (by kernel_rfl)) (by unfold Func.isWrapper; rw [if_neg (by decide +kernel)]; exact ⟨rfl, rfl⟩)
    (fun os started H enc _ => lifted os started H enc)

#print axioms proved

end Go.Proofs.Ytbbkmmdlpmpaeaa.tallyCounts
