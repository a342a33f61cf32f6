/-
  RingAhead returns true for every input, and each argument reads afterwards as it read before. Condition: the package's sizes are what the program's text lays.
-/
import Derived.Test.YtibighlkgbgjdaaDoorFrm
import Derived.Test.YtibighlkgbgjdaaDoorTwo
namespace Go.Proofs.YtibighlkgbgjdaaDoor.ringAhead
open Go.ChangeShapes Go.WideShapes Go.ChangeAt Go.RowKit

set_option maxRecDepth 100000 in
set_option maxHeartbeats 4000000 in
theorem walk_else (z : Int) (A : Option Addr) (M ca : Nat) (B : Option Addr) (N cb : Nat) (d n : Int) (w : World) (hg : Gl w) (hz : z < 1 ∨ 300 < z ∨ 200 < M ∨ 200 < N ∨ 200 < n) :
    Calls Tryd.prog 8 #[.int .i64 z, .slice A M ca, .slice B N cb, .int .i64 d, .int .i64 n] w fun e w' => e = .returned (.bool true) ∧ Below w.heap.size w w' := by
  have WK := Lib.hid (works_any w hg)
  obtain ⟨b1, e1⟩ : ∃ b, decide (z < 1) = b := ⟨_, rfl⟩
  obtain ⟨b2, e2⟩ : ∃ b, decide (300 < z) = b := ⟨_, rfl⟩
  obtain ⟨b3, e3⟩ : ∃ b, decide ((200 : Int) < (M : Int)) = b := ⟨_, rfl⟩
  obtain ⟨b4, e4⟩ : ∃ b, decide ((200 : Int) < (N : Int)) = b := ⟨_, rfl⟩
  obtain ⟨b5, e5⟩ : ∃ b, decide (200 < n) = b := ⟨_, rfl⟩
  have hor : b1 = true ∨ b2 = true ∨ b3 = true ∨ b4 = true ∨ b5 = true := by
    rw [← e1, ← e2, ← e3, ← e4, ← e5]
    simp only [decide_eq_true_eq]
    omega
  clear hz
  rcases b1 with _ | _
  · rcases b2 with _ | _
    · rcases b3 with _ | _
      · rcases b4 with _ | _
        · rcases b5 with _ | _
          · simp at hor
          · go_enter Tryd.func8, Tryd.ntmps8
            go_wp2_with (go_at_call 12; refine WK.out.mono ?_; rintro e w1 ⟨rfl, hb⟩; have HB := Lib.hid hb; clear hb)
            go_ret
            exact ⟨rfl, HB.out⟩
        · go_enter Tryd.func8, Tryd.ntmps8
          go_wp2_with (go_at_call 12; refine WK.out.mono ?_; rintro e w1 ⟨rfl, hb⟩; have HB := Lib.hid hb; clear hb)
          go_ret
          exact ⟨rfl, HB.out⟩
      · go_enter Tryd.func8, Tryd.ntmps8
        go_wp2_with (go_at_call 12; refine WK.out.mono ?_; rintro e w1 ⟨rfl, hb⟩; have HB := Lib.hid hb; clear hb)
        go_ret
        exact ⟨rfl, HB.out⟩
    · go_enter Tryd.func8, Tryd.ntmps8
      go_wp2_with (go_at_call 12; refine WK.out.mono ?_; rintro e w1 ⟨rfl, hb⟩; have HB := Lib.hid hb; clear hb)
      go_ret
      exact ⟨rfl, HB.out⟩
  · go_enter Tryd.func8, Tryd.ntmps8
    go_wp2_with (go_at_call 12; refine WK.out.mono ?_; rintro e w1 ⟨rfl, hb⟩; have HB := Lib.hid hb; clear hb)
    go_ret
    exact ⟨rfl, HB.out⟩


set_option maxRecDepth 100000 in
set_option maxHeartbeats 8000000 in
theorem walk_ok (lim : Nat) (h1 : 1 ≤ lim) (h2 : lim ≤ 300) (A : Option Addr) (a : List UInt8) (M ca : Nat) (hM : a.length = M) (hMc : M ≤ ca) (hM2 : M ≤ 200) (B : Option Addr) (b : List UInt8) (N cb : Nat) (hN : b.length = N) (hNc : N ≤ cb) (hN2 : N ≤ 200) (D n : Nat) (hn : n ≤ 200) (hD1 : 1 ≤ D) (hD : D ≤ (fin lim (a ++ b)).length) (w : World) (hg : Gl w) (hA : Rd w A a) (hB : Rd w B b) :
    Calls Tryd.prog 8 #[.int .i64 (lim : Int), .slice A M ca, .slice B N cb, .int .i64 (D : Int), .int .i64 (n : Int)] w fun e w' => e = .returned (.bool true) ∧ Below w.heap.size w w' := by
  have HG := Lib.hid hg
  have HA := Lib.hid hA
  have HB := Lib.hid hB
  have HM := Lib.hid hM
  have HN := Lib.hid hN
  have d1 : decide ((lim : Int) < 1) = false := decide_eq_false (by omega)
  have d2 : decide ((300 : Int) < (lim : Int)) = false := decide_eq_false (by omega)
  have d3 : decide ((200 : Int) < (M : Int)) = false := decide_eq_false (by omega)
  have d4 : decide ((200 : Int) < (N : Int)) = false := decide_eq_false (by omega)
  have d5 : decide ((200 : Int) < (n : Int)) = false := decide_eq_false (by omega)
  have N1 := Lib.hid (at_new hg (Below.refl _ w) lim h1 (by omega) A a M ca hM hMc (by omega) hA)
  clear hg hA hB hM hN
  go_enter Tryd.func8, Tryd.ntmps8
  go_wp2_with fail
  refine N1.out.mono ?_
  rintro e w1 ⟨x, v1, rfl, a1, _, _⟩
  have A1 := Lib.hid a1
  clear a1 N1 d1 d2 d3 d4
  have O0 : Hid ((w1.alloc (.cells #[] 5)).ownsRow w1.heap.size 5 1 (.slice (some ⟨w1.heap.size, 0, none⟩) 0 0) 0 []) := Lib.hid (own_empty w1)
  have B0 : Hid (Below w1.heap.size w1 (w1.alloc (.cells #[] 5))) := Lib.hid (lit_bel w1 _)
  have W1B : Hid (Below w.heap.size w w1) := Lib.hid A1.out.bel
  go_wp2_with (first
    | (at_builtin; refine wpList_append_vals Tryd.underlying22 byte_info rfl rfl _ _ rfl w1.heap.size (.slice (some ⟨w1.heap.size, 0, none⟩) 0 0) 0 [] rfl O0.out A (a.map byt) (byt_one a) M ca (by rw [List.length_map]; exact HM.out) rfl ((HA.out.below W1B.out).below B0.out) (by omega) (by omega) B0.out.size ?_; intro v2 w2 ho hg he; rw [Nat.zero_add, List.nil_append] at ho; obtain ⟨A2, c2, rfl, hc2⟩ := own_form ho; have B2 := Lib.hid (B0.out.grown hg B0.out.size (fun j ej => by cases ej; exact Nat.le_refl _)); have O2 := Lib.hid ho; clear ho hg he O0 B0)
    | (at_builtin; refine wpList_append_vals Tryd.underlying22 byte_info rfl rfl _ _ rfl w1.heap.size (.slice A2 M c2) M (a.map byt) rfl O2.out B (b.map byt) (byt_one b) N cb (by rw [List.length_map]; exact HN.out) rfl ((HB.out.below W1B.out).below B2.out) (by omega) (by omega) B2.out.size ?_; intro v3 w3 ho hg he; rw [← List.map_append] at ho; obtain ⟨A3, c3, rfl, hc3⟩ := own_form ho; have B3 := Lib.hid (B2.out.grown hg B2.out.size (fun j ej => own_base O2.out ej)); have O3 := Lib.hid ho; clear ho hg he O2 B2))
  refine (at_new HG.out (below_on W1B.out (Nat.le_refl _) B3.out) lim h1 (by omega) A3 (a ++ b) (M + N) c3 (by rw [List.length_append, HM.out, HN.out]) hc3 (by omega) (Rv.of_own O3.out)).mono ?_
  rintro e w4 ⟨y, u4, rfl, a4, b4, o4⟩
  have T4 := Lib.hid (Two.new (A1.out.below B3.out) a4 b4 o4)
  clear a4 b4 o4 O3 B3 A1
  have AD := Lib.hid (at_add T4.out.a B b N cb HN.out hNc (by omega) (by decide) (HB.out.below T4.out.a.bel) (T4.out.a.out HB.out))
  rw [fin_fin_app] at AD
  obtain ⟨L, hL⟩ : ∃ L, fin lim (a ++ b) = L := ⟨_, rfl⟩
  rw [hL] at AD T4
  have HL := Lib.hid hL
  clear hL
  go_wp2_with fail
  refine AD.out.mono ?_
  rintro e w5 ⟨v5, rfl, a5, c5, n5⟩
  have T5 := Lib.hid (T4.out.left a5 c5 n5)
  clear a5 c5 n5 AD T4
  have EQ := Lib.hid (T5.out.equal true (by simp))
  go_wp2_with fail
  refine (num_any _ _).mono ?_
  rintro e w5 ⟨rfl, rfl⟩
  go_wp2_with fail
  refine (num_any _ _).mono ?_
  rintro e w5 ⟨rfl, rfl⟩
  go_wp2_with fail
  refine (num_any _ _).mono ?_
  rintro e w5 ⟨rfl, rfl⟩
  go_wp2_with fail
  refine EQ.out.mono ?_
  rintro e w6 ⟨rfl, t6, _⟩
  have T6 := Lib.hid t6
  clear t6 EQ T5
  have TA := Lib.hid T6.out.a.rg.total_any
  have TB := Lib.hid T6.out.b.rg.total_any
  rw [Nat.zero_add] at TA
  go_wp2_with fail
  refine TA.out.mono ?_
  rintro e w6 ⟨rfl, rfl⟩
  go_wp2_with fail
  refine TB.out.mono ?_
  rintro e w6 ⟨rfl, rfl⟩
  clear TA TB
  have CA := Lib.hid (at_copy T6.out.a D n hD1 (by rw [← HL.out]; exact hD) (by omega) (by omega) _ rfl _ rfl)
  go_wp2_with fail
  refine CA.out.mono ?_
  rintro e w7 ⟨AC, cC, v7, rfl, a7, hcC, ho7, hne7, c7, n7⟩
  have T7 := Lib.hid (T6.out.left a7 c7 n7)
  have KN : Hid (∀ g, (Value.slice AC n cC).ownBlock = some g → ¬ Fp y u4 g) := Lib.hid fun g e hf => by
    have h1 := own_base ho7 e
    have h2 := T6.out.b.rg.fp_lt hf
    omega
  have O7 := Lib.hid ho7
  clear a7 c7 n7 ho7 hne7 CA T6
  have CB := Lib.hid (at_copy T7.out.b D n hD1 (by rw [← HL.out]; exact hD) (by omega) (by decide) _ rfl _ rfl)
  have S7 := Lib.hid T7.out.swap
  go_wp2_with fail
  refine CB.out.mono ?_
  rintro e w8 ⟨AE, cE, v8, rfl, a8, hcE, ho8, hne8, c8, n8⟩
  have T8 := Lib.hid (S7.out.left a8 c8 n8).swap
  have q2 := conv_len w8 AE _ n cE (cyc_len _ _) (Rv.of_own ho8)
  have q1 := conv_len w8 AC _ n cC (cyc_len _ _) (Rv.of_own (own_same O7.out fun g hgg => c8.block g (own_lt O7.out hgg) (KN.out g hgg)))
  clear a8 c8 n8 ho8 hne8 CB T7 S7 O7
  obtain ⟨T, hT⟩ : ∃ T, cyc (L.drop (L.length - D)) n = T := ⟨_, rfl⟩
  rw [hT] at q1 q2 T8
  have EQ2 := Lib.hid (T8.out.equal true (by simp))
  clear hT
  go_wp2_with fail
  refine EQ2.out.mono ?_
  rintro e w8 ⟨rfl, t8, _⟩
  have T8 := Lib.hid t8
  clear t8
  go_wp2_with fail
  refine (works_any _ (HG.out.bel T8.out.a.bel)).mono ?_
  rintro e wk ⟨rfl, hbk⟩
  have BK := Lib.hid (below_on T8.out.a.bel (Nat.le_refl _) hbk)
  clear hbk
  go_wp2
  go_ret
  exact ⟨rfl, BK.out⟩

set_option maxRecDepth 100000 in
set_option maxHeartbeats 8000000 in
theorem walk_bad (lim : Nat) (h1 : 1 ≤ lim) (h2 : lim ≤ 300) (A : Option Addr) (a : List UInt8) (M ca : Nat) (hM : a.length = M) (hMc : M ≤ ca) (hM2 : M ≤ 200) (B : Option Addr) (b : List UInt8) (N cb : Nat) (hN : b.length = N) (hNc : N ≤ cb) (hN2 : N ≤ 200) (d n R : Int) (hn : n ≤ 200) (hR : obj (fin lim (a ++ b)).length d n = R) (hR0 : R ≠ 0) (w : World) (hg : Gl w) (hA : Rd w A a) (hB : Rd w B b) :
    Calls Tryd.prog 8 #[.int .i64 (lim : Int), .slice A M ca, .slice B N cb, .int .i64 d, .int .i64 n] w fun e w' => e = .returned (.bool true) ∧ Below w.heap.size w w' := by
  have HG := Lib.hid hg
  have HA := Lib.hid hA
  have HB := Lib.hid hB
  have HM := Lib.hid hM
  have HN := Lib.hid hN
  have d1 : decide ((lim : Int) < 1) = false := decide_eq_false (by omega)
  have d2 : decide ((300 : Int) < (lim : Int)) = false := decide_eq_false (by omega)
  have d3 : decide ((200 : Int) < (M : Int)) = false := decide_eq_false (by omega)
  have d4 : decide ((200 : Int) < (N : Int)) = false := decide_eq_false (by omega)
  have d5 : decide ((200 : Int) < (n : Int)) = false := decide_eq_false (by omega)
  have N1 := Lib.hid (at_new hg (Below.refl _ w) lim h1 (by omega) A a M ca hM hMc (by omega) hA)
  clear hg hA hB hM hN
  go_enter Tryd.func8, Tryd.ntmps8
  go_wp2_with fail
  refine N1.out.mono ?_
  rintro e w1 ⟨x, v1, rfl, a1, _, _⟩
  have A1 := Lib.hid a1
  clear a1 N1 d1 d2 d3 d4
  have O0 : Hid ((w1.alloc (.cells #[] 5)).ownsRow w1.heap.size 5 1 (.slice (some ⟨w1.heap.size, 0, none⟩) 0 0) 0 []) := Lib.hid (own_empty w1)
  have B0 : Hid (Below w1.heap.size w1 (w1.alloc (.cells #[] 5))) := Lib.hid (lit_bel w1 _)
  have W1B : Hid (Below w.heap.size w w1) := Lib.hid A1.out.bel
  go_wp2_with (first
    | (at_builtin; refine wpList_append_vals Tryd.underlying22 byte_info rfl rfl _ _ rfl w1.heap.size (.slice (some ⟨w1.heap.size, 0, none⟩) 0 0) 0 [] rfl O0.out A (a.map byt) (byt_one a) M ca (by rw [List.length_map]; exact HM.out) rfl ((HA.out.below W1B.out).below B0.out) (by omega) (by omega) B0.out.size ?_; intro v2 w2 ho hg he; rw [Nat.zero_add, List.nil_append] at ho; obtain ⟨A2, c2, rfl, hc2⟩ := own_form ho; have B2 := Lib.hid (B0.out.grown hg B0.out.size (fun j ej => by cases ej; exact Nat.le_refl _)); have O2 := Lib.hid ho; clear ho hg he O0 B0)
    | (at_builtin; refine wpList_append_vals Tryd.underlying22 byte_info rfl rfl _ _ rfl w1.heap.size (.slice A2 M c2) M (a.map byt) rfl O2.out B (b.map byt) (byt_one b) N cb (by rw [List.length_map]; exact HN.out) rfl ((HB.out.below W1B.out).below B2.out) (by omega) (by omega) B2.out.size ?_; intro v3 w3 ho hg he; rw [← List.map_append] at ho; obtain ⟨A3, c3, rfl, hc3⟩ := own_form ho; have B3 := Lib.hid (B2.out.grown hg B2.out.size (fun j ej => own_base O2.out ej)); have O3 := Lib.hid ho; clear ho hg he O2 B2))
  refine (at_new HG.out (below_on W1B.out (Nat.le_refl _) B3.out) lim h1 (by omega) A3 (a ++ b) (M + N) c3 (by rw [List.length_append, HM.out, HN.out]) hc3 (by omega) (Rv.of_own O3.out)).mono ?_
  rintro e w4 ⟨y, u4, rfl, a4, b4, o4⟩
  have T4 := Lib.hid (Two.new (A1.out.below B3.out) a4 b4 o4)
  clear a4 b4 o4 O3 B3 A1
  have AD := Lib.hid (at_add T4.out.a B b N cb HN.out hNc (by omega) (by decide) (HB.out.below T4.out.a.bel) (T4.out.a.out HB.out))
  rw [fin_fin_app] at AD
  obtain ⟨L, hL⟩ : ∃ L, fin lim (a ++ b) = L := ⟨_, rfl⟩
  rw [hL] at AD T4
  have HL := Lib.hid hL
  clear hL
  go_wp2_with fail
  refine AD.out.mono ?_
  rintro e w5 ⟨v5, rfl, a5, c5, n5⟩
  have T5 := Lib.hid (T4.out.left a5 c5 n5)
  clear a5 c5 n5 AD T4
  have EQ := Lib.hid (T5.out.equal true (by simp))
  go_wp2_with fail
  refine (num_any _ _).mono ?_
  rintro e w5 ⟨rfl, rfl⟩
  go_wp2_with fail
  refine (num_any _ _).mono ?_
  rintro e w5 ⟨rfl, rfl⟩
  go_wp2_with fail
  refine (num_any _ _).mono ?_
  rintro e w5 ⟨rfl, rfl⟩
  go_wp2_with fail
  refine EQ.out.mono ?_
  rintro e w6 ⟨rfl, t6, _⟩
  have T6 := Lib.hid t6
  clear t6 EQ T5
  have TA := Lib.hid T6.out.a.rg.total_any
  have TB := Lib.hid T6.out.b.rg.total_any
  rw [Nat.zero_add] at TA
  go_wp2_with fail
  refine TA.out.mono ?_
  rintro e w6 ⟨rfl, rfl⟩
  go_wp2_with fail
  refine TB.out.mono ?_
  rintro e w6 ⟨rfl, rfl⟩
  clear TA TB
  have CA := Lib.hid (at_bad T6.out.a d n R (by rw [← HL.out]; exact hR) hR0)
  go_wp2_with fail
  refine CA.out.mono ?_
  rintro e w7 ⟨rfl, _, b7⟩
  have T7 := Lib.hid (T6.out.below b7)
  clear b7 CA T6
  have CB := Lib.hid (at_bad T7.out.b d n R (by rw [← HL.out]; exact hR) hR0)
  go_wp2_with fail
  refine CB.out.mono ?_
  rintro e w8 ⟨rfl, _, b8⟩
  have T8 := Lib.hid (T7.out.below b8)
  have q1 := conv_len w8 none [] 0 0 rfl (Rv.nil _ _)
  clear b8 CB T7
  have EQ2 := Lib.hid (T8.out.equal true (by simp))
  go_wp2_with fail
  refine EQ2.out.mono ?_
  rintro e w8 ⟨rfl, t8, _⟩
  have T8 := Lib.hid t8
  clear t8
  go_wp2_with fail
  refine (works_any _ (HG.out.bel T8.out.a.bel)).mono ?_
  rintro e wk ⟨rfl, hbk⟩
  have BK := Lib.hid (below_on T8.out.a.bel (Nat.le_refl _) hbk)
  clear hbk
  go_wp2
  go_ret
  exact ⟨rfl, BK.out⟩

theorem walk (z : Int) (A : Option Addr) (a : List UInt8) (ca : Nat) (B : Option Addr) (b : List UInt8) (cb : Nat) (d n : Int) (w : World) (hg : Gl w) (_hz : (Lit.int IntKind.i64 z).wf = true) (hA : Rd w A a) (_hs : a.length ≤ 140737488351232) (hca : a.length ≤ ca) (hB : Rd w B b) (_hsb : b.length ≤ 140737488351232) (hcb : b.length ≤ cb) (_hd : (Lit.int IntKind.i64 d).wf = true) (_hn : (Lit.int IntKind.i64 n).wf = true) :
    Calls Tryd.prog 8 #[.int .i64 z, .slice A a.length ca, .slice B b.length cb, .int .i64 d, .int .i64 n] w fun e w' => e = .returned (.bool true) ∧ Below w.heap.size w w' := by
  by_cases h : z < 1 ∨ 300 < z ∨ 200 < a.length ∨ 200 < b.length ∨ 200 < n
  · exact walk_else z A _ ca B _ cb d n w hg h
  · obtain ⟨lim, rfl⟩ : ∃ lim : Nat, z = (lim : Int) := ⟨z.toNat, by omega⟩
    by_cases h0 : obj (fin lim (a ++ b)).length d n = 0
    · unfold obj at h0
      split at h0
      · cases h0
      · split at h0
        · obtain ⟨D, rfl⟩ : ∃ D : Nat, d = (D : Int) := ⟨d.toNat, by omega⟩
          obtain ⟨k, rfl⟩ : ∃ k : Nat, n = (k : Int) := ⟨n.toNat, by omega⟩
          exact walk_ok lim (by omega) (by omega) A a _ ca rfl hca (by omega) B b _ cb rfl hcb (by omega) D k (by omega) (by omega) (by omega) w hg hA hB
        · cases h0
    · exact walk_bad lim (by omega) (by omega) A a _ ca rfl hca (by omega) B b _ cb rfl hcb (by omega) d n _ (by omega) rfl h0 w hg hA hB

set_option maxRecDepth 100000 in
theorem lifted (os : Os) (started : os.Started) (H : Type) (enc : TypeId × Value → H) :
    ReturnsInHanded {} Tryd.checked os 8 .any (fun w args => (Rows.ringAheadSpec.pre enc Tryd.prog Tryd.f8 [] false w args ∧ laidMetH Tryd.prog laidS w) ∧ sizedMet enc Tryd.prog Tryd.f8 (OpenSpec.ofChange Rows.ringAheadSpec) false w args) (Rows.ringAheadSpec.post enc Tryd.prog Tryd.f8 false true false false) := by
  refine returnsInHanded_of_change_and (C := Tryd.checked) (X := fun w _ => laidMetH Tryd.prog laidS w) (fun _ _ _ hh h => h.of_heap hh) ownB started (by kernel_rfl) Tryd.func8
    (ChangeSpec.witness_shaped (enc := enc) (C := Tryd.checked) (os := os) (X := fun w _ => laidMetH Tryd.prog laidS w) false (World.doorLaid Tryd.prog 400 os) #[.int .i64 0, .slice none 0 0, .slice none 0 0, .int .i64 0, .int .i64 0] 8 rfl (World.shaped_of_RefB (by kernel_rfl) (by kernel_rfl)) (by kernel_rfl) (by kernel_rfl) (by kernel_rfl) (door_met os _)) ?_
  intro W base args ds gs before hval0 hW _ hsz0 hL _
  have hgl := gl_of_laid hL
  have hsz : (DataW.weightsEach Tryd.prog (Tryd.f8.params.toList ++ Rows.ringAheadSpec.plain.varTypes Tryd.prog) (ds ++ gs)).all (· ≤ reachBytes) = true := hsz0
  clear hsz0
  have hval : ∀ (j : Nat) t v, Tryd.f8.params[j]? = some t → args[j]? = some v → Value.okWide Tryd.prog W .any base t v := hval0
  have hW' := hW
  obtain ⟨p, q, hA0, hV, rfl, hfz, hnd⟩ := hW
  have hA : DataW.TrodAll enc Tryd.prog W 0 (fun _ => true) true Tryd.f8.params.toList args.toList ds p := hA0
  rw [Tryd.params8] at hA hval hsz
  obtain ⟨v0, vs0, d0, ds0, p0, q0, hargs, rfl, rfl, h0, r0⟩ := trodAll_cons hA
  obtain ⟨v1, vs1, d1, ds1, p1, q1, rfl, rfl, rfl, h1, r1⟩ := trodAll_cons r0
  obtain ⟨v2, vs2, d2, ds2, p2, q2, rfl, rfl, rfl, h2, r2⟩ := trodAll_cons r1
  obtain ⟨v3, vs3, d3, ds3, p3, q3, rfl, rfl, rfl, h3, r3⟩ := trodAll_cons r2
  obtain ⟨v4, vs4, d4, ds4, p4, q4, rfl, rfl, rfl, h4, r4⟩ := trodAll_cons r3
  obtain ⟨rfl, rfl, rfl⟩ := trodAll_nil r4
  obtain rfl : args = #[v0, v1, v2, v3, v4] := by cases args; simp_all
  obtain ⟨rfl, rfl⟩ := trodVars_none hV
  obtain ⟨a0, rfl, rfl, rfl, w0⟩ := open_int Tryd.underlying3 (hval 0 3 v0 rfl rfl) h0
  obtain ⟨a1, len1, cap1, rfl⟩ := okWide_slice Tryd.underlying22 (hval 1 22 v1 rfl rfl)
  have k1 := h1
  have lt1 : ∀ x ∈ p1, x.block < W.heap.size := by obtain ⟨m, hm⟩ := k1; exact DataW.trod_lt m _ _ _ hm
  obtain ⟨l1, rfl, hc1, rd1, hd1⟩ := open_bytes h1
  have hs1 : l1.length ≤ 140737488351232 := by
    rcases hd1 with ⟨h, _⟩ | ⟨es, sp, rfl, h⟩
    · omega
    · have := sized_slice hsz (j := 1) (t := 22) (e := 5) rfl rfl Tryd.underlying22
      rw [bytes_byte] at this
      simp only [reachBytes] at this
      omega
  obtain ⟨a2, len2, cap2, rfl⟩ := okWide_slice Tryd.underlying22 (hval 2 22 v2 rfl rfl)
  have k2 := h2
  have lt2 : ∀ x ∈ p2, x.block < W.heap.size := by obtain ⟨m, hm⟩ := k2; exact DataW.trod_lt m _ _ _ hm
  obtain ⟨l2, rfl, hc2, rd2, hd2⟩ := open_bytes h2
  have hs2 : l2.length ≤ 140737488351232 := by
    rcases hd2 with ⟨h, _⟩ | ⟨es, sp, rfl, h⟩
    · omega
    · have := sized_slice hsz (j := 2) (t := 22) (e := 5) rfl rfl Tryd.underlying22
      rw [bytes_byte] at this
      simp only [reachBytes] at this
      omega
  obtain ⟨a3, rfl, rfl, rfl, w3⟩ := open_int Tryd.underlying3 (hval 3 3 v3 rfl rfl) h3
  obtain ⟨a4, rfl, rfl, rfl, w4⟩ := open_int Tryd.underlying3 (hval 4 3 v4 rfl rfl) h4
  clear hA0 hval0
  refine (walk a0 a1 l1 cap1 a2 l2 cap2 a3 a4 W hgl w0 rd1 hs1 hc1 rd2 hs2 hc2 w3 w4).mono fun e W' ⟨he, bel⟩ => ?_
  subst he
  exact ⟨_, rfl, _, _, _, [], _, [], hW', trodAll_mk1 (shut_bool Tryd.underlying4 _), (trodAll_cons_mk (shut_int Tryd.underlying3 w0) (trodAll_cons_mk (Below.trod laidOut (by kernel_rfl) (of_decide_eq_true (by kernel_rfl)) k1 bel lt1) (trodAll_cons_mk (Below.trod laidOut (by kernel_rfl) (of_decide_eq_true (by kernel_rfl)) k2 bel lt2) (trodAll_cons_mk (shut_int Tryd.underlying3 w3) (trodAll_cons_mk (shut_int Tryd.underlying3 w4) trodAll_mk0))))), rfl, bel.frame _, fun h => by cases h⟩

theorem row_proved : Rows.RingAheadSaid :=
  OpenClaim.holds_of_wide 8 Tryd.f8 rfl rfl rfl rfl rfl rfl rfl ⟨rfl, rfl, rfl, rfl, rfl⟩ rfl rfl rfl rfl rfl (by kernel_rfl) Tryd.func8 (by kernel_rfl)
    (of_decide_eq_true (by kernel_rfl)) (by unfold Func.isWrapper; rw [if_neg (by decide +kernel)]; exact ⟨rfl, rfl⟩)
    (fun os started H enc _ => lifted os started H enc)

theorem proved : Rows.RingAheadCardSaid :=
  Claim7.holds_tied_plain_at .later [] [.data] true Rows.ringAheadCard.stood.harness false
    row_proved (fun _ h => by cases h) (by kernel_rfl) (fun _ h => by cases h) ringAhead_row_tie rfl ⟨rfl, rfl⟩ (by kernel_rfl) rfl
    (fun f fn hf hfn => by
      obtain rfl : f = 8 := Option.some.inj ((show Tryd.prog.funcNamed "portmanteau/portmanteaulaw06.RingAhead" = some 8 by kernel_rfl).symm.trans hf) |>.symm
      obtain rfl : fn = Tryd.f8 := (Option.some.inj (Tryd.func8.symm.trans hfn)).symm
      exact ⟨by kernel_rfl, fun j t ht => by
        rw [Tryd.params8] at ht
        have hall : ∀ t ∈ [3, 22, 22, 3, 3], Tryd.prog.wantsStandIn t = false := by
          intro t ht
          simp only [List.mem_cons, List.not_mem_nil, or_false] at ht
          rcases ht with rfl | rfl | rfl | rfl | rfl
          all_goals kernel_rfl
        refine hall t ?_
        rw [← Array.getElem?_toList] at ht
        exact List.mem_of_getElem? ht⟩)
    (by kernel_rfl)

#print axioms proved

end Go.Proofs.YtibighlkgbgjdaaDoor.ringAhead
