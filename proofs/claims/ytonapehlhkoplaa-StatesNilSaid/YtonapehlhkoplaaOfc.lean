/-
  What the reference's Of does: it returns the cell of each state of a valid table, in new memory, or the error. Nothing that was there has changed. Condition: a slice can hold the norms.
-/
import Derived.Deep.RegionHeld3
import Derived.Deep.RegionLaw
import Derived.Test.YtonapehlhkoplaaBui
namespace Go.Proofs.Ytonapehlhkoplaa
open Go.RowKit Go.Shelf

theorem siz_pow {b D : Nat} (hb : b ≤ 9) (hD : 2 ^ b = D) : siz (b : Int) = D := by
  unfold siz
  rw [if_neg (by omega), Int.toNat_natCast, hD]
theorem log2_half {V : Nat} (h : 2 ≤ V) : (V / 2).log2 + 1 = V.log2 := by
  conv => rhs; rw [Nat.log2_def]
  rw [if_pos h]

set_option maxRecDepth 100000 in
set_option maxHeartbeats 4000000 in
theorem ofc_bad (w : World) (y : Int) (A : Option Addr) (l : List Int) (N c : Nat) (hN : l.length = N) (hb : N ≤ 1000000) (hv : vt y l 256 9 = false) (hR : Ri w A l) :
    Calls Try.prog 13 #[tb y A N c] w fun e w' => e = .returned (.tuple #[.slice none 0 0, .int .i64 13]) ∧ Below w.heap.size w w' := by
  have b1 : Below w.heap.size w (w.alloc (.cells #[.int .i64 y, .slice A N c] 24)) := (Below.refl _ w).alloc (Nat.le_refl _) _
  have t1 := Tb.new w y A N c
  obtain ⟨w1, hw1⟩ : ∃ w1, w.alloc (.cells #[.int .i64 y, .slice A N c] 24) = w1 := ⟨_, rfl⟩
  rw [hw1] at b1 t1
  have c0 := t1.c0
  have c1 := t1.c1
  have SP : Hid (Calls Try.prog 32 #[tb y A N c] w1 fun e w' => e = .returned (.tuple #[.slice none 0 0, .int .i64 13]) ∧ Below w1.heap.size w1 w') := Lib.hid (of_bad w1 y A l N c hN hb hv (hR.below b1))
  have B1 := Lib.hid b1
  clear b1 t1 hR hN hv
  go_enter Try.func13, Try.ntmps13
  go_wp2_with (go_at_call 32; refine SP.out.mono ?_; rintro e w2 ⟨rfl, hb2⟩; have B2 := Lib.hid (below_on B1.out (Nat.le_refl _) hb2); clear hb2)
  go_ret2
  exact ⟨rfl, B2.out⟩

set_option maxRecDepth 100000 in
set_option maxHeartbeats 4000000 in
theorem ofc_ok (w : World) (y : Nat) (A : Option Addr) (l : List Int) (N c : Nat) (hN : l.length = N) (hv : Vt y l) (hR : Ri w A l) :
    Calls Try.prog 13 #[tb y A N c] w (OutC w.heap.size w (cex (y : Int) l) 0) := by
  have hN2 : N ≤ 256 := by rw [← hN]; exact hv.len
  have hy9 := hv.log
  have b1 : Below w.heap.size w (w.alloc (.cells #[.int .i64 (y : Int), .slice A N c] 24)) := (Below.refl _ w).alloc (Nat.le_refl _) _
  have t1 := Tb.new w (y : Int) A N c
  obtain ⟨w1, hw1⟩ : ∃ w1, w.alloc (.cells #[.int .i64 (y : Int), .slice A N c] 24) = w1 := ⟨_, rfl⟩
  rw [hw1] at b1 t1
  have c0 := t1.c0
  have c1 := t1.c1
  obtain ⟨s, hse⟩ : ∃ s, 2 ^ y = s := ⟨_, rfl⟩
  have hs5 : s ≤ 512 := by rw [← hse]; exact hv.size
  have hs1 : 1 ≤ s := by rw [← hse]; exact Nat.one_le_two_pow
  have SP := Lib.hid (of_ok w1 y s A l N c hN hv hse (hR.below b1))
  have HL : Hid ((spl s l).length = s) := Lib.hid (spl_len s l)
  have HCE : Hid (cex (y : Int) l = cls y l (spl s l)) := Lib.hid (by rw [cex_ok hv, hse])
  have HV : Hid (∀ i x, (spl s l)[i]? = some x → ∃ z n, l[x]? = some z ∧ -1 ≤ z ∧ sts z = ((n : Nat) : Int) ∧ xof l (spl s l) i = n + ((spl s l).take i).count x ∧ Num y n (xof l (spl s l) i)) := Lib.hid (fun i x hx => by
    rw [← hse] at hx ⊢
    obtain ⟨z, n, h1, h2, h3, h4⟩ := vt_norm hv hx
    refine ⟨z, n, h1, h2, h3, ?_, ?_⟩
    · unfold xof; rw [hx, Option.getD_some, h4]
    · have := hv.num hx; rwa [h4] at this)
  have B1 := Lib.hid b1
  have T1 := Lib.hid t1
  have R1 := Lib.hid (hR.below b1)
  have HS := Lib.hid hse
  have HN := Lib.hid hN
  obtain ⟨K, hK⟩ : ∃ K, spl s l = K := ⟨_, rfl⟩
  rw [hK] at SP HL HCE HV
  rw [HCE.out]
  clear b1 t1 hR hN hv hse hK HCE
  go_enter Try.func13, Try.ntmps13
  go_wp2_with (go_at_call 32; refine SP.out.mono ?_; rintro e w2 ⟨g, rfl, ho2, hb2⟩; have O2 := Lib.hid ho2; have B2 := Lib.hid hb2; have T2 := Lib.hid (T1.out.below hb2); have R2 := Lib.hid (R1.out.below hb2); clear hb2 ho2)
  clear c0 c1 SP
  have LW : Hid (w.heap.size ≤ w2.heap.size) := Lib.hid (Nat.le_trans B1.out.size B2.out.size)
  go_loopw [6, 7] (fun v p wr => ∃ (i c' : Nat) (A' : Option Addr), i ≤ s ∧ p = .int .i64 (i : Int) ∧ v = .slice A' i c' ∧ Hid (wr.ownsRow w2.heap.size 35 3 (.slice A' i c') i (flat3 ((cls y l K).take i))) ∧ Hid (Below w2.heap.size w2 wr)) (fun _ p _ => s - (intOf p).toNat)
  case atStart => exact ⟨0, 0, none, Nat.zero_le _, rfl, rfl, Lib.hid (ro_nil _ _ _ _), Lib.hid (Below.refl _ _)⟩
  case round =>
    obtain ⟨i, c', A', hi, rfl, rfl, HO, HB⟩ := hrel
    by_cases hlt : i < s
    · obtain ⟨x, hx⟩ : ∃ x, K[i]? = some x := ⟨_, List.getElem?_eq_getElem (by rw [HL.out]; exact hlt)⟩
      have HO2 := Lib.hid (own_below O2.out HB.out)
      have ci : wr.cell? ⟨g, i, none⟩ = some (.int .i64 (x : Int)) := by rw [HO2.out.cellAt i (by omega), List.getElem?_map, hx]; rfl
      have HX := Lib.hid hx
      have wi : IntKind.i64.wrap (i : Int) = (i : Int) := IntWalk.i64_in _ (by omega)
      clear hx
      go_wp2
      go_loopw [8, 9] (fun kk p wq => ∃ j k : Nat, j ≤ i ∧ k ≤ j ∧ p = .int .i64 (j : Int) ∧ kk = .int .i64 (k : Int) ∧ Hid ((K.take j).count x = k) ∧ ∃ d, wq = wr.drewN d) (fun _ p _ => i - (intOf p).toNat)
      case atStart => exact ⟨0, 0, Nat.zero_le _, Nat.le_refl _, rfl, rfl, Lib.hid (by simp), 0, rfl⟩
      case round =>
        obtain ⟨j, k, hj, hk, rfl, rfl, HA, d, rfl⟩ := hrel
        by_cases hji : j < i
        · obtain ⟨u, hu⟩ : ∃ u, K[j]? = some u := ⟨_, List.getElem?_eq_getElem (by rw [HL.out]; omega)⟩
          have cj : wr.cell? ⟨g, j, none⟩ = some (.int .i64 (u : Int)) := by rw [HO2.out.cellAt j (by omega), List.getElem?_map, hu]; rfl
          have wj : IntKind.i64.wrap (j : Int) = (j : Int) := IntWalk.i64_in _ (by omega)
          by_cases hux : u = x
          · subst hux
            have HC : Hid ((K.take (j + 1)).count u = k + 1) := Lib.hid (by rw [take_succ_get hu, List.count_append, HA.out]; simp)
            clear hu
            go_wp2
            go_quiet (fail)
            go_wp2
            exact ⟨⟨j + 1, k + 1, by omega, by omega, by simp, by simp, HC, d + nq, rfl⟩, by simp [intOf]; omega⟩
          · have HC : Hid ((K.take (j + 1)).count x = k) := Lib.hid (by rw [take_succ_get hu, List.count_append, HA.out, List.count_singleton]; simp [hux])
            have hue : ((u : Int) == (x : Int)) = false := by simp; omega
            clear hu
            go_wp2
            go_quiet (fail)
            go_wp2
            exact ⟨⟨j + 1, k, by omega, by omega, by simp, rfl, HC, d + nq, rfl⟩, by simp [intOf]; omega⟩
        · have hjI : j = i := by omega
          obtain ⟨z, n, hz, hz1, hzn, hX, hNum⟩ := HV.out i x HX.out
          obtain ⟨X, hXX⟩ : ∃ X, xof l K i = X := ⟨_, rfl⟩
          rw [hXX] at hX hNum
          have hkn : n + k = X := by rw [hX, ← HA.out, hjI]
          have q1 := hNum.base
          have q2 := hNum.log
          have q3 := hNum.high
          have q4 := hNum.pos
          have q5 := hNum.lo
          have q6 := hNum.hi
          have q7 := hNum.le
          have q8 := bts_le y X
          obtain ⟨b, hb⟩ : ∃ b, bts y X = b := ⟨_, rfl⟩
          obtain ⟨U, hU⟩ : ∃ U, bse y X = U := ⟨_, rfl⟩
          obtain ⟨D, hD⟩ : ∃ D, 2 ^ b = D := ⟨_, rfl⟩
          have hbG : b + X.log2 = y := by rw [← hb]; unfold bts; omega
          rw [hb, hD, hU, HS.out] at q1
          rw [hb, hD, HS.out, Nat.add_mul, Nat.one_mul] at q3
          rw [hb] at q8
          rw [HS.out] at q7
          obtain ⟨P, hP⟩ : ∃ P, X * D = P := ⟨_, rfl⟩
          rw [hP] at q1 q3
          have HC : Hid (cel y l K i = (x, b, U)) := Lib.hid (by unfold cel; rw [HX.out, hXX, Option.getD_some, hb, hU])
          have hxN : x < N := by rw [← HN.out]; exact (List.getElem?_eq_some_iff.1 hz).1
          obtain ⟨ad, rfl, hcz⟩ := R2.out x (iv z) (by rw [List.getElem?_map, hz]; rfl)
          have wx : IntKind.i64.wrap (x : Int) = (x : Int) := IntWalk.i64_in _ (by omega)
          have eX : (n : Int) + (k : Int) = (X : Int) := by omega
          have eM : (X : Int) * (D : Int) = (P : Int) := by rw [← hP]; exact (Int.natCast_mul X D).symm
          have eU : (P : Int) - (s : Int) = (U : Int) := by omega
          have hPb : P ≤ 2000 := by omega
          have hUb : U ≤ 2000 := by omega
          have hXb : X ≤ 2000 := by omega
          have wP : IntKind.i64.wrap (P : Int) = (P : Int) := IntWalk.i64_in _ (by omega)
          have wU : IntKind.i64.wrap (U : Int) = (U : Int) := IntWalk.i64_in _ (by omega)
          have hz2 : z ≤ 512 := by unfold sts at hzn; split at hzn <;> omega
          obtain ⟨W, hW⟩ : ∃ W, wr.drewN d = W := ⟨_, rfl⟩
          have BW : Hid (Below w2.heap.size w2 W) := Lib.hid (by rw [← hW]; exact below_drewN' HB.out d)
          have OW : Hid (W.ownsRow w2.heap.size 35 3 (.slice A' i c') i (flat3 ((cls y l K).take i))) := Lib.hid (by rw [← hW]; exact HO.out)
          have ci' : W.cell? ⟨g, i, none⟩ = some (.int .i64 (x : Int)) := by rw [← hW]; exact ci
          have tW := T2.out.below BW.out
          have a0 := tW.c0
          have a1 := tW.c1
          have az : W.cell? (ad.add x) = some (.int .i64 z) := (BW.out.cell (cell_lt hcz)).trans hcz
          have SA : Hid (∀ W', Calls Try.prog 33 #[.int .i64 z] W' fun e w' => e = .returned (.int .i64 (n : Int)) ∧ w' = W') := Lib.hid (fun W' => by
            have := rstates_any W' z
            rwa [hzn] at this)
          have SZ : Hid (∀ W', Calls Try.prog 24 #[.int .i64 (b : Int)] W' fun e w' => e = .returned (.int .i64 (D : Int)) ∧ w' = W') := Lib.hid (fun W' => by
            have := size_any W' (b : Int)
            rwa [siz_pow (by omega) hD] at this)
          have HG : Hid (y = b + X.log2) := Lib.hid hbG.symm
          rw [hW]
          have X1 : 1 ≤ X := by omega
          have wX : IntKind.i64.wrap (X : Int) = (X : Int) := IntWalk.i64_in _ (by omega)
          clear hz hz1 hzn hX hNum hXX hkn hb hU hD hP hbG hcz tW hW ci HO HB HA hj hk hjI q1 q2 q3 q4 q5 q6 q7 hPb
          go_wp2
          go_region_held3 (fun W' => W'.cell? ⟨w.heap.size, 1, none⟩ = some (.slice (some ad) N c) ∧ W'.cell? (ad.add x) = some (.int .i64 z) ∧ W'.cell? ⟨g, i, none⟩ = some (.int .i64 (x : Int))) (first | exact ⟨a1, az, ci'⟩) (first
            | (go_at_call 33; refine (SA.out _).mono ?_; rintro e w' ⟨rfl, rfl⟩))
          all_goals
            go_wp2
            go_loop [11, 12] (fun t p => ∃ t0 V : Nat, 1 ≤ V ∧ V ≤ 2000 ∧ t0 ≤ 9 ∧ t = .int .i64 (t0 : Int) ∧ p = .int .i64 (V : Int) ∧ Hid (t0 = b + V.log2)) (fun _ p => (intOf p).toNat)
            case atStart => exact ⟨y, X, X1, hXb, hy9, rfl, rfl, HG⟩
            case round =>
              obtain ⟨t0, V, hV1, hV2, ht9, rfl, rfl, HT⟩ := hrel
              by_cases hgt : 1 < V
              · have HT2 : Hid (t0 - 1 = b + (V / 2).log2 ∧ 1 ≤ t0) := Lib.hid (by
                  have h1 := HT.out
                  have h2 := log2_half (V := V) (by omega)
                  omega)
                have ht1 : 1 ≤ t0 := HT2.out.2
                go_wp2
                exact ⟨⟨t0 - 1, V / 2, by omega, by omega, by omega, by simp; omega, by simp, Lib.hid HT2.out.1⟩, by simp [intOf]; omega⟩
              · have hV : V = 1 := by omega
                subst hV
                have ht : t0 = b := by have := HT.out; rw [this]; rfl
                subst ht
                obtain ⟨W5, hW5⟩ : ∃ W5, W.drew = W5 := ⟨_, rfl⟩
                have B5 : Hid (Below w2.heap.size w2 W5) := Lib.hid (by rw [← hW5]; exact BW.out.drew)
                have O5 : Hid (W5.ownsRow w2.heap.size 35 3 (.slice A' i c') i (flat3 ((cls y l K).take i))) := Lib.hid (by rw [← hW5]; exact OW.out)
                have ci5 : W5.drew.cell? ⟨g, i, none⟩ = some (.int .i64 (x : Int)) := by rw [← hW5]; exact ci'
                have L6 : Hid (((W5.alloc (.cells #[.int .i64 (x : Int), .int .i64 (t0 : Int), .int .i64 (U : Int)] 35)).drew).heap[W5.heap.size]? = some (.cells #[.int .i64 (x : Int), .int .i64 (t0 : Int), .int .i64 (U : Int)] 35 (0, 0))) := Lib.hid (World.alloc_heap_new W5 _)
                have B6 : Hid (Below w2.heap.size w2 ((W5.alloc (.cells #[.int .i64 (x : Int), .int .i64 (t0 : Int), .int .i64 (U : Int)] 35)).drew)) := Lib.hid (B5.out.alloc B5.out.size _).drew
                have O6 : Hid (((W5.alloc (.cells #[.int .i64 (x : Int), .int .i64 (t0 : Int), .int .i64 (U : Int)] 35)).drew).ownsRow w2.heap.size 35 3 (.slice A' i c') i (flat3 ((cls y l K).take i))) := Lib.hid (ro_below O5.out ((Below.refl _ W5).alloc (Nat.le_refl _) _).drew)
                have ci6 : ((W5.alloc (.cells #[.int .i64 (x : Int), .int .i64 (t0 : Int), .int .i64 (U : Int)] 35)).drew).cell? ⟨g, i, none⟩ = some (.int .i64 (x : Int)) := by
                  have h1 : W5.cell? ⟨g, i, none⟩ = some (.int .i64 (x : Int)) := ci5
                  exact (((Below.refl W5.heap.size W5).alloc (Nat.le_refl _) (.cells #[.int .i64 (x : Int), .int .i64 (t0 : Int), .int .i64 (U : Int)] 35)).drew.cell (cell_lt h1)).trans h1
                have HG7 : Hid (∀ w7, ((W5.alloc (.cells #[.int .i64 (x : Int), .int .i64 (t0 : Int), .int .i64 (U : Int)] 35)).drew).grownBy w7 (Value.slice A' i c').ownBlock → w7.cell? ⟨g, i, none⟩ = some (.int .i64 (x : Int))) := Lib.hid (fun w7 hg7 => by
                  rw [← ci6]
                  refine World.cell?_of_block (hg7.block g (cell_lt ci6) (fun e => ?_))
                  have h1 := own_ge O6.out e.symm
                  have h2 : g < w2.heap.size := own_lt O2.out rfl
                  omega)
                have HQ : Hid (flat3 ((cls y l K).take i) ++ [.int .i64 (x : Int), .int .i64 (t0 : Int), .int .i64 (U : Int)] = flat3 ((cls y l K).take (i + 1))) := Lib.hid (by
                  have h1 : (cls y l K)[i]? = some (x, t0, U) := by rw [cls_get (by rw [HL.out]; exact hlt), HC.out]
                  rw [take_succ_get h1, flat3_append]; rfl)
                obtain ⟨i0, hi0, hz0, hz1', hz2'⟩ := info_parts cel_info
                have HI := Lib.hid (And.intro hi0 (And.intro hz0 (And.intro hz1' hz2')))
                clear HT hgt hi0 hz0 hz1' hz2'
                go_wp2
                clear hW5
                go_region_held3 (fun W' => W'.cell? ⟨g, i, none⟩ = some (.int .i64 (x : Int))) (first | exact ci5 | exact ci6 | exact ci7) (first
                  | (go_at_call 24; refine (SZ.out _).mono ?_; rintro e w' ⟨rfl, rfl⟩)
                  | (refine step_append_lies _ rfl (.tmp 63) (.tmp 77) 30 rfl w2.heap.size 35 i0 (.agg #[.int .i64 0, .int .i64 0, .int .i64 0]) 3 24 und_cells HI.out.1 HI.out.2.1 HI.out.2.2.1 HI.out.2.2.2 rfl (by decide) (.slice A' i c') i (flat3 ((cls y l K).take i)) (by simp [Act.eval]) O6.out ⟨W5.heap.size, 0, none⟩ 1 1 [.int .i64 (x : Int), .int .i64 (t0 : Int), .int .i64 (U : Int)] (by simp [Act.eval]) rfl (World.news_of_block L6.out) (by simp [Value.oneCell']) (by decide) (by unfold maxLen; omega) (by omega) B6.out.size (W5.heap.size + 1) (by simp) ?_; intro g7 c7 w7 ho7 hg7 hl7 _; have O7 := Lib.hid ho7; have B7 : Hid (Below w2.heap.size w2 w7) := Lib.hid (B6.out.grown hg7 B6.out.size (fun _ e => own_ge O6.out e)); have ci7 : w7.cell? ⟨g, i, none⟩ = some (.int .i64 (x : Int)) := HG7.out w7 hg7; clear ho7 hg7 hl7))
                all_goals
                  go_wp2
                  exact ⟨⟨i + 1, c7, some ⟨g7, 0, none⟩, by omega, by simp, rfl, Lib.hid (by rw [← HQ.out]; exact O7.out), B7⟩, by simp [intOf]; omega⟩
    · have HE : Hid ((cls y l K).take i = cls y l K ∧ (cls y l K).length = i) := Lib.hid ⟨List.take_of_length_le (by rw [cls_len, HL.out]; omega), by rw [cls_len, HL.out]; omega⟩
      go_wp2
      go_ret2
      refine ⟨A', i, c', rfl, HE.out.2.symm, by omega, ?_, below_on B1.out (Nat.le_refl _) (below_on B2.out (Nat.le_refl _) HB.out)⟩
      have h1 := HO.out
      rw [HE.out.1] at h1
      exact ro_base h1 LW.out

theorem ofc_u (w : World) (y : Int) (A : Option Addr) (l : List Int) (N c : Nat) (hN : l.length = N) (hb : N ≤ 1000000) (hR : Ri w A l) :
    Calls Try.prog 13 #[tb y A N c] w (OutC w.heap.size w (cex y l) (err (vt y l 256 9))) := by
  have hX := cex_len y l
  cases hv : vt y l 256 9 with
  | false =>
    rw [cex_bad hv] at hX ⊢
    refine (ofc_bad w y A l N c hN hb hv hR).mono ?_
    rintro e w' ⟨rfl, hb'⟩
    exact outC_mk hX (ro_nil _ _ _ _) hb'
  | true =>
    obtain ⟨n, rfl, hv2⟩ := vt_iff.1 hv
    exact ofc_ok w n A l N c hN hv2 hR

end Go.Proofs.Ytonapehlhkoplaa
