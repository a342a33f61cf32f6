/-
  What the reference's Rising returns at valid counts: the stable sort of the used symbols, as a row of its own.
-/
import Derived.Deep.RegionHeld3
import Derived.Deep.CutRange
import Derived.Test.YtdlhfcapfbbjjaaApv
namespace Go.Proofs.Ytdlhfcapfbbjjaa
open Go.RowKit

/-- A row of pairs of the call's own, or none. -/
def Prs (w : World) (B : Nat) (A : Option Addr) (c : Nat) (S : List (Nat × Nat)) : Prop := S.length ≤ c ∧ c ≤ maxLen ∧ w.ownsRow B 55 2 (.slice A S.length c) S.length (flat2 S)

set_option maxRecDepth 100000 in
set_option maxHeartbeats 2000000 in
theorem rising_yes (w : World) (A : Option Addr) (k : List Nat) (N c : Nat) (hk : k.length = N) (hv : Vld k) (hR : Rn w A k) :
    Calls Try.prog 34 #[.slice A N c] w fun e w' => (∃ S A' c', e = .returned (.slice A' S.length c') ∧ Stb (usd 0 k) S ∧ Prs w' w.heap.size A' c' S) ∧ Below w.heap.size w w' := by
  have HC := Lib.hid (right_any w A (k.map (fun n : Nat => (n : Int))) N c (by rw [List.length_map]; exact hk) (by show Rv _ _ _; rw [ri_nats]; exact hR))
  rw [ok_of_vld hv] at HC
  have hN : N ≤ 256 := by have := hv.1; omega
  have HKL := Lib.hid hk
  have HV := Lib.hid hv
  have HRn := Lib.hid hR
  clear hk hv hR
  go_enter Try.func34, Try.ntmps34
  go_wp2_with (go_at_call 18; (with_reducible refine HC.out.mono ?_); rintro e w' ⟨rfl, rfl⟩)
  go_loopw [3, 4] (fun o p wr => ∃ (i : Nat) (S : List (Nat × Nat)) (Ao : Option Addr) (co so : Nat), i ≤ N ∧ so ≤ i ∧ p = .int .i64 (i : Int) ∧ o = .slice Ao so co ∧ Hid (S.length = so) ∧ Hid (Stb (usd 0 (k.take i)) S) ∧ Hid (RdE wr Ao S) ∧ Hid (Prs wr w'.heap.size Ao co S) ∧ Hid (Below w'.heap.size w' wr)) (fun _ p _ => N - (intOf p).toNat)
  case atStart =>
    refine ⟨0, [], none, 0, 0, Nat.zero_le _, Nat.le_refl _, rfl, rfl, Lib.hid rfl, Lib.hid (by simp [usd]; exact Stb.nil), Lib.hid (fun j p h => by simp at h), Lib.hid ⟨Nat.le_refl _, by unfold maxLen; omega, by simp [flat2, World.ownsRow]⟩, Lib.hid (Below.refl _ _)⟩
  case round =>
    obtain ⟨i, S, Ao, co, so, hi, hso, rfl, rfl, HSL, HS, HRd, HP, HB⟩ := hrel
    by_cases hlt : i < N
    · obtain ⟨x, hx⟩ : ∃ x, k[i]? = some x := ⟨_, List.getElem?_eq_getElem (by rw [HKL.out]; exact hlt)⟩
      have HX := Lib.hid hx
      obtain ⟨ad, hA, hc⟩ := (HRn.out.below HB.out) i (nv x) (by rw [List.getElem?_map, hx]; rfl)
      subst hA
      simp only [nv] at hc
      clear hx
      by_cases hx0 : x = 0
      · subst hx0
        simp only [Int.natCast_zero] at hc
        have HU := Lib.hid (ris_used HX.out)
        go_wp2
        exact ⟨⟨i + 1, S, Ao, co, so, by omega, by omega, by simp, rfl, HSL, Lib.hid (by rw [HU.out]; simpa using HS.out), HRd, HP, HB⟩, by simp [intOf]; omega⟩
      · have hd : ((x : Int) == 0) = false := by simp; omega
        have hd2 : decide ((x : Int) = 0) = false := by simp; omega
        go_wp2
        go_loopw [5] (fun q wq => ∃ q' : Nat, q' ≤ so ∧ q = .int .i64 (q' : Int) ∧ Hid (∀ j p, q' ≤ j → S[j]? = some p → x < p.2) ∧ Hid (Below wr.heap.size wr wq)) (fun q _ => (intOf q).toNat)
        case atStart =>
          exact ⟨so, Nat.le_refl _, rfl, Lib.hid (fun j p hj hp => by have := (List.getElem?_eq_some_iff.1 hp).1; have := HSL.out; omega), Lib.hid (Below.refl _ _)⟩
        case round =>
          obtain ⟨q, hq, rfl, HG, HW⟩ := hrel
          have hcq := (HW.out.cell (cell_lt hc)).trans hc
          rcases Nat.eq_zero_or_pos q with rfl | hq0
          · go_wp2
            go_quiet (fail)
            go_wp2
            have HPP := HP.out
            have hq2 : 0 ≤ so := by omega
            have hco : so ≤ co := by have h9 := HPP.1; have h8 := HSL.out; omega
            have sl1 := fun W => slice_hip Ao so co 0 (by omega) W
            have sl2 := fun W => slice_lop Ao so co 0 (by omega) W
            have wi : IntKind.i64.wrap (i : Int) = (i : Int) := IntWalk.i64_in _ (by omega)
            obtain ⟨W0, hW0⟩ : ∃ W0, wr.drewN nq = W0 := ⟨_, rfl⟩
            have hcq2 : W0.cell? (ad.add i) = some (.int .i64 (x : Int)) := by rw [← hW0]; exact hcq
            have BW : Hid (Below w'.heap.size w' W0) := Lib.hid (by rw [← hW0]; exact below_drewN' (below_on HB.out (Nat.le_refl _) HW.out) nq)
            have RQ : Hid (RdE W0 Ao S) := Lib.hid (by rw [← hW0]; exact rde_below (rde_below HRd.out HW.out (Nat.le_refl _)) (below_drewN' (Below.refl _ _) nq) (Nat.le_refl _))
            simp only [hW0]
            have RE : Hid (∀ W, Below W0.heap.size W0 W → Rv W Ao (flat2 (S.take 0)) ∧ Rv W Ao (flat2 (S.drop 0))) := Lib.hid (fun W hb => by
              have h9 := rv_rde (rde_below RQ.out hb (Nat.le_refl _))
              have h8 := offp_rv (n := 0) h9 (c := co) (by rw [HSL.out]; exact hco)
              exact ⟨take_rv h9 _, by first | exact h8 | exact (offp_zero Ao co ▸ h8)⟩)
            have FL : Hid ((flat2 (S.take 0)).length = 0 * 2 ∧ (flat2 (S.drop 0)).length = (so - 0) * 2) := Lib.hid ⟨by rw [flat2_len, List.length_take, HSL.out, Nat.min_eq_left hq2], by rw [flat2_len, List.length_drop, HSL.out]⟩
            obtain ⟨E, hE⟩ : ∃ E : Obj, Obj.cells #[] 55 = E := ⟨_, rfl⟩
            obtain ⟨Lt, hLt⟩ : ∃ Lt : Obj, Obj.cells #[.int .i64 (i : Int), .int .i64 (x : Int)] 55 = Lt := ⟨_, rfl⟩
            have bE := bel_new W0 E
            have bL := bel_new W0 Lt
            have bEL := below_on bE (Nat.le_refl _) (bel_new (W0.alloc E) Lt)
            have bLE := below_on bL (Nat.le_refl _) (bel_new (W0.alloc Lt) E)
            have OA : Hid ((W0.alloc E).drew.ownsRow W0.heap.size 55 2 (.slice (some ⟨W0.heap.size, 0, none⟩) 0 0) 0 []) := Lib.hid (by rw [← hE]; exact (own2_made W0 _ _ rfl (Nat.le_refl _)).drew)
            have OB : Hid (((W0.alloc E).alloc Lt).drew.ownsRow W0.heap.size 55 2 (.slice (some ⟨W0.heap.size, 0, none⟩) 0 0) 0 []) := Lib.hid (by rw [← hE]; exact (own2_below (own2_made W0 _ _ rfl (Nat.le_refl _)) (bel_new _ Lt)).drew)
            have OC : Hid (((W0.alloc Lt).alloc E).drew.ownsRow W0.heap.size 55 2 (.slice (some ⟨W0.heap.size + 1, 0, none⟩) 0 0) 0 []) := Lib.hid (by rw [← hE]; exact (own2_made (W0.alloc Lt) _ _ (World.size_alloc _ _) (by rw [World.size_alloc]; omega)).drew)
            have LB : Hid (Rv ((W0.alloc E).alloc Lt) (some ⟨W0.heap.size + 1, 0, none⟩) [.int .i64 (i : Int), .int .i64 (x : Int)]) := Lib.hid (by rw [← hLt]; exact lit2_rv (W0.alloc E) i x _ (World.size_alloc _ _))
            have LC : Hid (Rv ((W0.alloc Lt).alloc E) (some ⟨W0.heap.size, 0, none⟩) [.int .i64 (i : Int), .int .i64 (x : Int)]) := Lib.hid (by
              have h9 := lit2_rv W0 i x _ rfl
              rw [hLt] at h9
              exact h9.below (bel_new _ E))
            have BE := Lib.hid bE
            have BEL := Lib.hid bEL
            have BLE := Lib.hid bLE
            have z1 : W0.drew.cell? (ad.add i) = some (.int .i64 (x : Int)) := hcq2
            have z2 : (W0.alloc E).drew.cell? (ad.add i) = some (.int .i64 (x : Int)) := (bE.cell (cell_lt hcq2)).trans hcq2
            have CQ := Lib.hid hcq2
            have HLT := Lib.hid hLt
            have SE : Hid ((W0.alloc E).heap.size = W0.heap.size + 1 ∧ (W0.alloc Lt).heap.size = W0.heap.size + 1) := Lib.hid ⟨World.size_alloc _ _, World.size_alloc _ _⟩
            have HH1 : Hid (0 = 0 ∨ ∃ p, S[0 - 1]? = some p ∧ p.2 ≤ x) := Lib.hid (by first | exact .inl rfl | exact .inr ⟨_, HY.out, by show y ≤ x; omega⟩)
            have RS := Lib.hid (ris_step HX.out (by omega) HS.out HH1.out HG.out)
            have HLn : Hid ((S.take 0 ++ [(i, x)] ++ S.drop 0).length = so + 1) := Lib.hid (by rw [List.length_append, List.length_append, List.length_take, List.length_drop, HSL.out, Nat.min_eq_left hq2]; simp; omega)
            have HF : Hid (flat2 (S.take 0 ++ [(i, x)] ++ S.drop 0) = flat2 (S.take 0) ++ [.int .i64 (i : Int), .int .i64 (x : Int)] ++ flat2 (S.drop 0)) := Lib.hid (by rw [flat2_app, flat2_app]; rfl)
            have hsoN : so ≤ 256 := by omega
            clear hW0 HPP hcq hcq2 bE bL bEL bLE HW HRd HP HB
            go_region_law (first
              | (refine step_append_prs rfl (.tmp 40) (.tmp 43) rfl W0.heap.size (.slice (some ⟨W0.heap.size, 0, none⟩) 0 0) 0 [] (by simp [Act.eval, Act.put]) OA.out Ao (flat2 (S.take 0)) (flat2_one _) 0 co FL.out.1 (by simp [Act.eval, Act.put]) (RE.out _ BE.out).1 (by omega) BE.out.size ?_; intro v5 w5 ho5 hg5 he5; rw [Nat.zero_add, List.nil_append] at ho5; obtain ⟨A5, c5, rfl, _, _⟩ := own2_form ho5; have O5 := Lib.hid ho5; have hb5 : Below W0.heap.size W0 w5 := (BE.out.drew.grown hg5 BE.out.size (fun _ e => (own2_lt OA.out e).1)); have B5 := Lib.hid hb5; have z5 := (hb5.cell (cell_lt CQ.out)).trans CQ.out; have S5 : Hid (W0.heap.size ≤ w5.heap.size) := Lib.hid hb5.size; clear ho5 hg5 he5 hb5)
              | (refine step_append_prs rfl (.tmp 40) (.tmp 43) rfl W0.heap.size (.slice (some ⟨W0.heap.size, 0, none⟩) 0 0) 0 [] (by simp [Act.eval]) OB.out Ao (flat2 (S.take 0)) (flat2_one _) 0 co FL.out.1 (by simp [Act.eval]) (RE.out _ BEL.out).1 (by omega) BEL.out.size ?_; intro v5 w5 ho5 hg5 he5; rw [Nat.zero_add, List.nil_append] at ho5; obtain ⟨A5, c5, rfl, _, _⟩ := own2_form ho5; have O5 := Lib.hid ho5; have hb5 : Below W0.heap.size W0 w5 := (BEL.out.drew.grown hg5 BEL.out.size (fun _ e => (own2_lt OB.out e).1)); have B5 := Lib.hid hb5; have z5 := (hb5.cell (cell_lt CQ.out)).trans CQ.out; have S5 : Hid (W0.heap.size ≤ w5.heap.size) := Lib.hid hb5.size; have LB5 : Hid (Rv w5 (some ⟨W0.heap.size + 1, 0, none⟩) [.int .i64 (i : Int), .int .i64 (x : Int)]) := Lib.hid (LB.out.same (fun ad e => by injection e with e; subst e; exact hg5.block _ (by show W0.heap.size + 1 < ((W0.alloc E).alloc Lt).heap.size; rw [World.size_alloc, World.size_alloc]; omega) (fun e => by simp [Value.ownBlock] at e))); clear ho5 hg5 he5 hb5)
              | (refine step_append_prs rfl (.tmp 40) (.tmp 43) rfl W0.heap.size (.slice (some ⟨W0.heap.size + 1, 0, none⟩) 0 0) 0 [] (by simp [Act.eval]) OC.out Ao (flat2 (S.take 0)) (flat2_one _) 0 co FL.out.1 (by simp [Act.eval]) (RE.out _ BLE.out).1 (by omega) BLE.out.size ?_; intro v5 w5 ho5 hg5 he5; rw [Nat.zero_add, List.nil_append] at ho5; obtain ⟨A5, c5, rfl, _, _⟩ := own2_form ho5; have O5 := Lib.hid ho5; have hb5 : Below W0.heap.size W0 w5 := (BLE.out.drew.grown hg5 BLE.out.size (fun _ e => (own2_lt OC.out e).1)); have B5 := Lib.hid hb5; have z5 := (hb5.cell (cell_lt CQ.out)).trans CQ.out; have S5 : Hid (W0.heap.size ≤ w5.heap.size) := Lib.hid hb5.size; have LC5 : Hid (Rv w5 (some ⟨W0.heap.size, 0, none⟩) [.int .i64 (i : Int), .int .i64 (x : Int)]) := Lib.hid (LC.out.same (fun ad e => by injection e with e; subst e; exact hg5.block _ (by show W0.heap.size < ((W0.alloc Lt).alloc E).heap.size; rw [World.size_alloc, World.size_alloc]; omega) (fun e => by simp [Value.ownBlock] at e))); clear ho5 hg5 he5 hb5)
              | (refine step_append_prs rfl (.tmp 44) (.tmp 51) rfl W0.heap.size (.slice A5 0 c5) 0 (flat2 (S.take 0)) (by simp [Act.eval]) (own2_below O5.out (bel_new w5 Lt)) (some ⟨w5.heap.size, 0, none⟩) [.int .i64 (i : Int), .int .i64 (x : Int)] (by simp [Value.oneCell']) 1 1 rfl (by simp [Act.eval]) (by rw [← HLT.out]; exact lit2_rv w5 i x _ rfl) (by omega) (by rw [World.size_alloc]; have := S5.out; omega) ?_; intro v6 w6 ho6 hg6 he6; obtain ⟨A6, c6, rfl, _, _⟩ := own2_form ho6; have O6 := Lib.hid ho6; have hb6 : Below W0.heap.size W0 w6 := (Below.grown (below_on B5.out (Nat.le_refl _) (bel_new w5 Lt)) hg6 (by rw [World.size_alloc]; have := S5.out; omega) (fun _ e => (own2_lt O5.out e).1)); have B6 := Lib.hid hb6; clear ho6 hg6 he6 hb6)
              | (refine step_append_prs rfl (.tmp 44) (.tmp 51) rfl W0.heap.size (.slice A5 0 c5) 0 (flat2 (S.take 0)) (by simp [Act.eval]) O5.out (some ⟨W0.heap.size + 1, 0, none⟩) [.int .i64 (i : Int), .int .i64 (x : Int)] (by simp [Value.oneCell']) 1 1 rfl (by simp [Act.eval]) LB5.out (by omega) S5.out ?_; intro v6 w6 ho6 hg6 he6; obtain ⟨A6, c6, rfl, _, _⟩ := own2_form ho6; have O6 := Lib.hid ho6; have hb6 : Below W0.heap.size W0 w6 := (B5.out.grown hg6 S5.out (fun _ e => (own2_lt O5.out e).1)); have B6 := Lib.hid hb6; clear ho6 hg6 he6 hb6)
              | (refine step_append_prs rfl (.tmp 44) (.tmp 51) rfl W0.heap.size (.slice A5 0 c5) 0 (flat2 (S.take 0)) (by simp [Act.eval]) O5.out (some ⟨W0.heap.size, 0, none⟩) [.int .i64 (i : Int), .int .i64 (x : Int)] (by simp [Value.oneCell']) 1 1 rfl (by simp [Act.eval]) LC5.out (by omega) S5.out ?_; intro v6 w6 ho6 hg6 he6; obtain ⟨A6, c6, rfl, _, _⟩ := own2_form ho6; have O6 := Lib.hid ho6; have hb6 : Below W0.heap.size W0 w6 := (B5.out.grown hg6 S5.out (fun _ e => (own2_lt O5.out e).1)); have B6 := Lib.hid hb6; clear ho6 hg6 he6 hb6)
              | (refine step_append_prs rfl (.tmp 52) (.tmp 55) rfl W0.heap.size (.slice A6 (0 + 1) c6) (0 + 1) (flat2 (S.take 0) ++ [.int .i64 (i : Int), .int .i64 (x : Int)]) (by simp [Act.eval]) O6.out Ao (flat2 (S.drop 0)) (flat2_one _) (so - 0) (co - 0) FL.out.2 (by simp [Act.eval]) (RE.out _ B6.out).2 (by omega) B6.out.size ?_; intro v7 w7 ho7 hg7 he7; rw [← HF.out, show 0 + 1 + (so - 0) = so + 1 by omega] at ho7; obtain ⟨A7, c7, rfl, hn7, hc7⟩ := own2_form ho7; have O7 := Lib.hid ho7; have B7 : Hid (Below W0.heap.size W0 w7) := Lib.hid (B6.out.grown hg7 B6.out.size (fun _ e => (own2_lt O6.out e).1)); have H7 := Lib.hid (And.intro hn7 hc7); clear ho7 hg7 he7 hn7 hc7))
            all_goals
              go_wp2
              exact ⟨⟨i + 1, S.take 0 ++ [(i, x)] ++ S.drop 0, A7, c7, so + 1, by omega, by omega, by simp, rfl, HLn, RS, Lib.hid (rde_own O7.out), Lib.hid ⟨by rw [HLn.out]; exact H7.out.1, H7.out.2, by rw [HLn.out]; exact own2_base O7.out BW.out.size⟩, Lib.hid (below_on BW.out (Nat.le_refl _) B7.out)⟩, by simp [intOf]; omega⟩

          · obtain ⟨⟨s, y⟩, hy⟩ : ∃ p, S[q - 1]? = some p := ⟨_, List.getElem?_eq_getElem (by have := HSL.out; omega)⟩
            obtain ⟨g, hA, hy1, hy2⟩ := (rde_below HRd.out HW.out (Nat.le_refl _)) _ _ hy
            subst hA
            simp only [nv] at hy1 hy2
            have HY := Lib.hid hy
            clear hy hy1
            have e1 : ((q : Int) - 1) = ((q - 1 : Nat) : Int) := by omega
            by_cases hyx : x < y
            · go_wp2
              go_quiet (fail)
              go_wp2
              exact ⟨⟨q - 1, by omega, rfl, Lib.hid (fun j p hj hp => by
                rcases Nat.lt_or_ge j q with h1 | h1
                · have e2 : j = q - 1 := by omega
                  rw [e2, HY.out] at hp
                  injection hp with hp
                  rw [← hp]
                  exact hyx
                · exact HG.out j p h1 hp), Lib.hid ⟨HW.out.os, HW.out.tape, HW.out.output, HW.out.size, HW.out.block⟩⟩, by simp [intOf]; omega⟩
            · go_wp2
              go_quiet (fail)
              go_wp2
              have HPP := HP.out
              have hq2 : q ≤ so := by omega
              have hco : so ≤ co := by have h9 := HPP.1; have h8 := HSL.out; omega
              have sl1 := fun W => slice_hip (some ⟨g, 0, none⟩) so co q (by omega) W
              have sl2 := fun W => slice_lop (some ⟨g, 0, none⟩) so co q (by omega) W
              have wi : IntKind.i64.wrap (i : Int) = (i : Int) := IntWalk.i64_in _ (by omega)
              obtain ⟨W0, hW0⟩ : ∃ W0, wr.drewN nq = W0 := ⟨_, rfl⟩
              have hcq2 : W0.cell? (ad.add i) = some (.int .i64 (x : Int)) := by rw [← hW0]; exact hcq
              have BW : Hid (Below w'.heap.size w' W0) := Lib.hid (by rw [← hW0]; exact below_drewN' (below_on HB.out (Nat.le_refl _) HW.out) nq)
              have RQ : Hid (RdE W0 (some ⟨g, 0, none⟩) S) := Lib.hid (by rw [← hW0]; exact rde_below (rde_below HRd.out HW.out (Nat.le_refl _)) (below_drewN' (Below.refl _ _) nq) (Nat.le_refl _))
              simp only [hW0]
              have RE : Hid (∀ W, Below W0.heap.size W0 W → Rv W (some ⟨g, 0, none⟩) (flat2 (S.take q)) ∧ Rv W (offp (some ⟨g, 0, none⟩) co q) (flat2 (S.drop q))) := Lib.hid (fun W hb => by
                have h9 := rv_rde (rde_below RQ.out hb (Nat.le_refl _))
                have h8 := offp_rv (n := q) h9 (c := co) (by rw [HSL.out]; exact hco)
                exact ⟨take_rv h9 _, by first | exact h8 | exact (offp_zero (some ⟨g, 0, none⟩) co ▸ h8)⟩)
              have FL : Hid ((flat2 (S.take q)).length = q * 2 ∧ (flat2 (S.drop q)).length = (so - q) * 2) := Lib.hid ⟨by rw [flat2_len, List.length_take, HSL.out, Nat.min_eq_left hq2], by rw [flat2_len, List.length_drop, HSL.out]⟩
              obtain ⟨E, hE⟩ : ∃ E : Obj, Obj.cells #[] 55 = E := ⟨_, rfl⟩
              obtain ⟨Lt, hLt⟩ : ∃ Lt : Obj, Obj.cells #[.int .i64 (i : Int), .int .i64 (x : Int)] 55 = Lt := ⟨_, rfl⟩
              have bE := bel_new W0 E
              have bL := bel_new W0 Lt
              have bEL := below_on bE (Nat.le_refl _) (bel_new (W0.alloc E) Lt)
              have bLE := below_on bL (Nat.le_refl _) (bel_new (W0.alloc Lt) E)
              have OA : Hid ((W0.alloc E).drew.ownsRow W0.heap.size 55 2 (.slice (some ⟨W0.heap.size, 0, none⟩) 0 0) 0 []) := Lib.hid (by rw [← hE]; exact (own2_made W0 _ _ rfl (Nat.le_refl _)).drew)
              have OB : Hid (((W0.alloc E).alloc Lt).drew.ownsRow W0.heap.size 55 2 (.slice (some ⟨W0.heap.size, 0, none⟩) 0 0) 0 []) := Lib.hid (by rw [← hE]; exact (own2_below (own2_made W0 _ _ rfl (Nat.le_refl _)) (bel_new _ Lt)).drew)
              have OC : Hid (((W0.alloc Lt).alloc E).drew.ownsRow W0.heap.size 55 2 (.slice (some ⟨W0.heap.size + 1, 0, none⟩) 0 0) 0 []) := Lib.hid (by rw [← hE]; exact (own2_made (W0.alloc Lt) _ _ (World.size_alloc _ _) (by rw [World.size_alloc]; omega)).drew)
              have LB : Hid (Rv ((W0.alloc E).alloc Lt) (some ⟨W0.heap.size + 1, 0, none⟩) [.int .i64 (i : Int), .int .i64 (x : Int)]) := Lib.hid (by rw [← hLt]; exact lit2_rv (W0.alloc E) i x _ (World.size_alloc _ _))
              have LC : Hid (Rv ((W0.alloc Lt).alloc E) (some ⟨W0.heap.size, 0, none⟩) [.int .i64 (i : Int), .int .i64 (x : Int)]) := Lib.hid (by
                have h9 := lit2_rv W0 i x _ rfl
                rw [hLt] at h9
                exact h9.below (bel_new _ E))
              have BE := Lib.hid bE
              have BEL := Lib.hid bEL
              have BLE := Lib.hid bLE
              have z1 : W0.drew.cell? (ad.add i) = some (.int .i64 (x : Int)) := hcq2
              have z2 : (W0.alloc E).drew.cell? (ad.add i) = some (.int .i64 (x : Int)) := (bE.cell (cell_lt hcq2)).trans hcq2
              have CQ := Lib.hid hcq2
              have HLT := Lib.hid hLt
              have SE : Hid ((W0.alloc E).heap.size = W0.heap.size + 1 ∧ (W0.alloc Lt).heap.size = W0.heap.size + 1) := Lib.hid ⟨World.size_alloc _ _, World.size_alloc _ _⟩
              have HH1 : Hid (q = 0 ∨ ∃ p, S[q - 1]? = some p ∧ p.2 ≤ x) := Lib.hid (by first | exact .inl rfl | exact .inr ⟨_, HY.out, by show y ≤ x; omega⟩)
              have RS := Lib.hid (ris_step HX.out (by omega) HS.out HH1.out HG.out)
              have HLn : Hid ((S.take q ++ [(i, x)] ++ S.drop q).length = so + 1) := Lib.hid (by rw [List.length_append, List.length_append, List.length_take, List.length_drop, HSL.out, Nat.min_eq_left hq2]; simp; omega)
              have HF : Hid (flat2 (S.take q ++ [(i, x)] ++ S.drop q) = flat2 (S.take q) ++ [.int .i64 (i : Int), .int .i64 (x : Int)] ++ flat2 (S.drop q)) := Lib.hid (by rw [flat2_app, flat2_app]; rfl)
              have hsoN : so ≤ 256 := by omega
              clear hW0 HPP hcq hcq2 bE bL bEL bLE HW HRd HP HB
              go_region_law (first
                | (refine step_append_prs rfl (.tmp 40) (.tmp 43) rfl W0.heap.size (.slice (some ⟨W0.heap.size, 0, none⟩) 0 0) 0 [] (by simp [Act.eval, Act.put]) OA.out (some ⟨g, 0, none⟩) (flat2 (S.take q)) (flat2_one _) q co FL.out.1 (by simp [Act.eval, Act.put]) (RE.out _ BE.out).1 (by omega) BE.out.size ?_; intro v5 w5 ho5 hg5 he5; rw [Nat.zero_add, List.nil_append] at ho5; obtain ⟨A5, c5, rfl, _, _⟩ := own2_form ho5; have O5 := Lib.hid ho5; have hb5 : Below W0.heap.size W0 w5 := (BE.out.drew.grown hg5 BE.out.size (fun _ e => (own2_lt OA.out e).1)); have B5 := Lib.hid hb5; have z5 := (hb5.cell (cell_lt CQ.out)).trans CQ.out; have S5 : Hid (W0.heap.size ≤ w5.heap.size) := Lib.hid hb5.size; clear ho5 hg5 he5 hb5)
                | (refine step_append_prs rfl (.tmp 40) (.tmp 43) rfl W0.heap.size (.slice (some ⟨W0.heap.size, 0, none⟩) 0 0) 0 [] (by simp [Act.eval]) OB.out (some ⟨g, 0, none⟩) (flat2 (S.take q)) (flat2_one _) q co FL.out.1 (by simp [Act.eval]) (RE.out _ BEL.out).1 (by omega) BEL.out.size ?_; intro v5 w5 ho5 hg5 he5; rw [Nat.zero_add, List.nil_append] at ho5; obtain ⟨A5, c5, rfl, _, _⟩ := own2_form ho5; have O5 := Lib.hid ho5; have hb5 : Below W0.heap.size W0 w5 := (BEL.out.drew.grown hg5 BEL.out.size (fun _ e => (own2_lt OB.out e).1)); have B5 := Lib.hid hb5; have z5 := (hb5.cell (cell_lt CQ.out)).trans CQ.out; have S5 : Hid (W0.heap.size ≤ w5.heap.size) := Lib.hid hb5.size; have LB5 : Hid (Rv w5 (some ⟨W0.heap.size + 1, 0, none⟩) [.int .i64 (i : Int), .int .i64 (x : Int)]) := Lib.hid (LB.out.same (fun ad e => by injection e with e; subst e; exact hg5.block _ (by show W0.heap.size + 1 < ((W0.alloc E).alloc Lt).heap.size; rw [World.size_alloc, World.size_alloc]; omega) (fun e => by simp [Value.ownBlock] at e))); clear ho5 hg5 he5 hb5)
                | (refine step_append_prs rfl (.tmp 40) (.tmp 43) rfl W0.heap.size (.slice (some ⟨W0.heap.size + 1, 0, none⟩) 0 0) 0 [] (by simp [Act.eval]) OC.out (some ⟨g, 0, none⟩) (flat2 (S.take q)) (flat2_one _) q co FL.out.1 (by simp [Act.eval]) (RE.out _ BLE.out).1 (by omega) BLE.out.size ?_; intro v5 w5 ho5 hg5 he5; rw [Nat.zero_add, List.nil_append] at ho5; obtain ⟨A5, c5, rfl, _, _⟩ := own2_form ho5; have O5 := Lib.hid ho5; have hb5 : Below W0.heap.size W0 w5 := (BLE.out.drew.grown hg5 BLE.out.size (fun _ e => (own2_lt OC.out e).1)); have B5 := Lib.hid hb5; have z5 := (hb5.cell (cell_lt CQ.out)).trans CQ.out; have S5 : Hid (W0.heap.size ≤ w5.heap.size) := Lib.hid hb5.size; have LC5 : Hid (Rv w5 (some ⟨W0.heap.size, 0, none⟩) [.int .i64 (i : Int), .int .i64 (x : Int)]) := Lib.hid (LC.out.same (fun ad e => by injection e with e; subst e; exact hg5.block _ (by show W0.heap.size < ((W0.alloc Lt).alloc E).heap.size; rw [World.size_alloc, World.size_alloc]; omega) (fun e => by simp [Value.ownBlock] at e))); clear ho5 hg5 he5 hb5)
                | (refine step_append_prs rfl (.tmp 44) (.tmp 51) rfl W0.heap.size (.slice A5 q c5) q (flat2 (S.take q)) (by simp [Act.eval]) (own2_below O5.out (bel_new w5 Lt)) (some ⟨w5.heap.size, 0, none⟩) [.int .i64 (i : Int), .int .i64 (x : Int)] (by simp [Value.oneCell']) 1 1 rfl (by simp [Act.eval]) (by rw [← HLT.out]; exact lit2_rv w5 i x _ rfl) (by omega) (by rw [World.size_alloc]; have := S5.out; omega) ?_; intro v6 w6 ho6 hg6 he6; obtain ⟨A6, c6, rfl, _, _⟩ := own2_form ho6; have O6 := Lib.hid ho6; have hb6 : Below W0.heap.size W0 w6 := (Below.grown (below_on B5.out (Nat.le_refl _) (bel_new w5 Lt)) hg6 (by rw [World.size_alloc]; have := S5.out; omega) (fun _ e => (own2_lt O5.out e).1)); have B6 := Lib.hid hb6; clear ho6 hg6 he6 hb6)
                | (refine step_append_prs rfl (.tmp 44) (.tmp 51) rfl W0.heap.size (.slice A5 q c5) q (flat2 (S.take q)) (by simp [Act.eval]) O5.out (some ⟨W0.heap.size + 1, 0, none⟩) [.int .i64 (i : Int), .int .i64 (x : Int)] (by simp [Value.oneCell']) 1 1 rfl (by simp [Act.eval]) LB5.out (by omega) S5.out ?_; intro v6 w6 ho6 hg6 he6; obtain ⟨A6, c6, rfl, _, _⟩ := own2_form ho6; have O6 := Lib.hid ho6; have hb6 : Below W0.heap.size W0 w6 := (B5.out.grown hg6 S5.out (fun _ e => (own2_lt O5.out e).1)); have B6 := Lib.hid hb6; clear ho6 hg6 he6 hb6)
                | (refine step_append_prs rfl (.tmp 44) (.tmp 51) rfl W0.heap.size (.slice A5 q c5) q (flat2 (S.take q)) (by simp [Act.eval]) O5.out (some ⟨W0.heap.size, 0, none⟩) [.int .i64 (i : Int), .int .i64 (x : Int)] (by simp [Value.oneCell']) 1 1 rfl (by simp [Act.eval]) LC5.out (by omega) S5.out ?_; intro v6 w6 ho6 hg6 he6; obtain ⟨A6, c6, rfl, _, _⟩ := own2_form ho6; have O6 := Lib.hid ho6; have hb6 : Below W0.heap.size W0 w6 := (B5.out.grown hg6 S5.out (fun _ e => (own2_lt O5.out e).1)); have B6 := Lib.hid hb6; clear ho6 hg6 he6 hb6)
                | (refine step_append_prs rfl (.tmp 52) (.tmp 55) rfl W0.heap.size (.slice A6 (q + 1) c6) (q + 1) (flat2 (S.take q) ++ [.int .i64 (i : Int), .int .i64 (x : Int)]) (by simp [Act.eval]) O6.out (offp (some ⟨g, 0, none⟩) co q) (flat2 (S.drop q)) (flat2_one _) (so - q) (co - q) FL.out.2 (by simp [Act.eval]) (RE.out _ B6.out).2 (by omega) B6.out.size ?_; intro v7 w7 ho7 hg7 he7; rw [← HF.out, show q + 1 + (so - q) = so + 1 by omega] at ho7; obtain ⟨A7, c7, rfl, hn7, hc7⟩ := own2_form ho7; have O7 := Lib.hid ho7; have B7 : Hid (Below W0.heap.size W0 w7) := Lib.hid (B6.out.grown hg7 B6.out.size (fun _ e => (own2_lt O6.out e).1)); have H7 := Lib.hid (And.intro hn7 hc7); clear ho7 hg7 he7 hn7 hc7))
              all_goals
                go_wp2
                exact ⟨⟨i + 1, S.take q ++ [(i, x)] ++ S.drop q, A7, c7, so + 1, by omega, by omega, by simp, rfl, HLn, RS, Lib.hid (rde_own O7.out), Lib.hid ⟨by rw [HLn.out]; exact H7.out.1, H7.out.2, by rw [HLn.out]; exact own2_base O7.out BW.out.size⟩, Lib.hid (below_on BW.out (Nat.le_refl _) B7.out)⟩, by simp [intOf]; omega⟩

    · have HE : Hid (k.take i = k) := Lib.hid (List.take_of_length_le (by rw [HKL.out]; omega))
      go_wp2
      go_ret
      exact ⟨⟨S, Ao, co, by rw [HSL.out]; rfl, by rw [← HE.out]; exact HS.out, HP.out⟩, HB.out⟩
end Go.Proofs.Ytdlhfcapfbbjjaa
