/-
  What the reference's Normal does at valid counts: it returns the normalized table in new memory. Nothing that was there has changed. Condition: at most 1000000 counts.
-/
import Derived.Test.YtkojdhmgefggjaaRfm
namespace Go.Proofs.Ytkojdhmgefggjaa
open Go.RowKit Go.Shelf

theorem und_il : Try.prog.underlying 22 = some (.slice (Try.prog.elem 22)) := by kernel_rfl
theorem elem_il : Try.prog.elem 22 = 3 := by kernel_rfl
theorem size_int (W : World) : (sizeOf 3).run Try.prog W = .ok 1 W := by
  obtain ⟨i0, hi, _, hz1, _⟩ := info_parts int_info
  simp [sizeOf, typeInfo, hi, hz1]
theorem slice_hi (A : Option Addr) (N c n : Nat) (h : n ≤ c) (W : World) : (Instr.slice 22 (.slice A N c) none (some (.int .i64 (n : Int))) none).run Try.prog W = .ok (.slice A n c) W := by
  rw [run_slice_h _ _ _ _ _ und_il _ _ (by omega) (by omega), elem_il, size_int]
  simp [Result.andThen, sliced]
  intro _
  cases A with
  | none => rfl
  | some a => simp [Addr.add]
theorem range_get {N i : Nat} (h : i < N) : (List.range N)[i]? = some i := by rw [List.getElem?_range h]
theorem mul_bd {x s : Nat} (hx : x ≤ 1099511627776) (hs : s ≤ 512) : x * s ≤ 562949953421312 := Nat.mul_le_mul hx hs
theorem mulT_bd {a : Int} {T : Nat} (h : 0 ≤ a ∧ a ≤ 1000000) (hT : T ≤ 1099511627776) : 0 ≤ a * (T : Int) ∧ a * (T : Int) ≤ 1099511627776000000 := by
  have h4 := Int.mul_le_mul h.2 (show (T : Int) ≤ 1099511627776 by omega) (by omega) (by omega)
  have h5 := Int.mul_nonneg h.1 (show (0 : Int) ≤ (T : Int) by omega)
  omega

theorem quo_wrap {X T Q : Nat} (hQ : X / T = Q) (hb : Q ≤ 512) : wrap64 ((X : Int) / (T : Int)) = (Q : Int) := by
  have : ((X : Int) / (T : Int)) = (Q : Int) := by rw [← hQ]; exact (Int.natCast_ediv X T).symm
  rw [this]; unfold wrap64; omega
theorem st0_of {k : List Nat} {s i x X T Q : Nat} (hcn : cn k i = x) (hx : x ≠ 0) (hX : x * s = X) (hT : tot k = T) (hQ : X / T = Q) : (Q = 0 → st0 k s i = 1) ∧ (Q ≠ 0 → st0 k s i = (Q : Int)) := by
  have : st0 k s i = ((max 1 Q : Nat) : Int) := by rw [st0, hcn, if_neg hx, hX, hT, hQ]
  rw [this]
  exact ⟨fun h => by omega, fun h => by omega⟩

theorem row_drew {W : World} {B g N : Nat} {f : Nat → Int} (h : Row W B g N f) (d : Nat) : Row (W.drewN d) B g N f := h

theorem nrm_take {k : List Nat} {s la N : Nat} (hla : la = lst k) (h : la + 1 ≤ N) : (rw_ N (fun j => if j < la + 1 then nm k s j else fin k s j)).take (la + 1) = (nrm k s).map iv := by
  subst hla
  unfold rw_ nrm
  rw [← List.map_take, ← List.map_take, List.take_range, Nat.min_eq_left h]
  congr 1
  refine List.map_congr_left fun j hj => ?_
  rw [List.mem_range] at hj
  rw [if_pos hj]

/-- The reference's choice is the program's. -/
abbrev rok (ok : Int → Bool) (k : List Nat) (st : Nat → Int) : Nat → Bool := fun i => ok (st i) && decide (0 < cn k i)
theorem pick_ref {ok : Int → Bool} {k : List Nat} {st : Nat → Int} {key : Nat → Int} : pick (fun i => ok (st i)) key (usy k) = pick (rok ok k st) key (List.range k.length) := pick_both

set_option maxRecDepth 100000 in
set_option maxHeartbeats 16000000 in
theorem rnormal_ok (w : World) (A : Option Addr) (k : List Nat) (N c lg s : Nat) (hN : k.length = N) (hg : Gd k lg s) (hR : Rn w A k) :
    Calls Try.prog 16 #[.slice A N c, .int .i64 (lg : Int)] w fun e w' => ∃ g c', e = .returned (.tuple #[tb lg (some ⟨g, 0, none⟩) (lst k + 1) c', .int .i64 0]) ∧ Ri w' (some ⟨g, 0, none⟩) (nrm k s) ∧ Below w.heap.size w w' := by
  obtain ⟨hT, h0, hlg, hs, hu, hlen⟩ := hg
  rw [hN] at hlen
  have hs5 : s ≤ 512 := by rw [← hs]; exact pow_le hlg
  have hs1 : 1 ≤ s := by rw [← hs]; exact Nat.one_le_two_pow
  have SZ := Lib.hid (fun W => size_any W (lg : Int))
  have hsz : siz (lg : Int) = s := by unfold siz; rw [if_neg (by omega)]; simpa using hs
  rw [hsz] at SZ
  have g1 : Below w.heap.size w (w.alloc (.cells #[.int .i64 0, .slice none 0 0] 24)) := (Below.refl _ w).alloc (Nat.le_refl _) _
  have t1 := Tb.new w 0 none 0 0
  obtain ⟨w1, hw1⟩ : ∃ w1, w.alloc (.cells #[.int .i64 0, .slice none 0 0] 24) = w1 := ⟨_, rfl⟩
  have hw1s : w1.heap.size = w.heap.size + 1 := by rw [← hw1, World.size_alloc]
  rw [hw1] at g1 t1
  have hR1 := hR.below g1
  have CT := Lib.hid (rcounts_any w1 A (k.map (fun n : Nat => (n : Int))) N c (by rw [List.length_map]; exact hN) (by omega) (by show Rv _ _ _; rw [ri_nats]; exact hR1))
  have hmp : (k.map (fun n : Nat => (n : Int))).map Int.toNat = k := by rw [List.map_map]; exact (List.map_congr_left (g := id) (fun x _ => by simp)).trans (List.map_id k)
  have hfi : fine (k.map (fun n : Nat => (n : Int))) = true := by
    unfold fine
    rw [hmp, Bool.and_eq_true, decide_eq_true_iff, List.all_eq_true]
    exact ⟨fun z hz => by obtain ⟨x, _, rfl⟩ := List.mem_map.1 hz; simp, hT⟩
  obtain ⟨T, hTe⟩ : ∃ T, tot k = T := ⟨_, rfl⟩
  obtain ⟨u, hue⟩ : ∃ u, nus k = u := ⟨_, rfl⟩
  have hsv : srv (k.map (fun n : Nat => (n : Int))) = .tuple #[nv T, nv u, .bool true] := by
    rw [srv_yes (s := T) (u := u) hfi (by rw [hmp]; exact hTe) (by rw [hmp]; exact hue), decide_eq_true (show (0 : Int) < (u : Int) by omega)]
  rw [hsv] at CT
  have hT0 : 0 < T := by rw [← hTe]; exact nus_tot h0
  have HNU := Lib.hid h0
  have HLT : Hid (lst k < N) := Lib.hid (by rw [← hN]; exact lst_lt h0)
  rw [hue] at hu h0
  rw [hTe] at hT
  have HN := Lib.hid hN
  have HT := Lib.hid hTe
  have HU : Hid ((usy k).length = u) := Lib.hid (by rw [usy_len]; exact hue)
  have d1 : decide ((lg : Int) < 0) = false := decide_eq_false (by omega)
  have d2 : decide (9 < (lg : Int)) = false := decide_eq_false (by omega)
  have d3 : decide ((s : Int) < (u : Int)) = false := decide_eq_false (by omega)
  obtain ⟨w2, hmk, ho2, hb2⟩ := make_ints N (by omega) w1
  have hw1g : w1.heap.size = w.heap.size + 1 := hw1s
  rw [hw1s] at ho2
  have mk : (Instr.makeSlice 22 (.int .i64 (N : Int)) (.int .i64 (N : Int))).run Try.prog w1 = .ok (.slice (some ⟨w.heap.size + 1, 0, none⟩) N N) w2 := by rw [hmk, hw1s]
  obtain ⟨g, hgg⟩ : ∃ g, w.heap.size + 1 = g := ⟨_, rfl⟩
  rw [hgg] at mk ho2
  have T2 := Lib.hid (t1.below hb2)
  have G2 := Lib.hid (below_on g1 (Nat.le_refl _) hb2)
  have O2 : Hid (Row w2 g g N (fun j => if j < 0 then st0 k s j else 0)) := Lib.hid (by
    have e : rw_ N (fun j => if j < 0 then st0 k s j else 0) = (List.replicate N 0).map iv := by
      unfold rw_
      congr 1
      refine List.ext_getElem? fun j => ?_
      rcases Nat.lt_or_ge j N with h | h
      · simp [h]
      · simp [h]
    unfold Row
    rw [e]
    exact ho2)
  have HR := Lib.hid hR
  have HTB : Hid (tot k ≤ 1099511627776) := Lib.hid (by rw [HT.out]; exact hT)
  clear hmk ho2 hb2 g1 t1 hR1 hmp hfi hsv hR hTe hue hN hsz hs hw1g
  go_enter Try.func16, Try.ntmps16
  go_wp2_with (first
    | (go_at_call 21; refine CT.out.mono ?_; rintro e w' ⟨rfl, rfl⟩)
    | (go_at_call 22; refine (SZ.out _).mono ?_; rintro e w' ⟨rfl, rfl⟩))
  clear mk hw1 d1 d2 d3
  go_loopw [10, 11, 13] (fun t q p wr => ∃ (i la : Nat) (S : Int), i ≤ N ∧ p = .int .i64 (i : Int) ∧ q = .int .i64 (la : Int) ∧ t = .int .i64 S ∧ Hid (lsi k i = la) ∧ Hid (S = sm (st0 k s) (usi k i)) ∧ Hid (Row wr g g N (fun j => if j < i then st0 k s j else 0)) ∧ Hid (Below g w2 wr)) (fun _ _ p _ => N - (intOf p).toNat)
  case atStart => exact ⟨0, 0, 0, Nat.zero_le _, rfl, rfl, rfl, Lib.hid (lsi_zero k), Lib.hid (by simp [usi, sm]), O2, Lib.hid (Below.refl _ _)⟩
  case round =>
    obtain ⟨i, la, S, hi, rfl, rfl, rfl, HLA, HS, HO, HB⟩ := hrel
    clear O2
    have hgw : w.heap.size < g := by omega
    by_cases hlt : i < N
    · obtain ⟨x, hx⟩ : ∃ x, k[i]? = some x := ⟨_, List.getElem?_eq_getElem (by rw [HN.out]; exact hlt)⟩
      have hBw : Below w.heap.size w wr := G2.out.trans (HB.out.mono (by omega))
      obtain ⟨ad, rfl, hc⟩ := HR.out i (nv x) (by rw [List.getElem?_map, hx]; rfl)
      have hc2 := (hBw.cell (cell_lt hc)).trans hc
      simp only [nv] at hc2
      have hcn : cn k i = x := by unfold cn; rw [hx]; rfl
      have hus := usi_succ k i
      rw [hcn] at hus
      clear hc hBw
      by_cases hx0 : x = 0
      · subst hx0
        simp only [Int.natCast_zero] at hc2
        have HUS : Hid (usi k (i + 1) = usi k i) := Lib.hid (by rw [hus]; simp)
        have HL2 : Hid (lsi k (i + 1) = la) := Lib.hid (by rw [lsi_no hcn]; exact HLA.out)
        have HO2 : Hid (Row wr g g N (fun j => if j < i + 1 then st0 k s j else 0)) := Lib.hid (HO.out.congr (fun j _ => by
          by_cases h1 : j = i
          · subst h1; rw [if_neg (by omega), if_pos (by omega), st0, if_pos hcn]
          · by_cases h2 : j < i
            · rw [if_pos h2, if_pos (by omega)]
            · rw [if_neg h2, if_neg (by omega)]))
        clear hus hx hcn
        go_wp2
        exact ⟨⟨i + 1, la, S, by omega, by simp, rfl, rfl, HL2, by rw [HUS.out]; exact HS, HO2, HB⟩, by simp [intOf]; omega⟩
      · have hxT : x ≤ T := by rw [← HT.out, ← hcn]; exact cn_le i
        obtain ⟨X, hX⟩ : ∃ X, x * s = X := ⟨_, rfl⟩
        have hXb : X ≤ 562949953421312 := by rw [← hX]; exact mul_bd (by omega) hs5
        have e1 : (x : Int) * (s : Int) = (X : Int) := by rw [← hX]; exact (Int.natCast_mul x s).symm
        obtain ⟨Q, hQ⟩ : ∃ Q, X / T = Q := ⟨_, rfl⟩
        have hQb : Q ≤ 512 := by
          have h5 : X / T ≤ s := by
            rw [← hX]
            exact Nat.div_le_of_le_mul (Nat.mul_le_mul_right s hxT)
          omega
        have HE2 : Hid (wrap64 ((X : Int) / (T : Int)) = (Q : Int)) := Lib.hid (quo_wrap hQ hQb)
        have hx1 : ((x : Int) == 0) = false := by simp; omega
        have HUS : Hid (usi k (i + 1) = usi k i ++ [i]) := Lib.hid (by rw [hus, if_pos (by omega)])
        have HL2 : Hid (lsi k (i + 1) = i) := Lib.hid (lsi_yes (by omega))
        have HST := Lib.hid (st0_of hcn hx0 hX HT.out hQ)
        have hSb : 0 ≤ S ∧ S ≤ 512000000 := by
          have h9 := sm_bound (st := st0 k s) (M := 512) (U := usi k i) (fun j _ => st0_bd k hs5 j)
          rw [HS.out]
          have h10 : (usi k i).length ≤ N := by
            rw [usi_len (by rw [HN.out]; omega)]
            have := nus_le (k.take i)
            rw [List.length_take] at this
            omega
          omega
        have r0 := HO.out.cell hlt
        simp only [Nat.lt_irrefl, if_false] at r0
        have f0 := World.ownsRow.frozenAt HO.out i
        have HFS : Hid (∀ (y : Int), st0 k s i = y → ∀ j, (if j = i then y else if j < i then st0 k s j else 0) = if j < i + 1 then st0 k s j else 0) := Lib.hid (fun y hy j => by
          by_cases h1 : j = i
          · subst h1; rw [if_pos rfl, if_pos (by omega), hy]
          · rw [if_neg h1]
            by_cases h2 : j < i
            · rw [if_pos h2, if_pos (by omega)]
            · rw [if_neg h2, if_neg (by omega)])
        obtain ⟨Wa, hWa⟩ : ∃ Wa, wr.setCell ⟨g, i, none⟩ (.int .i64 (Q : Int)) = Wa := ⟨_, rfl⟩
        have ra : Row Wa g g N (fun j => if j = i then (Q : Int) else if j < i then st0 k s j else 0) := by rw [← hWa]; exact HO.out.set i _
        have ca := ra.cell hlt
        simp only [if_true] at ca
        have fa := World.ownsRow.frozenAt ra i
        have HBa : Hid (Below g w2 Wa) := Lib.hid (by rw [← hWa]; exact HB.out.setCell (p := ⟨g, i, none⟩) (Nat.le_refl _) _)
        have RA := Lib.hid ra
        by_cases hq0 : Q = 0
        · subst hq0
          simp only [Int.natCast_zero] at ca hWa HE2 RA
          have hST1 : st0 k s i = 1 := HST.out.1 rfl
          obtain ⟨Wb, hWb⟩ : ∃ Wb, Wa.setCell ⟨g, i, none⟩ (.int .i64 1) = Wb := ⟨_, rfl⟩
          have rb : Row Wb g g N (fun j => if j < i + 1 then st0 k s j else 0) := by
            rw [← hWb]
            refine (RA.out.set i 1).congr (fun j _ => ?_)
            show (if j = i then 1 else if j = i then 0 else if j < i then st0 k s j else 0) = _
            rw [← HFS.out 1 hST1 j]
            by_cases h1 : j = i
            · rw [if_pos h1, if_pos h1]
            · rw [if_neg h1, if_neg h1, if_neg h1]
          have cb := rb.cell hlt
          simp only [Nat.lt_succ_self, if_true, hST1] at cb
          have RB := Lib.hid rb
          have HBb : Hid (Below g w2 Wb) := Lib.hid (by rw [← hWb]; exact HBa.out.setCell (p := ⟨g, i, none⟩) (Nat.le_refl _) _)
          have HF : Hid (S + 1 = sm (st0 k s) (usi k (i + 1))) := Lib.hid (by rw [HUS.out, sm_append, sm_cons, sm_nil, hST1, HS.out]; omega)
          have e2 := HE2.out
          clear hus hx hcn hX hQ hx0 HST hST1 ra rb RA HO HE2
          go_wp2
          exact ⟨⟨i + 1, i, S + 1, by omega, by simp, rfl, rfl, HL2, HF, RB, HBb⟩, by simp [intOf]; omega⟩
        · have hST1 : st0 k s i = (Q : Int) := HST.out.2 hq0
          have hq1 : ((Q : Int) == 0) = false := by simp; omega
          have RB : Hid (Row Wa g g N (fun j => if j < i + 1 then st0 k s j else 0)) := Lib.hid (ra.congr (fun j _ => HFS.out _ hST1 j))
          have HF : Hid (S + (Q : Int) = sm (st0 k s) (usi k (i + 1))) := Lib.hid (by rw [HUS.out, sm_append, sm_cons, sm_nil, hST1, HS.out]; omega)
          have wS : wrap64 (S + (Q : Int)) = S + (Q : Int) := by unfold wrap64; omega
          have e2 := HE2.out
          clear hus hx hcn hX hQ hx0 HST hST1 ra RA HO hq0 HE2
          go_wp2
          exact ⟨⟨i + 1, i, S + (Q : Int), by omega, by simp, rfl, by rw [wS], HL2, HF, RB, HBa⟩, by simp [intOf]; omega⟩
    · have hiN : N = i := by omega
      subst hiN
      have hrow := HO.out.congr (f' := st0 k s) (fun j hj => if_pos hj)
      have hS0 : S = (s : Int) - lft k s := by rw [HS.out]; unfold lft; rw [← usi_all, HN.out]; omega
      have HLA2 : Hid (la = lst k) := Lib.hid (by rw [← HLA.out, ← HN.out]; exact lsi_all k)
      have hlb := lft_bd k hs5 (by rw [← usy_len, HU.out]; exact hu)
      have OUT : Hid (∀ i, i ∉ usy k → st0 k s i = 0) := Lib.hid (fun i hi => by
        unfold st0
        split
        · rfl
        · next h =>
          exfalso
          refine hi (usy_mem.2 ⟨?_, by omega⟩)
          rcases Nat.lt_or_ge i k.length with h1 | h1
          · exact h1
          · exact absurd (by unfold cn; rw [List.getElem?_eq_none h1]; rfl) h)
      have HROW := Lib.hid hrow
      clear hrow HO HS HLA

      obtain ⟨S0, hSS0⟩ : ∃ S0, S = S0 := ⟨_, rfl⟩
      rw [hSS0] at hS0
      have UA : Hid (∀ i ∈ usy k, 0 ≤ upN (shr k s) T (usy k) ((s : Int) - S0).toNat (st0 k s) i ∧ upN (shr k s) T (usy k) ((s : Int) - S0).toNat (st0 k s) i ≤ 2000) := Lib.hid (fun i hi => by
        have h1 := (upN_all (sh := shr k s) (t := (T : Int)) (U := usy k) (fun e => by have := HU.out; rw [e] at this; simp at this; omega) (usy_nodup k) ((s : Int) - S0).toNat (st0 k s)).2 0 512 (fun i hi => (rg0 k hs5 HTB.out).st i hi) i hi
        omega)
      have HP0 : Hid (Pro 1 upOk upKf (fun z => z.toNat) (usy k) (shr k s) T (st0 k s) ((s : Int) - S0) (st0 k s) ((s : Int) - S0)) := Lib.hid (Pro.zero ⟨(rg0 k hs5 HTB.out).sh, fun i hi => by
        have h1 := (rg0 k hs5 HTB.out).st i hi
        (try dsimp only)
        omega⟩ OUT.out)
      rw [hSS0]
      clear hSS0
      go_wp2
      go_loopw [10] (fun t wr => ∃ (st' : Nat → Int) (S : Int), t = .int .i64 S ∧ -262144 ≤ (s : Int) - S ∧ (s : Int) - S ≤ 262144 ∧ Hid (Pro 1 upOk upKf (fun z => z.toNat) (usy k) (shr k s) T (st0 k s) ((s : Int) - S0) st' ((s : Int) - S)) ∧ Hid (Row wr g g N st') ∧ Hid (Below g w2 wr)) (fun t _ => ((s : Int) - intOf t).toNat)
      case atStart => exact ⟨(st0 k s), S0, rfl, by omega, by omega, HP0, HROW, HB⟩
      case round =>
        obtain ⟨st', S, rfl, hS1, hS2, HP, HO, HB⟩ := hrel
        by_cases hdue : S < (s : Int)
        · clear HROW HP0
          have hBw : Below w.heap.size w wr := G2.out.trans (HB.out.mono (by omega))
          obtain ⟨b, hbU, hpk⟩ := up_pick (sh := shr k s) (t := (T : Int)) (U := usy k) (st := st') (fun e => by have := HU.out; rw [e] at this; simp at this; omega)
          have hbN : b < N := by rw [← HN.out]; exact (usy_mem.1 hbU).1
          have hstb := HP.out.rng.st b hbU
          (try dsimp only at hstb)
          rw [pick_ref, HN.out] at hpk
          have HPK := Lib.hid hpk
          have HPKU : Hid (pick (fun i => upOk (st' i)) (fun i => upKf (shr k s i - st' i * (T : Int))) (usy k) = some b) := Lib.hid (by rw [pick_ref, HN.out]; exact hpk)
          have HRR : Hid (Rn wr A k) := Lib.hid (HR.out.below hBw)
          have HST : Hid (∀ i, 0 ≤ st' i ∧ st' i ≤ 1000000) := Lib.hid (fun i => by
            by_cases hi : i ∈ usy k
            · have := HP.out.rng.st i hi
              (try dsimp only at this)
              omega
            · rw [HP.out.out i hi]; omega)
          clear hpk hbU hBw
          go_wp2
          go_loopw [14, 15] (fun q p wi => ∃ (m : Nat) (r : Int), m ≤ N ∧ p = .int .i64 (m : Int) ∧ q = .int .i64 r ∧ Hid (Bst (rok upOk k st') (fun i => upKf (shr k s i - st' i * (T : Int))) (List.range N) m r) ∧ ∃ d, wi = wr.drewN d) (fun _ p _ => N - (intOf p).toNat)
          case atStart => exact ⟨0, -1, Nat.zero_le _, rfl, rfl, Lib.hid (Bst.zero _ _ _), 0, rfl⟩
          case round =>
            obtain ⟨m, r, hm, rfl, rfl, HS, d, rfl⟩ := hrel
            by_cases hlt : m < N
            · obtain ⟨x, hx⟩ : ∃ x, k[m]? = some x := ⟨_, List.getElem?_eq_getElem (by rw [HN.out]; exact hlt)⟩
              obtain ⟨ad, rfl, hc⟩ := HRR.out m (nv x) (by rw [List.getElem?_map, hx]; rfl)
              simp only [nv] at hc
              have hcn : cn k m = x := by unfold cn; rw [hx]; rfl
              have hxT : x ≤ T := by rw [← HT.out, ← hcn]; exact cn_le m
              have cm := HO.out.cell hlt
              have hab := HST.out m
              have HKm : Hid (upKf (shr k s m - st' m * (T : Int)) = upKf (((x * s : Nat) : Int) - st' m * (T : Int))) := Lib.hid (by unfold shr; rw [hcn])
              have HIM : Hid ((List.range N)[m]? = some m) := Lib.hid (range_get hlt)
              have HCN := Lib.hid hcn
              have HOUT : Hid (1 < st' m → 0 < x) := Lib.hid (fun h => by
                rcases Nat.eq_zero_or_pos x with h0 | h0
                · have h1 := HP.out.out m (fun e => by have := (usy_mem.1 e).2; omega)
                  omega
                · exact h0)
              obtain ⟨a, ha⟩ : ∃ a, st' m = a := ⟨_, rfl⟩
              have HA := Lib.hid ha
              rw [ha] at cm hab HKm HOUT
              have wm : IntKind.i64.wrap (m : Int) = (m : Int) := IntWalk.i64_in _ (by omega)
              clear hx hcn ha
              by_cases hno : x = 0
              · subst hno
                have HF := Lib.hid (HS.out.no HIM.out (show rok upOk k st' m = false by unfold rok; rw [HCN.out]; rfl))
                simp only [Int.natCast_zero] at hc
                clear HS HKm HOUT
                go_wp2
                go_quiet (fail)
                go_wp2
                exact ⟨⟨m + 1, r, by omega, by simp, rfl, HF, _, rfl⟩, by simp [intOf]; omega⟩
              · have hx1 : 0 < x := by omega
                have hx2 : decide ((0 : Int) < (x : Int)) = true := decide_eq_true (by omega)
                have hok : rok upOk k st' m = true := by unfold rok; rw [HCN.out, decide_eq_true (by omega)]; rfl
                rcases HS.out with ⟨hr1, hpn⟩ | ⟨j, e, hj, hr1, he1, hpn⟩
                · subst hr1
                  have HF := Lib.hid (Bst.first hpn HIM.out hok)
                  clear HS hpn hok HKm HOUT
                  go_wp2
                  go_quiet (fail)
                  go_wp2
                  exact ⟨⟨m + 1, m, by omega, by simp, rfl, HF, _, rfl⟩, by simp [intOf]; omega⟩
                · rw [range_get (by omega)] at he1
                  obtain rfl := Option.some.inj he1
                  subst hr1
                  have hjN : j < N := by omega
                  obtain ⟨y, hy⟩ : ∃ y, k[j]? = some y := ⟨_, List.getElem?_eq_getElem (by rw [HN.out]; exact hjN)⟩
                  obtain ⟨ad2, had, hc2⟩ := HRR.out j (nv y) (by rw [List.getElem?_map, hy]; rfl)
                  obtain rfl := Option.some.inj had
                  simp only [nv] at hc2
                  have hcj : cn k j = y := by unfold cn; rw [hy]; rfl
                  have hyT : y ≤ T := by rw [← HT.out, ← hcj]; exact cn_le j
                  have cj := HO.out.cell hjN
                  have hfb := HST.out j
                  have HKj : upKf (shr k s j - st' j * (T : Int)) = upKf (((y * s : Nat) : Int) - st' j * (T : Int)) := by unfold shr; rw [hcj]
                  obtain ⟨f, hf⟩ : ∃ f, st' j = f := ⟨_, rfl⟩
                  rw [hf] at cj hfb HKj
                  have hM1 : upKf (((y * s : Nat) : Int) - f * (T : Int)) < upKf (((x * s : Nat) : Int) - a * (T : Int)) → Bst (rok upOk k st') (fun i => upKf (shr k s i - st' i * (T : Int))) (List.range N) (m + 1) (m : Int) := fun h => Bst.more hpn HIM.out hok (by rw [hf, HKj, HA.out, HKm.out]; exact h)
                  have hM2 : ¬ upKf (((y * s : Nat) : Int) - f * (T : Int)) < upKf (((x * s : Nat) : Int) - a * (T : Int)) → Bst (rok upOk k st') (fun i => upKf (shr k s i - st' i * (T : Int))) (List.range N) (m + 1) (j : Int) := fun h => Bst.less hpn hj (range_get hjN) HIM.out (by rw [hf, HKj, HA.out, HKm.out]; exact h)
                  have hXb := mul_bd (s := s) (show x ≤ 1099511627776 by omega) hs5
                  have hYb := mul_bd (s := s) (show y ≤ 1099511627776 by omega) hs5
                  have hPb := mulT_bd hab hT
                  have hQb := mulT_bd hfb hT
                  obtain ⟨X, hX⟩ : ∃ X, x * s = X := ⟨_, rfl⟩
                  obtain ⟨Y, hY⟩ : ∃ Y, y * s = Y := ⟨_, rfl⟩
                  obtain ⟨P, hP⟩ : ∃ P, a * (T : Int) = P := ⟨_, rfl⟩
                  obtain ⟨Q, hQ⟩ : ∃ Q, f * (T : Int) = Q := ⟨_, rfl⟩
                  have e1 : (x : Int) * (s : Int) = (X : Int) := by rw [← hX]; exact (Int.natCast_mul x s).symm
                  have e2 : (y : Int) * (s : Int) = (Y : Int) := by rw [← hY]; exact (Int.natCast_mul y s).symm
                  rw [hX] at hXb hM1 hM2
                  rw [hY] at hYb hM1 hM2
                  rw [hP] at hPb hM1 hM2
                  rw [hQ] at hQb hM1 hM2
                  have hv1 : IntKind.i64.wrap ((X : Int) - P) = (X : Int) - P := IntWalk.i64_in _ (by omega)
                  have hv2 : IntKind.i64.wrap ((Y : Int) - Q) = (Y : Int) - Q := IntWalk.i64_in _ (by omega)
                  have hwX : IntKind.i64.wrap (X : Int) = (X : Int) := IntWalk.i64_in _ (by omega)
                  have hwY : IntKind.i64.wrap (Y : Int) = (Y : Int) := IntWalk.i64_in _ (by omega)
                  have hwP : IntKind.i64.wrap P = P := IntWalk.i64_in _ (by omega)
                  have hwQ : IntKind.i64.wrap Q = Q := IntWalk.i64_in _ (by omega)
                  have wj : IntKind.i64.wrap (j : Int) = (j : Int) := IntWalk.i64_in _ (by omega)
                  have HM1 := Lib.hid hM1
                  have HM2 := Lib.hid hM2
                  have dj : decide ((j : Int) < 0) = false := decide_eq_false (by omega)
                  clear hM1 hM2 hX hY hy hcj HKj hf HKm HOUT hpn hok HS HCN HA
                  by_cases hcmp : (Y : Int) - Q < (X : Int) - P
                  · have hcd : decide ((Y : Int) - Q < (X : Int) - P) = true := decide_eq_true hcmp
                    have HF := Lib.hid (HM1.out (by show (Y : Int) - Q < (X : Int) - P; omega))
                    clear HM1 HM2
                    go_wp2
                    go_quiet (fail)
                    go_wp2
                    exact ⟨⟨m + 1, m, by omega, by simp, rfl, HF, _, rfl⟩, by simp [intOf]; omega⟩
                  · have hcd : decide ((Y : Int) - Q < (X : Int) - P) = false := decide_eq_false hcmp
                    have HF := Lib.hid (HM2.out (by show ¬ ((Y : Int) - Q < (X : Int) - P); omega))
                    clear HM1 HM2
                    go_wp2
                    go_quiet (fail)
                    go_wp2
                    exact ⟨⟨m + 1, j, by omega, by simp, rfl, HF, _, rfl⟩, by simp [intOf]; omega⟩
            · have hmN : N = m := by omega
              subst hmN
              obtain ⟨j, hjn, rfl, hji⟩ := HS.out.found (by simp) HPK.out
              rw [range_get hjn] at hji
              obtain rfl := Option.some.inj hji
              have cb := HO.out.cell hjn
              have fb := World.ownsRow.frozenAt HO.out j
              obtain ⟨x, hx⟩ : ∃ x, st' j = x := ⟨_, rfl⟩
              rw [hx] at cb hstb
              have HO2 : Hid (Row (wr.setCell ⟨g, j, none⟩ (.int .i64 (x + 1))) g g N (fun a => if a = j then st' j + 1 else st' a)) := Lib.hid (by rw [hx]; exact HO.out.set j _)
              have HB2 : Hid (Below g w2 (wr.setCell ⟨g, j, none⟩ (.int .i64 (x + 1)))) := Lib.hid (HB.out.setCell (p := ⟨g, j, none⟩) (Nat.le_refl _) _)
              have HP2 : Hid (Pro 1 upOk upKf (fun z => z.toNat) (usy k) (shr k s) T (st0 k s) ((s : Int) - S0) (fun a => if a = j then st' j + 1 else st' a) ((s : Int) - (S + 1))) := Lib.hid (by
                have := HP.out.step (q := ((s : Int) - S).toNat - 1) HPKU.out (by (try dsimp only); omega) (by (try dsimp only); omega) (usy_nodup k) (by rw [hx]; omega) (by omega)
                rw [show (s : Int) - (S + 1) = (s : Int) - S - 1 by omega]
                exact this)
              clear HS HP HO HB HPK HPKU hx
              go_wp2
              exact ⟨⟨_, S + 1, rfl, by omega, by omega, HP2, Lib.hid (row_drew HO2.out d), Lib.hid (below_drewN' HB2.out d)⟩, by simp [intOf]; omega⟩
        · have HZ : Hid (((s : Int) - S).toNat = 0) := Lib.hid (by omega)
          have hst2 : st' = upN (shr k s) T (usy k) ((s : Int) - S0).toNat (st0 k s) := by
            have h1 := HP.out.todo
            (try dsimp only at h1)
            rw [HZ.out] at h1
            exact h1
          have hS3 : (s : Int) - S = (s : Int) - S0 - 1 * ((s : Int) - S0).toNat := by
            have h2 := HP.out.lef
            (try dsimp only at h2)
            rw [HZ.out] at h2
            rw [← h2]; simp
          have HSUM : Hid ((u : Int) ≤ sm st' (usy k) + ((s : Int) - S)) := Lib.hid (by have h1 := HP.out.sum; have h2 := hS0; unfold lft at h2; omega)
          have HP1 : Hid (Pro (-1) dnOk dnKf (fun z => (-z).toNat) (usy k) (shr k s) T st' ((s : Int) - S) st' ((s : Int) - S)) := Lib.hid (Pro.zero ⟨(rg0 k hs5 HTB.out).sh, fun i hi => by
            have h1 := HP.out.rng.st i hi
            (try dsimp only at h1)
            have h3 := UA.out i hi
            rw [← hst2] at h3
            omega⟩ HP.out.out)
          obtain ⟨st1, hst1⟩ : ∃ st1, st1 = st' := ⟨_, rfl⟩
          obtain ⟨S1, hSS1⟩ : ∃ S1, S1 = S := ⟨_, rfl⟩
          subst hst1
          subst hSS1
          have HROW := HO
          have HP0 := HP1
          have hup := hst2
          have hS4 := hS3
          have hSlow : (s : Int) - S1 ≤ 0 := by omega
          clear HP HO HP1 HZ hst2 hS3
          go_wp2
          go_loopw [10] (fun t wr => ∃ (st' : Nat → Int) (S : Int), t = .int .i64 S ∧ -262144 ≤ (s : Int) - S ∧ (s : Int) - S ≤ 262144 ∧ Hid (Pro (-1) dnOk dnKf (fun z => (-z).toNat) (usy k) (shr k s) T st1 ((s : Int) - S1) st' ((s : Int) - S)) ∧ Hid (Row wr g g N st') ∧ Hid (Below g w2 wr)) (fun t _ => (intOf t - (s : Int)).toNat)
          case atStart => exact ⟨st1, S1, rfl, by omega, by omega, HP0, HROW, HB⟩
          case round =>
            obtain ⟨st', S, rfl, hS1, hS2, HP, HO, HB⟩ := hrel
            by_cases hdue : (s : Int) < S
            · clear HROW HP0
              have hBw : Below w.heap.size w wr := G2.out.trans (HB.out.mono (by omega))
              obtain ⟨b, hbU, hb1, hpk⟩ := dn_pick (sh := shr k s) (t := (T : Int)) (U := usy k) (st := st') (by rw [HU.out]; have h1 := HP.out.sum; have h2 := HSUM.out; omega)
              have hbN : b < N := by rw [← HN.out]; exact (usy_mem.1 hbU).1
              have hstb := HP.out.rng.st b hbU
              (try dsimp only at hstb)
              rw [pick_ref, HN.out] at hpk
              have HPK := Lib.hid hpk
              have HPKU : Hid (pick (fun i => dnOk (st' i)) (fun i => dnKf (shr k s i - st' i * (T : Int))) (usy k) = some b) := Lib.hid (by rw [pick_ref, HN.out]; exact hpk)
              have HRR : Hid (Rn wr A k) := Lib.hid (HR.out.below hBw)
              have HST : Hid (∀ i, 0 ≤ st' i ∧ st' i ≤ 1000000) := Lib.hid (fun i => by
                by_cases hi : i ∈ usy k
                · have := HP.out.rng.st i hi
                  (try dsimp only at this)
                  omega
                · rw [HP.out.out i hi]; omega)
              clear hpk hbU hBw
              go_wp2
              go_loopw [16, 17] (fun q p wi => ∃ (m : Nat) (r : Int), m ≤ N ∧ p = .int .i64 (m : Int) ∧ q = .int .i64 r ∧ Hid (Bst (rok dnOk k st') (fun i => dnKf (shr k s i - st' i * (T : Int))) (List.range N) m r) ∧ ∃ d, wi = wr.drewN d) (fun _ p _ => N - (intOf p).toNat)
              case atStart => exact ⟨0, -1, Nat.zero_le _, rfl, rfl, Lib.hid (Bst.zero _ _ _), 0, rfl⟩
              case round =>
                obtain ⟨m, r, hm, rfl, rfl, HS, d, rfl⟩ := hrel
                by_cases hlt : m < N
                · obtain ⟨x, hx⟩ : ∃ x, k[m]? = some x := ⟨_, List.getElem?_eq_getElem (by rw [HN.out]; exact hlt)⟩
                  obtain ⟨ad, rfl, hc⟩ := HRR.out m (nv x) (by rw [List.getElem?_map, hx]; rfl)
                  simp only [nv] at hc
                  have hcn : cn k m = x := by unfold cn; rw [hx]; rfl
                  have hxT : x ≤ T := by rw [← HT.out, ← hcn]; exact cn_le m
                  have cm := HO.out.cell hlt
                  have hab := HST.out m
                  have HKm : Hid (dnKf (shr k s m - st' m * (T : Int)) = dnKf (((x * s : Nat) : Int) - st' m * (T : Int))) := Lib.hid (by unfold shr; rw [hcn])
                  have HIM : Hid ((List.range N)[m]? = some m) := Lib.hid (range_get hlt)
                  have HCN := Lib.hid hcn
                  have HOUT : Hid (1 < st' m → 0 < x) := Lib.hid (fun h => by
                    rcases Nat.eq_zero_or_pos x with h0 | h0
                    · have h1 := HP.out.out m (fun e => by have := (usy_mem.1 e).2; omega)
                      omega
                    · exact h0)
                  obtain ⟨a, ha⟩ : ∃ a, st' m = a := ⟨_, rfl⟩
                  have HA := Lib.hid ha
                  rw [ha] at cm hab HKm HOUT
                  have wm : IntKind.i64.wrap (m : Int) = (m : Int) := IntWalk.i64_in _ (by omega)
                  clear hx hcn ha
                  by_cases hno : ¬ 1 < a
                  · have hd1 : decide (1 < a) = false := decide_eq_false hno
                    have HF := Lib.hid (HS.out.no HIM.out (show rok dnOk k st' m = false by unfold rok; rw [HA.out]; show (decide (1 < a) && _) = false; rw [hd1]; rfl))
                    clear HS HKm HOUT
                    go_wp2
                    go_quiet (fail)
                    go_wp2
                    exact ⟨⟨m + 1, r, by omega, by simp, rfl, HF, _, rfl⟩, by simp [intOf]; omega⟩
                  · have hx1 : 1 < a := by omega
                    have hx2 : decide (1 < a) = true := decide_eq_true hx1
                    have hok : rok dnOk k st' m = true := by unfold rok; rw [HCN.out, HA.out, decide_eq_true (HOUT.out hx1)]; show (decide (1 < a) && _) = true; rw [hx2]; rfl
                    rcases HS.out with ⟨hr1, hpn⟩ | ⟨j, e, hj, hr1, he1, hpn⟩
                    · subst hr1
                      have HF := Lib.hid (Bst.first hpn HIM.out hok)
                      clear HS hpn hok HKm HOUT
                      go_wp2
                      go_quiet (fail)
                      go_wp2
                      exact ⟨⟨m + 1, m, by omega, by simp, rfl, HF, _, rfl⟩, by simp [intOf]; omega⟩
                    · rw [range_get (by omega)] at he1
                      obtain rfl := Option.some.inj he1
                      subst hr1
                      have hjN : j < N := by omega
                      obtain ⟨y, hy⟩ : ∃ y, k[j]? = some y := ⟨_, List.getElem?_eq_getElem (by rw [HN.out]; exact hjN)⟩
                      obtain ⟨ad2, had, hc2⟩ := HRR.out j (nv y) (by rw [List.getElem?_map, hy]; rfl)
                      obtain rfl := Option.some.inj had
                      simp only [nv] at hc2
                      have hcj : cn k j = y := by unfold cn; rw [hy]; rfl
                      have hyT : y ≤ T := by rw [← HT.out, ← hcj]; exact cn_le j
                      have cj := HO.out.cell hjN
                      have hfb := HST.out j
                      have HKj : dnKf (shr k s j - st' j * (T : Int)) = dnKf (((y * s : Nat) : Int) - st' j * (T : Int)) := by unfold shr; rw [hcj]
                      obtain ⟨f, hf⟩ : ∃ f, st' j = f := ⟨_, rfl⟩
                      rw [hf] at cj hfb HKj
                      have hM1 : dnKf (((y * s : Nat) : Int) - f * (T : Int)) < dnKf (((x * s : Nat) : Int) - a * (T : Int)) → Bst (rok dnOk k st') (fun i => dnKf (shr k s i - st' i * (T : Int))) (List.range N) (m + 1) (m : Int) := fun h => Bst.more hpn HIM.out hok (by rw [hf, HKj, HA.out, HKm.out]; exact h)
                      have hM2 : ¬ dnKf (((y * s : Nat) : Int) - f * (T : Int)) < dnKf (((x * s : Nat) : Int) - a * (T : Int)) → Bst (rok dnOk k st') (fun i => dnKf (shr k s i - st' i * (T : Int))) (List.range N) (m + 1) (j : Int) := fun h => Bst.less hpn hj (range_get hjN) HIM.out (by rw [hf, HKj, HA.out, HKm.out]; exact h)
                      have hXb := mul_bd (s := s) (show x ≤ 1099511627776 by omega) hs5
                      have hYb := mul_bd (s := s) (show y ≤ 1099511627776 by omega) hs5
                      have hPb := mulT_bd hab hT
                      have hQb := mulT_bd hfb hT
                      obtain ⟨X, hX⟩ : ∃ X, x * s = X := ⟨_, rfl⟩
                      obtain ⟨Y, hY⟩ : ∃ Y, y * s = Y := ⟨_, rfl⟩
                      obtain ⟨P, hP⟩ : ∃ P, a * (T : Int) = P := ⟨_, rfl⟩
                      obtain ⟨Q, hQ⟩ : ∃ Q, f * (T : Int) = Q := ⟨_, rfl⟩
                      have e1 : (x : Int) * (s : Int) = (X : Int) := by rw [← hX]; exact (Int.natCast_mul x s).symm
                      have e2 : (y : Int) * (s : Int) = (Y : Int) := by rw [← hY]; exact (Int.natCast_mul y s).symm
                      rw [hX] at hXb hM1 hM2
                      rw [hY] at hYb hM1 hM2
                      rw [hP] at hPb hM1 hM2
                      rw [hQ] at hQb hM1 hM2
                      have hv1 : IntKind.i64.wrap ((X : Int) - P) = (X : Int) - P := IntWalk.i64_in _ (by omega)
                      have hv2 : IntKind.i64.wrap ((Y : Int) - Q) = (Y : Int) - Q := IntWalk.i64_in _ (by omega)
                      have hwX : IntKind.i64.wrap (X : Int) = (X : Int) := IntWalk.i64_in _ (by omega)
                      have hwY : IntKind.i64.wrap (Y : Int) = (Y : Int) := IntWalk.i64_in _ (by omega)
                      have hwP : IntKind.i64.wrap P = P := IntWalk.i64_in _ (by omega)
                      have hwQ : IntKind.i64.wrap Q = Q := IntWalk.i64_in _ (by omega)
                      have wj : IntKind.i64.wrap (j : Int) = (j : Int) := IntWalk.i64_in _ (by omega)
                      have HM1 := Lib.hid hM1
                      have HM2 := Lib.hid hM2
                      have dj : decide ((j : Int) < 0) = false := decide_eq_false (by omega)
                      clear hM1 hM2 hX hY hy hcj HKj hf HKm HOUT hpn hok HS HCN HA
                      by_cases hcmp : (X : Int) - P < (Y : Int) - Q
                      · have hcd : decide ((X : Int) - P < (Y : Int) - Q) = true := decide_eq_true hcmp
                        have HF := Lib.hid (HM1.out (by show -((Y : Int) - Q) < -((X : Int) - P); omega))
                        clear HM1 HM2
                        go_wp2
                        go_quiet (fail)
                        go_wp2
                        exact ⟨⟨m + 1, m, by omega, by simp, rfl, HF, _, rfl⟩, by simp [intOf]; omega⟩
                      · have hcd : decide ((X : Int) - P < (Y : Int) - Q) = false := decide_eq_false hcmp
                        have HF := Lib.hid (HM2.out (by show ¬ (-((Y : Int) - Q) < -((X : Int) - P)); omega))
                        clear HM1 HM2
                        go_wp2
                        go_quiet (fail)
                        go_wp2
                        exact ⟨⟨m + 1, j, by omega, by simp, rfl, HF, _, rfl⟩, by simp [intOf]; omega⟩
                · have hmN : N = m := by omega
                  subst hmN
                  obtain ⟨j, hjn, rfl, hji⟩ := HS.out.found (by simp) HPK.out
                  rw [range_get hjn] at hji
                  obtain rfl := Option.some.inj hji
                  have cb := HO.out.cell hjn
                  have fb := World.ownsRow.frozenAt HO.out j
                  obtain ⟨x, hx⟩ : ∃ x, st' j = x := ⟨_, rfl⟩
                  rw [hx] at cb hstb hb1
                  have HO2 : Hid (Row (wr.setCell ⟨g, j, none⟩ (.int .i64 (x - 1))) g g N (fun a => if a = j then st' j + (-1) else st' a)) := Lib.hid (by rw [hx]; exact HO.out.set j _)
                  have HB2 : Hid (Below g w2 (wr.setCell ⟨g, j, none⟩ (.int .i64 (x - 1)))) := Lib.hid (HB.out.setCell (p := ⟨g, j, none⟩) (Nat.le_refl _) _)
                  have HP2 : Hid (Pro (-1) dnOk dnKf (fun z => (-z).toNat) (usy k) (shr k s) T st1 ((s : Int) - S1) (fun a => if a = j then st' j + (-1) else st' a) ((s : Int) - (S - 1))) := Lib.hid (by
                    have := HP.out.step (q := (-((s : Int) - S)).toNat - 1) HPKU.out (by (try dsimp only); omega) (by (try dsimp only); omega) (usy_nodup k) (by rw [hx]; omega) (by omega)
                    rw [show (s : Int) - (S - 1) = (s : Int) - S - (-1) by omega]
                    exact this)
                  clear HS HP HO HB HPK HPKU hx
                  go_wp2
                  exact ⟨⟨_, S - 1, rfl, by omega, by omega, HP2, Lib.hid (row_drew HO2.out d), Lib.hid (below_drewN' HB2.out d)⟩, by simp [intOf]; omega⟩
            · have HZ : Hid ((-((s : Int) - S)).toNat = 0) := Lib.hid (by omega)
              have hst2 : st' = dnN (shr k s) T (usy k) (-((s : Int) - S1)).toNat st1 := by
                have h1 := HP.out.todo
                (try dsimp only at h1)
                rw [HZ.out] at h1
                exact h1
              have hS3 : (s : Int) - S = (s : Int) - S1 - (-1) * (-((s : Int) - S1)).toNat := by
                have h2 := HP.out.lef
                (try dsimp only at h2)
                rw [HZ.out] at h2
                rw [← h2]; simp
              have HFIN : Hid (st' = fin k s) := Lib.hid (by
                have hl : lft k s = (s : Int) - S0 := by omega
                rw [hst2, hup]
                unfold fin
                rw [HT.out, hl, show (-((s : Int) - S1)).toNat = (-((s : Int) - S0)).toNat by omega])
              rw [HFIN.out] at HO
              have hla : la < N := by rw [HLA2.out]; exact HLT.out
              have HOUT : Hid (∀ i, cn k i = 0 → fin k s i = 0) := Lib.hid (fun i hi => by
                rw [← HFIN.out]
                exact HP.out.out i (fun e => by have := (usy_mem.1 e).2; omega))
              have HO0 : Hid (Row wr g g N (fun j => if j < 0 then nm k s j else fin k s j)) := Lib.hid (HO.out.congr (fun j _ => by simp))
              have HBs := HB
              clear HP HO HROW HP0 HZ hst2 hS3 hup hS4 UA HSUM HFIN OUT
              go_wp2
              go_loopw [18] (fun p wr => ∃ i : Nat, i ≤ la + 1 ∧ p = .int .i64 (i : Int) ∧ Hid (Row wr g g N (fun j => if j < i then nm k s j else fin k s j)) ∧ Hid (Below g w2 wr)) (fun p _ => la + 1 - (intOf p).toNat)
              case atStart => exact ⟨0, by omega, rfl, HO0, HBs⟩
              case round =>
                obtain ⟨i, hi, rfl, HO, HB⟩ := hrel
                clear HO0 HBs
                by_cases hlt : i ≤ la
                · have hiN : i < N := by omega
                  have hBw : Below w.heap.size w wr := G2.out.trans (HB.out.mono (by omega))
                  obtain ⟨x, hx⟩ : ∃ x, k[i]? = some x := ⟨_, List.getElem?_eq_getElem (by rw [HN.out]; exact hiN)⟩
                  obtain ⟨ad, rfl, hc⟩ := HR.out i (nv x) (by rw [List.getElem?_map, hx]; rfl)
                  have hc2 := (hBw.cell (cell_lt hc)).trans hc
                  simp only [nv] at hc2
                  have hcn : cn k i = x := by unfold cn; rw [hx]; rfl
                  have hxT : x ≤ T := by rw [← HT.out, ← hcn]; exact cn_le i
                  have HSM : Hid (∀ y, nm k s i = y → ∀ j, (if j = i then y else if j < i then nm k s j else fin k s j) = if j < i + 1 then nm k s j else fin k s j) := Lib.hid (fun y hy j => by
                    by_cases h1 : j = i
                    · subst h1; rw [if_pos rfl, if_pos (by omega), hy]
                    · rw [if_neg h1]
                      by_cases h2 : j < i
                      · rw [if_pos h2, if_pos (by omega)]
                      · rw [if_neg h2, if_neg (by omega)])
                  have HKP : Hid (nm k s i = fin k s i → Row wr g g N (fun j => if j < i + 1 then nm k s j else fin k s j)) := Lib.hid (fun he => HO.out.congr (fun j _ => by
                    rw [← HSM.out _ he j]
                    by_cases h1 : j = i
                    · subst h1; rw [if_pos rfl, if_neg (by omega)]
                    · rw [if_neg h1]))
                  clear hc hBw hx
                  by_cases hx0 : x = 0
                  · subst hx0
                    simp only [Int.natCast_zero] at hc2
                    have HO2 := Lib.hid (HKP.out (by rw [HOUT.out i hcn, nm, if_pos hcn]))
                    clear hcn HKP
                    go_wp2
                    exact ⟨⟨i + 1, by omega, by simp, HO2, HB⟩, by simp [intOf]; omega⟩
                  · have hx1 : 0 < x := by omega
                    have hx2 : decide ((0 : Int) < (x : Int)) = true := decide_eq_true (by omega)
                    obtain ⟨X, hX⟩ : ∃ X, x * s = X := ⟨_, rfl⟩
                    have hXb : X ≤ 562949953421312 := by rw [← hX]; exact mul_bd (by omega) hs5
                    have e1 : (x : Int) * (s : Int) = (X : Int) := by rw [← hX]; exact (Int.natCast_mul x s).symm
                    by_cases hra : X < T
                    · have hrd : decide ((X : Int) < (T : Int)) = true := decide_eq_true (by omega)
                      have f0 := World.ownsRow.frozenAt HO.out i
                      have r0 := HO.out.cell hiN
                      simp only [Nat.lt_irrefl, if_false] at r0
                      have HO2 : Hid (Row (wr.setCell ⟨g, i, none⟩ (.int .i64 (-1))) g g N (fun j => if j < i + 1 then nm k s j else fin k s j)) := Lib.hid ((HO.out.set i (-1)).congr (fun j _ => HSM.out (-1) (by rw [nm, hcn, if_neg hx0, hX, HT.out, if_pos hra]) j))
                      have HB2 : Hid (Below g w2 (wr.setCell ⟨g, i, none⟩ (.int .i64 (-1)))) := Lib.hid (HB.out.setCell (p := ⟨g, i, none⟩) (Nat.le_refl _) _)
                      clear hX hcn HKP HSM HO
                      go_wp2
                      exact ⟨⟨i + 1, by omega, by simp, HO2, HB2⟩, by simp [intOf]; omega⟩
                    · have hrd : decide ((X : Int) < (T : Int)) = false := decide_eq_false (by omega)
                      have HO2 := Lib.hid (HKP.out (by rw [nm, hcn, if_neg hx0, hX, HT.out, if_neg hra]))
                      clear hX hcn HKP HSM HO
                      go_wp2
                      exact ⟨⟨i + 1, by omega, by simp, HO2, HB⟩, by simp [intOf]; omega⟩
                · have hi2 : i = la + 1 := by omega
                  subst hi2
                  have hsl : ∀ W, (Instr.slice 22 (.slice (some ⟨g, 0, none⟩) N N) none (some (.int .i64 ((la : Int) + 1))) none).run Try.prog W = .ok (.slice (some ⟨g, 0, none⟩) (la + 1) N) W := fun W => slice_hi _ N N (la + 1) (by omega) W
                  have t4 := T2.out.same (W' := wr) (HB.out.block _ (by omega))
                  have c0 := t4.c0
                  have f0 := t4.free 0
                  obtain ⟨Wa, hWa⟩ : ∃ Wa, wr.setCell ⟨w.heap.size, 0, none⟩ (.int .i64 (lg : Int)) = Wa := ⟨_, rfl⟩
                  have ta : Tb Wa w.heap.size lg none 0 0 := by rw [← hWa]; exact t4.set0 lg
                  have c1 := ta.c1
                  have f1 := ta.free 1
                  obtain ⟨Wb, hWb⟩ : ∃ Wb, Wa.setCell ⟨w.heap.size, 1, none⟩ (.slice (some ⟨g, 0, none⟩) (la + 1) N) = Wb := ⟨_, rfl⟩
                  have t5 : Tb Wb w.heap.size lg (some ⟨g, 0, none⟩) (la + 1) N := by rw [← hWb]; exact ta.set1 _ _ _
                  have HRI : Hid (Ri Wb (some ⟨g, 0, none⟩) (nrm k s)) := Lib.hid (by
                    have o5 : Row Wb g g N (fun j => if j < la + 1 then nm k s j else fin k s j) := own_same3 (W := wr) HO.out (fun g' e => by
                      cases e
                      rw [← hWb, ← hWa, Below.heap_setCell _ ⟨w.heap.size, 1, none⟩ _ _ (by show g ≠ w.heap.size; omega), Below.heap_setCell _ ⟨w.heap.size, 0, none⟩ _ _ (by show g ≠ w.heap.size; omega)])
                    have h1 := (Rv.of_own o5).take (la + 1)
                    have e : (rw_ N (fun j => if j < la + 1 then nm k s j else fin k s j)).take (la + 1) = (nrm k s).map iv := nrm_take HLA2.out (by omega)
                    rw [e] at h1
                    exact h1)
                  have HBF : Hid (Below w.heap.size w Wb) := Lib.hid (by
                    rw [← hWb, ← hWa]
                    exact ((G2.out.trans (HB.out.mono (by omega))).setCell (p := ⟨w.heap.size, 0, none⟩) (Nat.le_refl _) _).setCell (p := ⟨w.heap.size, 1, none⟩) (Nat.le_refl _) _)
                  have T5 := Lib.hid t5
                  clear t4 ta t5 HO HB
                  go_wp2
                  refine bodyPost_ret (results_cell2 rfl rfl T5.out.load) rfl ?_
                  exact ⟨g, N, by rw [← HLA2.out]; rfl, HRI.out, HBF.out⟩


end Go.Proofs.Ytkojdhmgefggjaa
