/-
  What the reference's Greatest, Cost, Counts, at and Add do. Nothing that was there has changed. Conditions: Greatest and Cost at valid counts, Counts at at most 2^31 bytes.
-/
import Derived.Sort.AtCall
import Derived.BigQuiet
import Derived.StillTailTactics
import Derived.Test.YtbbkmmdlpmpaeaaRfA
import Derived.Test.YtbbkmmdlpmpaeaaAdd
import Derived.Test.YtbbkmmdlpmpaeaaHis
namespace Go.Proofs.Ytbbkmmdlpmpaeaa
open Go.RowKit

theorem sym_lt {k : List Nat} {a i : Nat} (h : i < nus k a) : sym k i < a := by
  have e : usd 0 k = usd 0 (k.take a) ++ usd (0 + (k.take a).length) (k.drop a) := by
    conv => lhs; rw [← List.take_append_drop a k, usd_append]
  have h2 : (usd 0 k)[i]? = (usd 0 (k.take a))[i]? := by rw [e, List.getElem?_append_left (by rw [nus] at h; exact h)]
  have h3 : i < (usd 0 (k.take a)).length := h
  obtain ⟨p, hp⟩ : ∃ p, (usd 0 (k.take a))[i]? = some p := ⟨_, List.getElem?_eq_getElem h3⟩
  rw [hp] at h2
  obtain ⟨d, h4, h5, _⟩ := usd_mem (k.take a) 0 p.1 p.2 (List.mem_of_getElem? hp)
  have h6 := (List.getElem?_eq_some_iff.1 h5).1
  rw [List.length_take] at h6
  unfold sym
  rw [h2]
  show p.1 < a
  omega

theorem mf_first {k : List Nat} {a G : Nat} (ha : k[a]? = some G) (hG : 0 < G) (hb : ∀ j x, j < a → k[j]? = some x → x ≠ G) : mfv k G = a ∧ mfe k G = 0 := by
  obtain ⟨_, h2, h3⟩ := nus_some ha hG
  obtain ⟨s1, s2⟩ := usd_get h2
  obtain ⟨r1, r2⟩ := mf_some h3 s2 (fun i hi => by
    have hi3 : i < (usd 0 k).length := by omega
    exact hb _ _ (sym_lt hi) (usd_at hi3).2.1)
  exact ⟨r1.trans s1, r2⟩

theorem gre_eq {k : List Nat} {a G : Nat} (ha : k[a]? = some G) (h : ∀ x ∈ k, x ≤ G) : gre k = G :=
  Nat.le_antisymm (foldl_max_le (by omega) h) (le_gre (List.mem_of_getElem? ha))

theorem used_pos {k : List Nat} {G : Nat} (h : ∀ x ∈ k, x ≤ G) (hu : 0 < (usd 0 k).length) : 0 < G := by
  obtain ⟨_, h2, h3, _⟩ := usd_at hu
  have := h _ (List.mem_of_getElem? h2)
  omega

set_option maxRecDepth 100000 in
set_option maxHeartbeats 1000000 in
theorem rgreat_no (w : World) (A : Option Addr) (l : List Int) (N c : Nat) (hN : l.length = N) (hR : Ri w A l) (hok : ok l = false) :
    Calls Try.prog 27 #[.slice A N c] w fun e w' => e = .returned (.tuple #[.int .i64 0, .int .i64 2]) ∧ ∃ d, w' = w.drewN d := by
  have HC := Lib.hid (right_any w A l N c hN hR)
  rw [hok] at HC
  clear hN hR
  go_enter Try.func27, Try.ntmps27
  go_wp2_with (go_at_call 18; refine HC.out.mono ?_; rintro e w' ⟨rfl, rfl⟩)
  go_ret2
  exact ⟨rfl, 0, rfl⟩

set_option maxRecDepth 100000 in
set_option maxHeartbeats 1000000 in
theorem rgreat_yes (w : World) (A : Option Addr) (k : List Nat) (N c : Nat) (hk : k.length = N) (hv : Vld k) (hR : Rn w A k) :
    Calls Try.prog 27 #[.slice A N c] w fun e w' => e = .returned (.tuple #[nv (mfv k (gre k)), .int .i64 (mfe k (gre k))]) ∧ ∃ d, w' = w.drewN d := by
  have HC := Lib.hid (right_any w A (k.map (fun n : Nat => (n : Int))) N c (by rw [List.length_map]; exact hk) (by show Rv _ _ _; rw [ri_nats]; exact hR))
  rw [ok_of_vld hv] at HC
  have HU := Lib.hid (rused_any w A k N c hk hv hR)
  have hN := hv.1
  rw [hk] at hN
  have HN := Lib.hid hk
  have HRD := Lib.hid hR
  have HV := Lib.hid hv
  obtain ⟨V, hV⟩ : ∃ V, mfv k (gre k) = V := ⟨_, rfl⟩
  obtain ⟨E, hE⟩ : ∃ E, mfe k (gre k) = E := ⟨_, rfl⟩
  rw [hV, hE]
  have HVV := Lib.hid hV
  have HEE := Lib.hid hE
  by_cases hu : (usd 0 k).length = 0
  · rw [hu] at HU
    simp only [Int.natCast_zero] at HU
    obtain ⟨e1, e2⟩ := mf_none (k := k) (G := gre k) (fun i hi => by omega)
    have E1 : Hid (V = 0) := Lib.hid (by rw [← hV]; exact e1)
    have E2 : Hid (E = 22) := Lib.hid (by rw [← hE]; exact e2)
    clear hk hR hv hV hE e1 e2 hu
    go_enter Try.func27, Try.ntmps27
    go_wp2_with (first
      | (go_at_call 18; refine HC.out.mono ?_; rintro e w' ⟨rfl, rfl⟩)
      | (go_at_call 25; refine HU.out.mono ?_; rintro e w' ⟨rfl, rfl⟩))
    go_ret2
    exact ⟨by rw [E1.out, E2.out]; rfl, 0, rfl⟩
  · have hup : 0 < (usd 0 k).length := by omega
    have hN1 : 1 ≤ N := by have := usd_len 0 k; omega
    have HUP := Lib.hid hup
    obtain ⟨U, hU⟩ : ∃ U, (usd 0 k).length = U := ⟨_, rfl⟩
    rw [hU] at HU hup
    have hne : ((U : Int) == 0) = false := by simp; omega
    clear hk hR hv hV hE hu hU
    go_enter Try.func27, Try.ntmps27
    go_wp2_with (first
      | (go_at_call 18; refine HC.out.mono ?_; rintro e w' ⟨rfl, rfl⟩)
      | (go_at_call 25; refine HU.out.mono ?_; rintro e w' ⟨rfl, rfl⟩))
    go_loopw [4, 5] (fun q p wr => ∃ i d a G : Nat, i ≤ N ∧ a < N ∧ q = .int .i64 (a : Int) ∧ p = .int .i64 (i : Int) ∧ Hid (wr = w'.drewN d) ∧ Hid (k[a]? = some G) ∧ G ≤ 2147483648 ∧ Hid (∀ (j x : Nat), j < i → k[j]? = some x → x ≤ G) ∧ Hid (∀ (j x : Nat), j < a → k[j]? = some x → x < G)) (fun _ p _ => N - (intOf p).toNat)
    case atStart =>
      obtain ⟨x, hx⟩ : ∃ x, k[0]? = some x := ⟨_, List.getElem?_eq_getElem (by rw [HN.out]; omega)⟩
      exact ⟨0, 0, 0, x, Nat.zero_le _, by omega, rfl, rfl, Lib.hid rfl, Lib.hid hx, HV.out.2 x (List.mem_of_getElem? hx), Lib.hid (fun j _ h _ => by omega), Lib.hid (fun j _ h _ => by omega)⟩
    case round =>
      obtain ⟨i, d, a, G, hi, ha, rfl, rfl, HW, HG, hG, H1, H2⟩ := hrel
      by_cases hlt : i < N
      · obtain ⟨x, hx⟩ : ∃ x, k[i]? = some x := ⟨_, List.getElem?_eq_getElem (by rw [HN.out]; exact hlt)⟩
        have hxb := HV.out.2 x (List.mem_of_getElem? hx)
        obtain ⟨ad, hA, hc⟩ := HRD.out i (nv x) (by rw [List.getElem?_map, hx]; rfl)
        subst hA
        have hcg := HRD.out.cells a (nv G) (by rw [List.getElem?_map, HG.out]; rfl)
        simp only [nv] at hc hcg
        replace hc : wr.cell? (ad.add i) = some (.int .i64 (x : Int)) := by rw [HW.out]; exact hc
        replace hcg : wr.cell? (ad.add a) = some (.int .i64 (G : Int)) := by rw [HW.out]; exact hcg
        have HX := Lib.hid hx
        clear hx
        by_cases hgt : G < x
        · go_wp2
          go_quiet (fail)
          go_wp2
          refine ⟨⟨i + 1, d + nq, i, x, by omega, hlt, rfl, by simp, Lib.hid (by rw [HW.out, World.drewN_drewN]), HX, hxb, Lib.hid (fun j y hj hy => ?_), Lib.hid (fun j y hj hy => ?_)⟩, by simp [intOf]; omega⟩
          · rcases Nat.lt_or_ge j i with h | h
            · have := H1.out j y h hy; omega
            · rw [show j = i by omega, HX.out] at hy
              cases hy
              exact Nat.le_refl _
          · have := H1.out j y hj hy; omega
        · go_wp2
          go_quiet (fail)
          go_wp2
          refine ⟨⟨i + 1, d + nq, a, G, by omega, ha, rfl, by simp, Lib.hid (by rw [HW.out, World.drewN_drewN]), HG, hG, Lib.hid (fun j y hj hy => ?_), H2⟩, by simp [intOf]; omega⟩
          rcases Nat.lt_or_ge j i with h | h
          · exact H1.out j y h hy
          · rw [show j = i by omega, HX.out] at hy
            cases hy
            omega
      · have hall : ∀ x ∈ k, x ≤ G := fun x hx => by
          obtain ⟨j, hj⟩ := List.getElem?_of_mem hx
          have h9 := (List.getElem?_eq_some_iff.1 hj).1
          rw [HN.out] at h9
          exact H1.out j x (by omega) hj
        have hge := gre_eq HG.out hall
        obtain ⟨e1, e2⟩ := mf_first HG.out (used_pos hall HUP.out) (fun j x hj hx => by have := H2.out j x hj hx; omega)
        have E1 : Hid (V = a) := Lib.hid (by rw [← HVV.out, hge]; exact e1)
        have E2 : Hid (E = 0) := Lib.hid (by rw [← HEE.out, hge]; exact e2)
        clear hall hge e1 e2
        go_wp2
        go_ret2
        exact ⟨by rw [E1.out, E2.out]; rfl, d, HW.out⟩

set_option maxRecDepth 100000 in
set_option maxHeartbeats 1000000 in
theorem rcost_any (w : World) (A : Option Addr) (k : List Nat) (N c : Nat) (hk : k.length = N) (hv : Vld k) (hR : Rn w A k) :
    Calls Try.prog 33 #[.slice A N c] w fun e w' => e = .returned (.int .i64 (cst k : Int)) ∧ ∃ d, w' = w.drewN d := by
  have HT := Lib.hid (rtotal_any w A k N c hk hv hR)
  have hN := hv.1
  have hT := hv.tot
  rw [hk] at hN
  have HN := Lib.hid hk
  have HRD := Lib.hid hR
  have HV := Lib.hid hv
  obtain ⟨R, hRR⟩ : ∃ R, cst k = R := ⟨_, rfl⟩
  rw [hRR]
  have HR := Lib.hid hRR
  obtain ⟨T, hTe⟩ : ∃ T, tot k = T := ⟨_, rfl⟩
  rw [hTe] at HT hT
  have HTE := Lib.hid hTe
  clear hk hv hR hRR hTe
  go_enter Try.func33, Try.ntmps33
  go_wp2_with (go_at_call 24; refine HT.out.mono ?_; rintro e w' ⟨rfl, rfl⟩)
  go_loopw [4, 5] (fun t p wr => ∃ i d s : Nat, i ≤ N ∧ t = .int .i64 (s : Int) ∧ p = .int .i64 (i : Int) ∧ Hid (wr = w'.drewN d) ∧ s ≤ 5629499534213120 ∧ Hid (cstj k (nus k i) = s)) (fun _ p _ => N - (intOf p).toNat)
  case atStart => exact ⟨0, 0, 0, Nat.zero_le _, rfl, rfl, Lib.hid rfl, Nat.zero_le _, Lib.hid (by rw [nus_zero]; rfl)⟩
  case round =>
    obtain ⟨i, d, s, hi, rfl, rfl, HW, hs, HS⟩ := hrel
    by_cases hlt : i < N
    · obtain ⟨x, hx⟩ : ∃ x, k[i]? = some x := ⟨_, List.getElem?_eq_getElem (by rw [HN.out]; exact hlt)⟩
      have hxb := HV.out.2 x (List.mem_of_getElem? hx)
      have hxT := le_tot (List.mem_of_getElem? hx)
      rw [HTE.out] at hxT
      obtain ⟨ad, hA, hc⟩ := HRD.out i (nv x) (by rw [List.getElem?_map, hx]; rfl)
      subst hA
      simp only [nv] at hc
      replace hc : wr.cell? (ad.add i) = some (.int .i64 (x : Int)) := by rw [HW.out]; exact hc
      by_cases hx0 : x = 0
      · subst hx0
        have HN2 := Lib.hid (nus_none hx)
        simp only [Int.natCast_zero] at hc
        clear hx
        go_wp2
        exact ⟨⟨i + 1, d, s, by omega, rfl, by simp, HW, hs, Lib.hid (by rw [HN2.out]; exact HS.out)⟩, by simp [intOf]; omega⟩
      · obtain ⟨n1, n2, n3⟩ := nus_some hx (by omega)
        obtain ⟨s1, s2⟩ := usd_get n2
        have HC : Hid (cstj k (nus k (i + 1)) = s + x * (lg T - lg x)) := Lib.hid (by
          have h9 := fold_succ (fun s _ x => s + x * (lg (tot k) - lg x)) k 0 n3
          rw [s2] at h9
          rw [n1, ← HTE.out, ← HS.out]
          exact h9)
        have hb2 := vld_cstj HV.out (j := nus k (i + 1)) (by rw [n1]; exact n3)
        rw [HC.out] at hb2
        have hx1 : 1 ≤ x := by omega
        have hm := lg_mono hx1 hxT
        have hb := lg_le (by omega) hT
        have hd0 : decide ((0 : Int) < (x : Int)) = true := decide_eq_true (by omega)
        have LT : Hid (∀ W, Calls Try.prog 31 #[.int .i64 (T : Int)] W fun e w' => e = .returned (.int .i64 (lg T : Int)) ∧ w' = W) := Lib.hid (fun W => rlog_any W T (by omega) (by omega))
        have LX : Hid (∀ W, Calls Try.prog 31 #[.int .i64 (x : Int)] W fun e w' => e = .returned (.int .i64 (lg x : Int)) ∧ w' = W) := Lib.hid (fun W => rlog_any W x hx1 (by omega))
        obtain ⟨dd, hde⟩ : ∃ dd, lg T - lg x = dd := ⟨_, rfl⟩
        have e1 : (lg T : Int) - (lg x : Int) = (dd : Int) := by omega
        have e2 : (x : Int) * (dd : Int) = ((x * dd : Nat) : Int) := (Int.natCast_mul x dd).symm
        rw [hde] at HC hb2
        have hddb : dd < 10240 := by omega
        obtain ⟨m, hme⟩ : ∃ m, x * dd = m := ⟨_, rfl⟩
        rw [hme] at HC e2 hb2
        obtain ⟨a, hae⟩ : ∃ a, lg T = a := ⟨_, rfl⟩
        obtain ⟨b, hbe⟩ : ∃ b, lg x = b := ⟨_, rfl⟩
        rw [hae] at e1 LT hb
        rw [hbe] at e1 LX
        clear hx n1 n2 n3 s1 s2 hde hme hm hae hbe hx0 hxT
        go_wp2
        go_quiet ((first
          | (go_at_call_has 31 (Value.int .i64 (T : Int)); exact Calls.quiet_of_same (LT.out _))
          | (go_at_call_has 31 (Value.int .i64 (x : Int)); exact Calls.quiet_of_same (LX.out _))))
        go_wp2
        exact ⟨⟨i + 1, d + nq, s + m, by omega, by simp, by simp, Lib.hid (by rw [HW.out, World.drewN_drewN]), by omega, HC⟩, by simp [intOf]; omega⟩
    · have HE : Hid (s = R) := Lib.hid (by rw [← HS.out, ← HR.out, nus_all k (by rw [HN.out]; omega)]; rfl)
      go_wp2
      go_ret
      exact ⟨by rw [← HE.out]; rfl, d, HW.out⟩

set_option maxHeartbeats 1000000 in
theorem rat_any (w : World) (A : Option Addr) (k : List Nat) (N c i : Nat) (hN : k.length = N) (hR : Rn w A k) :
    Calls Try.prog 46 #[.slice A N c, .int .i64 (i : Int)] w fun e w' => e = .returned (.int .i64 ((k[i]?.getD 0 : Nat) : Int)) ∧ w' = w := by
  by_cases h : N ≤ i
  · rw [List.getElem?_eq_none (by omega)]
    clear hN hR
    go_enter Try.func46, Try.ntmps46
    go_wp2
    go_ret
    exact ⟨rfl, rfl⟩
  · obtain ⟨x, hx⟩ : ∃ x, k[i]? = some x := ⟨_, List.getElem?_eq_getElem (by omega)⟩
    obtain ⟨ad, rfl, hc⟩ := hR i (nv x) (by rw [List.getElem?_map, hx]; rfl)
    simp only [nv] at hc
    rw [hx]
    clear hN hR hx
    go_enter Try.func46, Try.ntmps46
    go_wp2
    go_ret
    exact ⟨rfl, rfl⟩

theorem lit1_rv (w : World) (u : Value) (t : TypeId) : Rv (w.alloc (.cells #[u] t)) (some ⟨w.heap.size, 0, none⟩) [u] := by
  intro j v hj
  rcases j with _ | j
  · simp at hj
    subst hj
    refine ⟨_, rfl, ?_⟩
    have e : (Addr.add ⟨w.heap.size, 0, none⟩ 0) = ⟨w.heap.size, 0, none⟩ := by simp [Addr.add]
    rw [e, cell_of_row _ _ 0 _ _ _ (World.alloc_heap_new w _)]
    rfl
  · simp at hj

/-- The sums of two lists. -/
def radd (k m : List Nat) : List Nat := (List.range (max k.length m.length)).map fun i => k[i]?.getD 0 + m[i]?.getD 0
theorem radd_len (k m : List Nat) : (radd k m).length = max k.length m.length := by simp [radd]
theorem radd_get {k m : List Nat} {i : Nat} (h : i < max k.length m.length) : (radd k m)[i]? = some (k[i]?.getD 0 + m[i]?.getD 0) := by
  unfold radd; rw [List.getElem?_map, List.getElem?_range h]; rfl
theorem radd_comm (k m : List Nat) : radd k m = radd m k := by
  unfold radd
  rw [Nat.max_comm]
  exact List.map_congr_left fun i _ => Nat.add_comm _ _
theorem radd_padd {k m : List Nat} (h : m.length ≤ k.length) : radd k m = padd k m := by
  refine List.ext_getElem? fun i => ?_
  rw [padd_get]
  rcases Nat.lt_or_ge i k.length with hi | hi
  · rw [radd_get (by omega), List.getElem?_eq_getElem hi]; rfl
  · rw [List.getElem?_eq_none (by rw [radd_len]; omega), List.getElem?_eq_none hi]; rfl

set_option maxRecDepth 100000 in
set_option maxHeartbeats 1000000 in
theorem radd_no (w : World) (A : Option Addr) (l : List Int) (N c : Nat) (hN : l.length = N) (hR : Ri w A l) (A2 : Option Addr) (m : List Int) (M c2 : Nat) (hM : m.length = M) (hR2 : Ri w A2 m) (hok : ok l = false ∨ ok m = false) :
    Calls Try.prog 29 #[.slice A N c, .slice A2 M c2] w fun e w' => e = .returned (.tuple #[.slice none 0 0, .int .i64 2]) ∧ w' = w := by
  have HC := Lib.hid (right_any w A l N c hN hR)
  have HD := Lib.hid (right_any w A2 m M c2 hM hR2)
  cases h1 : ok l with
  | false =>
    rw [h1] at HC
    clear hN hR hM hR2 HD
    go_enter Try.func29, Try.ntmps29
    go_wp2_with fail
    refine HC.out.mono ?_
    rintro e w' ⟨rfl, rfl⟩
    go_wp2
    go_ret2
    exact ⟨rfl, rfl⟩
  | true =>
    have h2 : ok m = false := by rcases hok with h | h; (· rw [h1] at h; cases h); exact h
    rw [h1] at HC
    rw [h2] at HD
    clear hN hR hM hR2 hok
    go_enter Try.func29, Try.ntmps29
    go_wp2_with fail
    refine HC.out.mono ?_
    rintro e w' ⟨rfl, rfl⟩
    go_wp2_with fail
    refine HD.out.mono ?_
    rintro e w' ⟨rfl, rfl⟩
    go_wp2
    go_ret2
    exact ⟨rfl, rfl⟩

set_option maxRecDepth 100000 in
set_option maxHeartbeats 1000000 in
theorem radd_yes (w : World) (A : Option Addr) (k : List Nat) (N c : Nat) (hk : k.length = N) (hv : Vld k) (hR : Rn w A k) (A2 : Option Addr) (m : List Nat) (M c2 : Nat) (hm : m.length = M) (hv2 : Vld m) (hR2 : Rn w A2 m) :
    Calls Try.prog 29 #[.slice A N c, .slice A2 M c2] w fun e w' => Below w.heap.size w w' ∧ ((ok ((radd k m).map (fun n : Nat => (n : Int))) = true ∧ ∃ A' c', e = .returned (.tuple #[.slice A' (max N M) c', .int .i64 0]) ∧ w'.ownsRow w.heap.size 3 1 (.slice A' (max N M) c') (max N M) ((radd k m).map nv)) ∨ (ok ((radd k m).map (fun n : Nat => (n : Int))) = false ∧ e = .returned (.tuple #[.slice none 0 0, .int .i64 2]))) := by
  have HC := Lib.hid (right_any w A (k.map (fun n : Nat => (n : Int))) N c (by rw [List.length_map]; exact hk) (by show Rv _ _ _; rw [ri_nats]; exact hR))
  have HD := Lib.hid (right_any w A2 (m.map (fun n : Nat => (n : Int))) M c2 (by rw [List.length_map]; exact hm) (by show Rv _ _ _; rw [ri_nats]; exact hR2))
  rw [ok_of_vld hv] at HC
  rw [ok_of_vld hv2] at HD
  have h1 := hv.1
  have h2 := hv2.1
  rw [hk] at h1
  rw [hm] at h2
  have HK := Lib.hid hk
  have HM := Lib.hid hm
  have HV := Lib.hid hv
  have HV2 := Lib.hid hv2
  have HR := Lib.hid hR
  have HR2 := Lib.hid hR2
  have HLEN : Hid ((radd k m).length = max N M) := Lib.hid (by rw [radd_len, hk, hm])
  obtain ⟨L, hL⟩ : ∃ L, max N M = L := ⟨_, rfl⟩
  rw [hL] at HLEN ⊢
  have hLb : L ≤ 256 := by omega
  have HLL := Lib.hid hL
  have hmx : (if (N : Int) < (M : Int) then (M : Int) else (N : Int)) = (L : Int) := by split <;> omega
  clear hk hm hv hv2 hR hR2 hL
  go_enter Try.func29, Try.ntmps29
  go_wp2_with fail
  refine HC.out.mono ?_
  rintro e w ⟨rfl, rfl⟩
  go_wp2_with fail
  refine HD.out.mono ?_
  rintro e w ⟨rfl, rfl⟩
  go_wp2_with fail
  go_loopw [6, 7] (fun q p wr => ∃ (i cc : Nat) (Aa : Option Addr), i ≤ L ∧ i ≤ cc ∧ q = .slice Aa i cc ∧ p = .int .i64 (i : Int) ∧ Hid (wr.ownsRow w.heap.size 3 1 (.slice Aa i cc) i (((radd k m).take i).map nv)) ∧ Hid (Below w.heap.size w wr)) (fun _ p _ => L - (intOf p).toNat)
  case atStart => exact ⟨0, 0, none, Nat.zero_le _, Nat.le_refl _, rfl, rfl, Lib.hid (World.ownsRow_nil w w.heap.size 3 1), Lib.hid (Below.refl _ _)⟩
  case round =>
    obtain ⟨i, cc, Aa, hi, hcc, rfl, rfl, HO, HB⟩ := hrel
    by_cases hlt : i < L
    · have hg : (radd k m)[i]? = some (k[i]?.getD 0 + m[i]?.getD 0) := radd_get (by rw [HK.out, HM.out, HLL.out]; exact hlt)
      have q1 : k[i]?.getD 0 ≤ 2147483648 := by
        cases h : k[i]? with
        | none => simp
        | some x => exact HV.out.2 x (List.mem_of_getElem? h)
      have q2 : m[i]?.getD 0 ≤ 2147483648 := by
        cases h : m[i]? with
        | none => simp
        | some x => exact HV2.out.2 x (List.mem_of_getElem? h)
      have C1 := Lib.hid (rat_any wr A k N c i HK.out (HR.out.below HB.out))
      have C2 := Lib.hid (rat_any wr A2 m M c2 i HM.out (HR2.out.below HB.out))
      obtain ⟨x, hx⟩ : ∃ x, k[i]?.getD 0 = x := ⟨_, rfl⟩
      obtain ⟨y, hy⟩ : ∃ y, m[i]?.getD 0 = y := ⟨_, rfl⟩
      rw [hx] at hg q1 C1
      rw [hy] at hg q2 C2
      have HT : Hid ((radd k m).take (i + 1) = (radd k m).take i ++ [x + y]) := Lib.hid (take_succ_get hg)
      clear hg hx hy
      have HOB : Hid ((wr.alloc (.cells #[.int .i64 ((x : Int) + (y : Int))] 3)).ownsRow w.heap.size 3 1 (.slice Aa i cc) i (((radd k m).take i).map nv)) := Lib.hid (own_below HO.out ((Below.refl _ wr).alloc (Nat.le_refl _) _))
      have HBB : Hid (Below w.heap.size w (wr.alloc (.cells #[.int .i64 ((x : Int) + (y : Int))] 3))) := Lib.hid (HB.out.alloc HB.out.size _)
      have HLR : Hid (Rv (wr.alloc (.cells #[.int .i64 ((x : Int) + (y : Int))] 3)) (some ⟨wr.heap.size, 0, none⟩) [.int .i64 ((x : Int) + (y : Int))]) := Lib.hid (lit1_rv wr _ 3)
      have HGE : Hid (∀ g, (Value.slice Aa i cc).ownBlock = some g → w.heap.size ≤ g) := Lib.hid (fun g e => own_ge HO.out e)
      go_wp2_with fail
      refine C1.out.mono ?_
      rintro e wr ⟨rfl, rfl⟩
      go_wp2_with fail
      refine C2.out.mono ?_
      rintro e wr ⟨rfl, rfl⟩
      go_wp2_with (at_builtin; refine wpList_append_vals Try.underlying26 int_info rfl rfl _ _ rfl w.heap.size (.slice Aa i cc) i (((radd k m).take i).map nv) rfl HOB.out (some ⟨wr.heap.size, 0, none⟩) [.int .i64 ((x : Int) + (y : Int))] (by simp [Value.oneCell']) 1 1 rfl rfl HLR.out (by omega) (by omega) HBB.out.size ?_; intro v1 w1 ho hg he; obtain ⟨A1, c1, rfl, hc1⟩ := own_form ho; have B1 := Lib.hid (HBB.out.grown hg HBB.out.size HGE.out); have O1 := Lib.hid ho; clear ho hg he)
      refine ⟨⟨i + 1, c1, A1, by omega, hc1, rfl, by simp, Lib.hid (by rw [HT.out, List.map_append]; exact O1.out), B1⟩, by simp [intOf]; omega⟩
    · have hiL : i = L := by omega
      subst hiL
      have HO2 : Hid (wr.ownsRow w.heap.size 3 1 (.slice Aa i cc) i ((radd k m).map nv)) := Lib.hid (by have := HO.out; rwa [List.take_of_length_le (by rw [HLEN.out]; exact Nat.le_refl _)] at this)
      have HZ := Lib.hid (right_any wr Aa ((radd k m).map (fun n : Nat => (n : Int))) i cc (by rw [List.length_map]; exact HLEN.out) (by show Rv _ _ _; rw [ri_nats]; exact Rv.of_own HO2.out))
      cases hz : ok ((radd k m).map (fun n : Nat => (n : Int))) with
      | true =>
        rw [hz] at HZ
        go_wp2_with fail
        refine HZ.out.mono ?_
        rintro e wr ⟨rfl, rfl⟩
        go_wp2
        go_ret2
        exact ⟨HB.out, .inl ⟨hz, Aa, cc, rfl, HO2.out⟩⟩
      | false =>
        rw [hz] at HZ
        go_wp2_with fail
        refine HZ.out.mono ?_
        rintro e wr ⟨rfl, rfl⟩
        go_wp2
        go_ret2
        exact ⟨HB.out, .inr ⟨hz, rfl⟩⟩

end Go.Proofs.Ytbbkmmdlpmpaeaa
