/-
  Proved: the law NormTimes returns true for all counts, Logs and factors: multiplying all counts by a factor does not change the normalized table. No condition.
-/
import Derived.Test.YtkojdhmgefggjaaFrm
import Derived.Test.YtkojdhmgefggjaaRfo
import Derived.Test.YtkojdhmgefggjaaTms
namespace Go.Proofs.Ytkojdhmgefggjaa.normTimes
open Go.ChangeShapes Go.WideShapes Go.ChangeAt Go.RowKit

theorem iv_one (l : List Int) : ∀ u ∈ l.map iv, u.oneCell' = true := by
  intro v hv
  obtain ⟨b, _, rfl⟩ := List.mem_map.1 hv
  rfl

set_option maxRecDepth 100000 in
set_option maxHeartbeats 2000000 in
theorem walk_out (A : Option Addr) (N cap : Nat) (z t : Int) (w : World) (h : 300 < N ∨ t < 1 ∨ 30 < t) :
    Calls Try.prog 10 #[.slice A N cap, .int .i64 z, .int .i64 t] w fun e w' => e = .returned (.bool true) ∧ Below w.heap.size w w' := by
  have KN := Lib.hid (known_any w)
  by_cases h1 : 300 < N
  · have d1 : decide ((300 : Int) < (N : Int)) = true := decide_eq_true (by omega)
    go_enter Try.func10, Try.ntmps10
    go_wp2_with (go_at_call 12; refine KN.out.mono ?_; rintro e w1 ⟨rfl, hb1⟩; have B1 := Lib.hid hb1; clear hb1)
    go_ret
    exact ⟨rfl, B1.out⟩
  · have d1 : decide ((300 : Int) < (N : Int)) = false := decide_eq_false (by omega)
    by_cases h2 : t < 1
    · have d2 : decide (t < 1) = true := decide_eq_true h2
      go_enter Try.func10, Try.ntmps10
      go_wp2_with (go_at_call 12; refine KN.out.mono ?_; rintro e w1 ⟨rfl, hb1⟩; have B1 := Lib.hid hb1; clear hb1)
      go_ret
      exact ⟨rfl, B1.out⟩
    · have d2 : decide (t < 1) = false := decide_eq_false h2
      have d3 : decide (30 < t) = true := decide_eq_true (by omega)
      go_enter Try.func10, Try.ntmps10
      go_wp2_with (go_at_call 12; refine KN.out.mono ?_; rintro e w1 ⟨rfl, hb1⟩; have B1 := Lib.hid hb1; clear hb1)
      go_ret
      exact ⟨rfl, B1.out⟩

theorem same_yes (y : Int) (l : List Int) : sam y y l l = true := by simp [sam]
theorem same_at {w1 w2 w2a : World} {y : Int} {A A2 : Option Addr} {l : List Int} {n c c2 : Nat} (hn : l.length = n) (hb : n ≤ 1000000000) (h1 : Ri w1 A l) (h12 : Below w1.heap.size w1 w2) (h2 : Ri w2 A2 l) (h2a : Below w2.heap.size w2 w2a) :
    Calls Try.prog 17 #[tb y A n c, tb y A2 n c2] w2a fun e w' => e = .returned (.bool true) ∧ Below w2a.heap.size w2a w' := by
  have := rsame_any w2a y y A A2 l l n c n c2 hn hn hb ((h1.below h12).below h2a) (h2.below h2a)
  rw [same_yes] at this
  exact this

set_option maxRecDepth 100000 in
set_option maxHeartbeats 4000000 in
theorem walk_main (A : Option Addr) (l : List Int) (N cap t : Nat) (z : Int) (w : World) (h : N ≤ 300) (ht1 : 1 ≤ t) (ht2 : t ≤ 30) (hN : l.length = N) (hR : Ri w A l) (y e0 : Int) (m : List Int) (n : Nat) (hn : m.length = n) (hnb : n ≤ 1000000000)
    (NA : (∀ x ∈ l, 0 ≤ x ∧ x ≤ 100000000) → ∀ W, Below w.heap.size w W → Calls Try.prog 15 #[.slice A N cap, .int .i64 z] W fun e w' => ∃ A1 c1, e = .returned (.tuple #[tb y A1 n c1, .int .i64 e0]) ∧ Ri w' A1 m ∧ Below W.heap.size W w')
    (NB : (∀ x ∈ l, 0 ≤ x ∧ x ≤ 100000000) → ∀ W B c', Ri W B (l.map (· * (t : Int))) → Calls Try.prog 15 #[.slice B N c', .int .i64 z] W fun e w' => ∃ A2 c2, e = .returned (.tuple #[tb y A2 n c2, .int .i64 e0]) ∧ Ri w' A2 m ∧ Below W.heap.size W w') :
    Calls Try.prog 10 #[.slice A N cap, .int .i64 z, .int .i64 (t : Int)] w fun e w' => e = .returned (.bool true) ∧ Below w.heap.size w w' := by
  have d1 : decide ((300 : Int) < (N : Int)) = false := decide_eq_false (by omega)
  have d2 : decide ((t : Int) < 1) = false := decide_eq_false (by omega)
  have d3 : decide ((30 : Int) < (t : Int)) = false := decide_eq_false (by omega)
  have HN := Lib.hid hN
  have HR := Lib.hid hR
  have HNA := Lib.hid NA
  have HNB := Lib.hid NB
  have HM := Lib.hid hn
  clear hN hR NA NB hn
  go_enter Try.func10, Try.ntmps10
  go_wp2
  go_loopw [7, 8] (fun q p wr => ∃ i : Nat, i ≤ N ∧ p = .int .i64 (i : Int) ∧ Hid (wr.ownsRow w.heap.size 3 1 q i (((l.take i).map (· * (t : Int))).map iv)) ∧ Hid (∀ x ∈ l.take i, 0 ≤ x ∧ x ≤ 100000000) ∧ Hid (Below w.heap.size w wr)) (fun _ p _ => N - (intOf p).toNat)
  case atStart => exact ⟨0, Nat.zero_le _, rfl, Lib.hid (World.ownsRow_nil _ _ _ _), Lib.hid (by simp), Lib.hid (Below.refl _ _)⟩
  case round =>
    obtain ⟨i, hi, rfl, HO, HX, HB⟩ := hrel
    obtain ⟨A', c', rfl, hcc⟩ := own_form HO.out
    by_cases hlt : i < N
    · obtain ⟨x, hx⟩ : ∃ x, l[i]? = some x := ⟨_, List.getElem?_eq_getElem (by rw [HN.out]; exact hlt)⟩
      obtain ⟨ad, rfl, hc⟩ := HR.out i (iv x) (by rw [List.getElem?_map, hx]; rfl)
      have hc2 := (HB.out.cell (cell_lt hc)).trans hc
      simp only [iv] at hc2
      by_cases hbad : x < 0 ∨ 100000000 < x
      · have KN := Lib.hid (known_any wr)
        by_cases hneg : x < 0
        · have dx : decide (x < 0) = true := decide_eq_true hneg
          clear hc hx
          go_wp2_with (go_at_call 12; refine KN.out.mono ?_; rintro e w1 ⟨rfl, hb1⟩; have B1 := Lib.hid (below_on HB.out (Nat.le_refl _) hb1); clear hb1)
          go_ret
          exact ⟨rfl, B1.out⟩
        · have dx : decide (x < 0) = false := decide_eq_false hneg
          have dy : decide (100000000 < x) = true := decide_eq_true (by omega)
          clear hc hx
          go_wp2_with (go_at_call 12; refine KN.out.mono ?_; rintro e w1 ⟨rfl, hb1⟩; have B1 := Lib.hid (below_on HB.out (Nat.le_refl _) hb1); clear hb1)
          go_ret
          exact ⟨rfl, B1.out⟩
      · have dx : decide (x < 0) = false := decide_eq_false (by omega)
        have dy : decide (100000000 < x) = false := decide_eq_false (by omega)
        have hxb : 0 ≤ x ∧ x ≤ 100000000 := by omega
        obtain ⟨P, hP⟩ : ∃ P, x * (t : Int) = P := ⟨_, rfl⟩
        have hPb : 0 ≤ P ∧ P ≤ 3000000000 := by
          rw [← hP]
          have h4 := Int.mul_le_mul hxb.2 (show (t : Int) ≤ 30 by omega) (by omega) (by omega)
          have h5 := Int.mul_nonneg hxb.1 (show (0 : Int) ≤ (t : Int) by omega)
          omega
        have HTK : Hid (((l.take i).map (· * (t : Int))).map iv ++ [.int .i64 P] = ((l.take (i + 1)).map (· * (t : Int))).map iv) := Lib.hid (by rw [take_succ_get hx, List.map_append, List.map_append]; simp [hP])
        have HX2 : Hid (∀ x ∈ l.take (i + 1), 0 ≤ x ∧ x ≤ 100000000) := Lib.hid (fun u hu => by
          rw [take_succ_get hx] at hu
          rcases List.mem_append.1 hu with h1 | h1
          · exact HX.out u h1
          · rw [List.mem_singleton] at h1; subst h1; exact hxb)
        have bl : Below wr.heap.size wr (wr.alloc (.cells #[.int .i64 P] 3)) := (Below.refl _ wr).alloc (Nat.le_refl _) _
        have OL : Hid ((wr.alloc (.cells #[.int .i64 P] 3)).ownsRow w.heap.size 3 1 (.slice A' i c') i (((l.take i).map (· * (t : Int))).map iv)) := Lib.hid (own_below HO.out bl)
        have RL : Hid (Rv (wr.alloc (.cells #[.int .i64 P] 3)) (some ⟨wr.heap.size, 0, none⟩) [.int .i64 P]) := Lib.hid (lit_rv wr [.int .i64 P] _ rfl)
        have BL := Lib.hid (below_on HB.out (Nat.le_refl _) bl)
        have HBS : Hid (w.heap.size ≤ (wr.alloc (.cells #[.int .i64 P] 3)).heap.size) := Lib.hid BL.out.size
        clear hc hx bl HX hbad hxb
        go_wp2_with (at_builtin; refine wpList_append_vals Try.underlying22 int_info rfl rfl _ _ rfl w.heap.size (.slice A' i c') i (((l.take i).map (· * (t : Int))).map iv) rfl OL.out (some ⟨wr.heap.size, 0, none⟩) [.int .i64 P] (by simp [Value.oneCell']) 1 1 rfl rfl RL.out (by omega) (by omega) HBS.out ?_; intro v5 w5 ho5 hg5 he5; have O5 := Lib.hid ho5; have B5 := Lib.hid (BL.out.grown hg5 HBS.out (fun j ej => own_ge3 OL.out ej)); clear ho5 hg5 he5)
        exact ⟨⟨i + 1, by omega, by simp, Lib.hid (by rw [← HTK.out]; exact O5.out), HX2, B5⟩, by simp [intOf]; omega⟩
    · have hiN : N = i := by omega
      subst hiN
      have hall : ∀ x ∈ l, 0 ≤ x ∧ x ≤ 100000000 := by have := HX.out; rwa [List.take_of_length_le (by rw [HN.out]; exact Nat.le_refl _)] at this
      have hro : Ri wr A' (l.map (· * (t : Int))) := by
        have := Rv.of_own HO.out
        rwa [List.take_of_length_le (by rw [HN.out]; exact Nat.le_refl _)] at this
      have H1 := Lib.hid (HNA.out hall wr HB.out)
      have H2 : Hid (∀ w1 o, Below wr.heap.size wr w1 → Calls Try.prog 15 #[.slice A' N c', .int .i64 z] (w1.alloc o) fun e w' => ∃ A2 c2, e = .returned (.tuple #[tb y A2 n c2, .int .i64 e0]) ∧ Ri w' A2 m ∧ Below (w1.alloc o).heap.size (w1.alloc o) w') := Lib.hid (fun w1 o hb => by
        have ba : Below w1.heap.size w1 (w1.alloc o) := (Below.refl _ _).alloc (Nat.le_refl _) _
        exact HNB.out hall (w1.alloc o) A' c' ((hro.below hb).below ba))
      clear HO HX hall hro HNA HNB
      go_wp2_with (first
        | (go_at_call 15; refine (H2.out w1 _ B1.out).mono ?_; rintro e w2 ⟨A2, c2, rfl, hr2, hb2⟩; have R2 := Lib.hid hr2; have q0 := (Tb.new w1 y A1 n c1).below hb2; have B2 := Lib.hid (below_on ((Below.refl _ w1).alloc (Nat.le_refl _) _) (Nat.le_refl _) hb2); have q1 := q0.c0; have q2 := q0.c1; have q3 := (q0.below ((Below.refl _ w2).alloc (Nat.le_refl _) (.cells #[.int .i64 y, .slice A2 n c2] 24))); have q4 := q3.c0; have q5 := q3.c1; clear hr2 hb2 q0 q3)
        | (go_at_call 15; refine H1.out.mono ?_; rintro e w1 ⟨A1, c1, rfl, hr1, hb1⟩; have R1 := Lib.hid hr1; have B1 := Lib.hid hb1; clear hr1 hb1)
        | (go_at_call 17; refine (same_at HM.out hnb R1.out B2.out R2.out ((Below.refl _ w2).alloc (Nat.le_refl _) _)).mono ?_; rintro e w3 ⟨rfl, hb3⟩; have B3 := Lib.hid (below_on (below_on (below_on (below_on HB.out (Nat.le_refl _) B1.out) (Nat.le_refl _) B2.out) (Nat.le_refl _) ((Below.refl _ w2).alloc (Nat.le_refl _) _)) (Nat.le_refl _) hb3); clear hb3)
        | (go_at_call 12; refine (known_any _).mono ?_; rintro e w4 ⟨rfl, hb4⟩; have B4 := Lib.hid (below_on B3.out (Nat.le_refl _) hb4); clear hb4))
      go_ret
      exact ⟨rfl, B4.out⟩

theorem fine_all {l : List Int} (hl : l.length ≤ 300) (h : ∀ x ∈ l, 0 ≤ x ∧ x ≤ 3000000000) : fine l = true := by
  have ht : ∀ m : List Int, (∀ x ∈ m, 0 ≤ x ∧ x ≤ 3000000000) → tot (m.map Int.toNat) ≤ 3000000000 * m.length := by
    intro m
    induction m with
    | nil => intro _; simp [tot]
    | cons x m ih =>
      intro hm
      have h1 := ih (fun u hu => hm u (List.mem_cons_of_mem _ hu))
      have h2 := hm x List.mem_cons_self
      rw [List.map_cons, tot_cons, List.length_cons]
      omega
  unfold fine
  rw [Bool.and_eq_true, decide_eq_true_iff, List.all_eq_true]
  refine ⟨fun x hx => by have := h x hx; simp; omega, ?_⟩
  have := ht l h
  omega
theorem nats_mul {l : List Int} {t : Nat} (h : ∀ x ∈ l, 0 ≤ x) : (l.map (· * (t : Int))).map Int.toNat = mul t (l.map Int.toNat) := by
  unfold mul
  rw [List.map_map, List.map_map]
  refine List.map_congr_left fun x hx => ?_
  obtain ⟨n, rfl⟩ : ∃ n : Nat, x = (n : Int) := ⟨x.toNat, by have := h x hx; omega⟩
  show ((n : Int) * (t : Int)).toNat = (n : Int).toNat * t
  rw [← Int.natCast_mul, Int.toNat_natCast, Int.toNat_natCast]
theorem us_mul {l : List Int} {t : Nat} (ht : 1 ≤ t) (ht2 : t ≤ 30) (hl : l.length ≤ 300) (h : ∀ x ∈ l, 0 ≤ x ∧ x ≤ 100000000) : us (l.map (· * (t : Int))) = us l ∧ may (l.map (· * (t : Int))) = may l := by
  have f1 : fine l = true := fine_all hl (fun x hx => by have := h x hx; omega)
  have f2 : fine (l.map (· * (t : Int))) = true := fine_all (by simpa using hl) (fun x hx => by
    obtain ⟨u, hu, rfl⟩ := List.mem_map.1 hx
    have h1 := h u hu
    have h4 := Int.mul_le_mul h1.2 (show (t : Int) ≤ 30 by omega) (by omega) (by omega)
    have h5 := Int.mul_nonneg h1.1 (show (0 : Int) ≤ (t : Int) by omega)
    show 0 ≤ u * (t : Int) ∧ u * (t : Int) ≤ 3000000000
    omega)
  have e : us (l.map (· * (t : Int))) = us l := by
    unfold us
    rw [f1, f2, nats_mul (fun x hx => (h x hx).1), mul_nus (by omega)]
  exact ⟨e, by unfold may; rw [e]⟩

theorem walk (A : Option Addr) (l : List Int) (cap : Nat) (z t : Int) (w : World) (hR : Ri w A l) (_ : ∀ z ∈ l, -9223372036854775808 ≤ z ∧ z ≤ 9223372036854775807) (_ : l.length ≤ cap) (_ : (Lit.int .i64 z).wf = true) (_ : (Lit.int .i64 t).wf = true) :
    Calls Try.prog 10 #[.slice A l.length cap, .int .i64 z, .int .i64 t] w fun e w' => e = .returned (.bool true) ∧ Below w.heap.size w w' := by
  by_cases h : 300 < l.length ∨ t < 1 ∨ 30 < t
  · exact walk_out A _ cap z t w h
  · obtain ⟨u, rfl⟩ : ∃ u : Nat, t = (u : Int) := ⟨t.toNat, by omega⟩
    have hl : l.length ≤ 300 := by omega
    by_cases hg : good l z
    · obtain ⟨k, lg, rfl, hk, rfl, hgd⟩ := gd_of hg (by omega)
      rw [List.length_map] at h hl ⊢
      have hL : (nrm k (2 ^ lg)).length = lst k + 1 := by simp [nrm]
      refine walk_main A _ k.length cap u lg w hl (by omega) (by omega) (by simp) hR lg 0 (nrm k (2 ^ lg)) (lst k + 1) hL (by have := lst_lt hgd.pos; omega) (fun _ W hb => ?_) (fun hx W B c' hB => ?_)
      · have hRn : Rn W A k := by
          have := hR.below hb
          unfold Ri at this
          rw [ri_nats] at this
          exact this
        refine (normalize_ok W A k k.length cap lg (2 ^ lg) rfl hgd.len hRn hgd.tot hgd.pos hgd.log rfl hgd.use).mono ?_
        rintro e w' ⟨g, rfl, ho, hb'⟩
        exact ⟨_, _, rfl, Rv.of_own ho, hb'⟩
      · have hu := us_mul (t := u) (by omega) (by omega) (by simpa using hl) hx
        have e1 : (k.map (fun n : Nat => (n : Int))).map (· * (u : Int)) = (mul u k).map (fun n : Nat => (n : Int)) := by
          unfold mul
          rw [List.map_map, List.map_map]
          exact List.map_congr_left (fun n _ => by show (n : Int) * (u : Int) = ((n * u : Nat) : Int); exact (Int.natCast_mul n u).symm)
        have hRn : Rn W B (mul u k) := by
          have h1 := hB
          rw [e1] at h1
          unfold Ri at h1
          rw [ri_nats] at h1
          exact h1
        have htot : tot (mul u k) ≤ 1099511627776 := by
          have hm : may ((k.map (fun n : Nat => (n : Int))).map (· * (u : Int))) = true := by rw [hu.2]; exact hg.1
          have hf := fine_tot (may_fine hm).1
          rw [e1, List.map_map] at hf
          have e2 : (mul u k).map (Int.toNat ∘ fun n : Nat => (n : Int)) = mul u k := (List.map_congr_left (g := id) (fun x _ => by simp)).trans (List.map_id _)
          rw [e2] at hf
          exact hf
        refine (normalize_ok W B (mul u k) k.length c' lg (2 ^ lg) mul_len (by omega) hRn htot (by rw [mul_nus (by omega)]; exact hgd.pos) hgd.log rfl (by rw [mul_nus (by omega)]; exact hgd.use)).mono ?_
        rintro e w' ⟨g, rfl, ho, hb'⟩
        rw [mul_nrm (by omega), mul_lst (by omega)] at ho
        exact ⟨some ⟨g, 0, none⟩, lst k + 1, by rw [mul_lst (by omega)], Rv.of_own ho, hb'⟩
    · refine walk_main A l l.length cap u z w hl (by omega) (by omega) rfl hR 0 2 [] 0 rfl (by omega) (fun _ W hb => ?_) (fun hx W B c' hB => ?_)
      · refine (normalize_bad W A l l.length cap z rfl (by omega) (hR.below hb) hg).mono ?_
        rintro e w' ⟨rfl, hb'⟩
        exact ⟨none, 0, rfl, Rv.nil _ _, hb'⟩
      · have hu := us_mul (t := u) (by omega) (by omega) hl hx
        refine (normalize_bad W B _ l.length c' z (by simp) (by omega) hB (fun hg2 => hg ?_)).mono ?_
        · unfold good at hg2 ⊢
          rw [hu.1, hu.2] at hg2
          exact hg2
        · rintro e w' ⟨rfl, hb'⟩
          exact ⟨none, 0, rfl, Rv.nil _ _, hb'⟩

set_option maxRecDepth 100000 in
theorem lifted (os : Os) (started : os.Started) (H : Type) (enc : TypeId × Value → H) :
    ReturnsInHanded {} Try.checked os 10 .any (Rows.normTimesSpec.pre6 enc Try.prog Try.f10 Rows.normTimesRow.domain false) (Rows.normTimesSpec.post enc Try.prog Try.f10 false true false false) := by
  refine returnsInHanded_of_change_sized (C := Try.checked) ownB started (by kernel_rfl) Try.func10
    (ChangeSpec.witness6 (enc := enc) (C := Try.checked) false ⟨#[], #[.slice none 0 0, .int .i64 0, .int .i64 0], []⟩ 8 (by kernel_rfl) (by kernel_rfl) (by kernel_rfl) (by kernel_rfl)) ?_
  intro W base args ds gs before hval0 hW _ hsz0 _
  have hsz : (DataW.weightsEach Try.prog (Try.f10.params.toList ++ Rows.normTimesSpec.plain.varTypes Try.prog) (ds ++ gs)).all (· ≤ reachBytes) = true := hsz0
  clear hsz0
  have hval : ∀ (j : Nat) t v, Try.f10.params[j]? = some t → args[j]? = some v → Value.okWide Try.prog W .any base t v := hval0
  have hW' := hW
  obtain ⟨p, q, hA0, hV, rfl, hfz, hnd⟩ := hW
  have hA : DataW.TrodAll enc Try.prog W 0 (fun _ => true) true Try.f10.params.toList args.toList ds p := hA0
  rw [Try.params10] at hA hval hsz
  obtain ⟨v0, vs0, d0, ds0, p0, q0, hargs, rfl, rfl, h0, r0⟩ := trodAll_cons hA
  obtain ⟨v1, vs1, d1, ds1, p1, q1, rfl, rfl, rfl, h1, r1⟩ := trodAll_cons r0
  obtain ⟨v2, vs2, d2, ds2, p2, q2, rfl, rfl, rfl, h2, r2⟩ := trodAll_cons r1
  obtain ⟨rfl, rfl, rfl⟩ := trodAll_nil r2
  obtain rfl : args = #[v0, v1, v2] := by cases args; simp_all
  obtain ⟨rfl, rfl⟩ := trodVars_none hV
  obtain ⟨a0, len0, cap0, rfl⟩ := okWide_slice Try.underlying22 (hval 0 22 v0 rfl rfl)
  have k0 := h0
  have lt0 : ∀ x ∈ p0, x.block < W.heap.size := by obtain ⟨m, hm⟩ := k0; exact DataW.trod_lt m _ _ _ hm
  obtain ⟨l0, rfl, hc0, ri0, wi0⟩ := open_intl h0
  obtain ⟨a1, rfl, rfl, rfl, w1⟩ := open_int Try.underlying3 (hval 1 3 v1 rfl rfl) h1
  obtain ⟨a2, rfl, rfl, rfl, w2⟩ := open_int Try.underlying3 (hval 2 3 v2 rfl rfl) h2
  clear hA0 hval0
  refine (walk a0 l0 cap0 a1 a2 W ri0 wi0 hc0 w1 w2).mono fun e W' ⟨he, bel⟩ => ?_
  subst he
  exact ⟨_, rfl, _, _, _, [], _, [], hW', trodAll_mk1 (shut_bool Try.underlying4 _), (trodAll_cons_mk (Below.trod laidOut (by kernel_rfl) (of_decide_eq_true (by kernel_rfl)) k0 bel lt0) (trodAll_cons_mk (shut_int Try.underlying3 w1) (trodAll_cons_mk (shut_int Try.underlying3 w2) trodAll_mk0))), rfl, bel.frame _, fun h => by cases h⟩

theorem proved : Rows.NormTimesSaid :=
  OpenClaim.holds_of_wide 10 Try.f10 rfl rfl rfl rfl rfl rfl rfl ⟨rfl, rfl, rfl, rfl, rfl⟩ rfl rfl rfl rfl rfl (by kernel_rfl) Try.func10 (by kernel_rfl)
    (of_decide_eq_true (by kernel_rfl)) (by unfold Func.isWrapper; rw [if_neg (by decide +kernel)]; exact ⟨rfl, rfl⟩)
    (fun os started H enc _ => lifted os started H enc)

#print axioms proved

end Go.Proofs.Ytkojdhmgefggjaa.normTimes
